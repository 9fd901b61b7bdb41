import Derived.Test.YtjbacibicnfaeaaDoorLGap
import Derived.Laws.IdiomStrings
import Derived.Laws.BytesArg
import Derived.Deep.AppendLies
namespace Go.Proofs.YtjbacibicnfaeaaDoor
open Go.RowKit Go.Maps
set_option linter.unusedVariables false
set_option linter.unusedSimpArgs false
theorem info5 : (Tryd.prog.info? 5).map (fun i => (i.zero, i.size, i.bytes)) = some (some (.int .u8 0), 1, 1) := by kernel_rfl
def bcs (b : Bs) : List Value := b.map fun c => .int .u8 (c.toNat : Int)
/-- an own row of bytes under way -/
structure BO (w : World) (b : Bs) (v : Value) (W : World) : Prop where
  own : W.ownsRow w.heap.size 5 1 v b.length (bcs b)
  bl : Bl w W
theorem own_blockB {w : World} {base : Nat} {v : Value} {n : Nat} {xs : List Value} (h : w.ownsRow base 5 1 v n xs) {g : Nat} (hg : v.ownBlock = some g) : base ≤ g ∧ g < w.heap.size := by
  rcases h.2 with ⟨rfl, _⟩ | ⟨g', cap, cur, rfl, h1, h2, _⟩
  · cases hg
  · have e : g' = g := by simpa [Value.ownBlock] using hg
    subst e
    exact ⟨h1, lt_of_heap h2⟩
theorem BO.append {w X w5 : World} {b : Bs} {v v' : Value} {c : UInt8} (h : BO w b v X) (hg : (X.alloc (.cells #[.int .u8 (c.toNat : Int)] 5)).grownBy w5 v.ownBlock) (ho : w5.ownsRow w.heap.size 5 1 v' (b.length + 1) (bcs b ++ [.int .u8 (c.toNat : Int)])) : BO w (b ++ [c]) v' w5 where
  own := by
    have e : bcs (b ++ [c]) = bcs b ++ [.int .u8 (c.toNat : Int)] := by simp [bcs]
    rw [e, List.length_append]
    exact ho
  bl := by
    have hb := h.bl.trans (Bl.alloc X (.cells #[.int .u8 (c.toNat : Int)] 5))
    exact ⟨hg.os.trans hb.os, hg.tape.trans hb.tape, hg.output.trans hb.output, Nat.le_trans hb.size hg.size, fun k hk => by
      rw [hg.block k (Nat.lt_of_lt_of_le hk hb.size) (fun e => by have := (own_blockB h.own e.symm).1; omega)]
      exact hb.block k hk⟩
theorem BO.conv {w W : World} {b : Bs} {v : Value} (h : BO w b v W) : (convert 55 9 v).run Tryd.prog W = .ok (.string (ba b)) W := by
  rcases h.own.2 with ⟨rfl, h0⟩ | ⟨g, cap, cur, rfl, h1, h2, h3, h4, h5, h6⟩
  · have hb : b = [] := List.length_eq_zero_iff.1 h0
    subst hb
    exact run_convert_bytes_nil W 55 5 Tryd.underlying55 Tryd.underlying5 0 0 9 Tryd.underlying9
  · refine run_convert_bytes_back W 55 9 5 ⟨g, 0, none⟩ cap b Tryd.underlying55 Tryd.underlying5 Tryd.underlying9 (fun j hj => ?_)
    have hp : (⟨g, 0, none⟩ : Addr).add j = ⟨g, j, none⟩ := by unfold Addr.add; simp; exact fun h => h.symm
    rw [hp, cell_in h2, ← Array.getElem?_toList]
    have h7 : (cur.toList.take (b.length * 1))[j]? = cur.toList[j]? := by rw [List.getElem?_take, if_pos (by omega)]
    rw [← h7, h6]
    simp [bcs, List.getElem?_eq_getElem hj]
set_option maxHeartbeats 8000000 in
set_option maxRecDepth 1000000 in
theorem comment_ok (s : ByteArray) (bl : Bool) (w : World) (hs : s.size ≤ 140737488355328) : Calls Tryd.prog 15 #[.string s, .bool bl] w fun e w' =>
    ∃ g, e = .returned (.string g) ∧ Gap (lst g) ∧ g.size ≤ 140737488355400 ∧ Bl w w' := by
  cases bl with
  | true =>
    go_enter Tryd.func15, Tryd.ntmps15
    go_wp2
    go_ret
    exact ⟨_, rfl, Or.inl rfl, by decide, Bl.refl _⟩
  | false =>
    obtain ⟨i0, hi, hz0, hz1, hz2⟩ := info_parts info5
    go_enter Tryd.func15, Tryd.ntmps15
    go_wp2
    go_loopw [5, 6] (fun v q wr => ∃ (b : Bs) (i : Nat), q = .int .i64 i ∧ i ≤ s.size ∧ b.length ≤ i ∧ Hid (∀ c ∈ b, c.toNat ≠ 34) ∧ Hid (BO w b v wr)) (fun _ q _ => s.size - (intOf q).toNat)
    case atStart => exact ⟨[], 0, rfl, Nat.zero_le _, Nat.le_refl _, (by unfold Hid; simp), ⟨World.ownsRow_nil _ _ _ _, Bl.refl _⟩⟩
    case round =>
      obtain ⟨b, i, rfl, hi1, hbl, hne, hH⟩ := hrel
      by_cases hlt : i < s.size
      · have hli : (i : Int) < s.size := by omega
        have hown := hH.out.own
        have hwr := hH.out.bl.size
        obtain ⟨c, hc⟩ : ∃ c, c = s[i]'hlt := ⟨_, rfl⟩
        by_cases h34 : (s[i]'hlt).toNat = 34
        · have h34i : ((s[i]'hlt).toNat : Int) = 34 := by omega
          go_wp2_with fail
          go_roundw
          case rel => exact ⟨b, i + 1, by simp, by omega, by omega, hne, hH⟩
          case measure => simp [intOf]; omega
        · have h34i : ¬ ((s[i]'hlt).toNat : Int) = 34 := by omega
          go_wp2_with (at_builtin; refine wpList_append_lies _ rfl (.tmp 18) (.tmp 22) 55 rfl w.heap.size 5 i0 (.int .u8 0) 1 1 Tryd.underlying55 hi hz0 hz1 hz2 rfl (by decide) _ _ _ rfl (hown.alloc _) ⟨wr.heap.size, 0, none⟩ 1 1 [.int .u8 ((s[i]'hlt).toNat : Int)] rfl rfl ?c1 ?c2 (by omega) ?c3 ?c4 ?c5 (wr.heap.size + 1) (by simp) ?_)
          case c1 => exact World.news_of_block (heap_alloc_new wr _)
          case c2 => intro u hu; simp at hu; rcases hu with rfl; rfl
          case c3 => unfold maxLen; omega
          case c4 => omega
          case c5 => simp; omega
          intro g3 cap w5 hown' hgrow hat hlt5
          have HT5 := mkHid (BO.append hH.out hgrow hown')
          clear hown' hgrow hown hat
          go_wp2_with fail
          go_roundw
          case rel => exact ⟨b ++ [s[i]'hlt], i + 1, by simp, by omega, by simp; omega, (by
            intro x hx
            rcases List.mem_append.1 hx with h | h
            · exact hne.out x h
            · rw [List.mem_singleton.1 h]; exact h34), HT5.out⟩
          case measure => simp [intOf]; omega
      · have hie : i = s.size := by omega
        have hli : ¬ (i : Int) < s.size := by omega
        have hcv := hH.out.conv
        have hbs : (ba b).size = b.length := by rw [← lst_len, lst_ba]
        clear hie
        go_wp2_with fail
        go_ret
        refine ⟨_, rfl, Or.inr ⟨b, hne.out, ?_⟩, ?_, hH.out.bl⟩
        · rw [append_lst, append_lst, lst_ba]; rfl
        · rw [← lst_len, append_lst, append_lst, lst_ba]; simp [lst]; omega
end Go.Proofs.YtjbacibicnfaeaaDoor
