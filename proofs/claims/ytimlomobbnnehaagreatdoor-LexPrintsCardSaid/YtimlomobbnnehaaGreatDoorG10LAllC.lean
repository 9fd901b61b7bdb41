import Derived.Test.YtimlomobbnnehaaGreatDoorG09LPc
import Derived.Laws.IdiomStrings
import Derived.Laws.BytesArg
import Derived.Deep.AppendLies
import Derived.OwnWalk
namespace Go.Proofs.YtimlomobbnnehaaGreatDoor
open Go.RowKit Go.Maps
set_option linter.unusedVariables false
set_option linter.unusedSimpArgs false
/-- what stands between two tokens and is none -/
def Gap (g : Bs) : Prop := g = [32, 9, 10, 13, 32] ∨ ∃ b : Bs, (∀ c ∈ b, c.toNat ≠ 34) ∧ g = 34 :: (b ++ [34])
theorem cmt_of : ∀ (b r : Bs), (∀ c ∈ b, c.toNat ≠ 34) → cmt (b ++ 34 :: r) = some (b.length + 1) := by
  intro b
  induction b with
  | nil => intro r _; rfl
  | cons c b ih =>
    intro r h
    rw [List.cons_append]
    unfold cmt
    rw [if_neg (h c (by simp)), ih r (fun x hx => h x (by simp [hx]))]
    rfl
theorem Lx.blankAs {p : Nat} {c : UInt8} {l : Bs} {ts : List (Tok × Nat)} {e : Option Nat} (hc : isB c.toNat = true) (h : Lx (p + 1) l ts e) : Lx p (c :: l) ts e :=
  .pass _ _ 1 _ _ (by unfold cut; simp [hc]) h
theorem Lx.gap {p : Nat} {g l : Bs} {ts : List (Tok × Nat)} {e : Option Nat} (hg : Gap g) (h : Lx (p + g.length) l ts e) : Lx p (g ++ l) ts e ∧ Gs (g ++ l) := by
  rcases hg with rfl | ⟨b, hb, rfl⟩
  · refine ⟨?_, Or.inr (Or.inl rfl)⟩
    exact blankAs rfl (blankAs rfl (blankAs rfl (blankAs rfl (blankAs rfl h))))
  · refine ⟨?_, Or.inr (Or.inr rfl)⟩
    have e1 : (34 :: (b ++ [34]) ++ l : Bs) = 34 :: (b ++ 34 :: l) := by simp
    have e2 : cut (34 :: (b ++ 34 :: l)) = some (none, b.length + 2) := by
      unfold cut
      have h1 : isB (34 : UInt8).toNat = false := rfl
      have h2 : (34 : UInt8).toNat = 34 := rfl
      simp only [h1, h2, Bool.false_eq_true, if_false, if_true, cmt_of b l hb]
      rfl
    rw [e1]
    refine .pass _ _ _ _ _ e2 ?_
    have e3 : (34 :: (b ++ 34 :: l) : Bs).drop (b.length + 2) = l := by
      rw [show (34 :: (b ++ 34 :: l) : Bs) = (34 :: (b ++ [34])) ++ l by simp, List.drop_append_of_le_length (by simp), List.drop_eq_nil_of_le (by simp)]
      rfl
    rw [e3]
    simpa [Nat.add_assoc] using h
theorem sh_get (d : Nat) (ts : List (Tok × Nat)) {j : Nat} (hj : j < ts.length) : (Lx.sh d ts).getD j noT = ((ts.getD j noT).1, (ts.getD j noT).2 + d) := by
  unfold Lx.sh
  rw [List.getD_eq_getElem?_getD, List.getElem?_map, List.getElem?_eq_getElem hj, List.getD_eq_getElem?_getD, List.getElem?_eq_getElem hj]
  rfl
/-- a source with a gap ahead of its token k -/
theorem Lx.gapped {l g : Bs} {us : List (Tok × Nat)} (h : Lx 0 l us none) (hg : Gap g) {k : Nat} (hk : k ≤ us.length) :
    ((us ++ [(stopT, l.length)]).getD k noT).2 ≤ l.length ∧
    ∃ vs, Lx 0 (l.take ((us ++ [(stopT, l.length)]).getD k noT).2 ++ (g ++ l.drop ((us ++ [(stopT, l.length)]).getD k noT).2)) vs none ∧ vs.length = us.length ∧
      ∀ j, j ≤ us.length → ((vs ++ [(stopT, l.length + g.length)]).getD j noT).1 = ((us ++ [(stopT, l.length)]).getD j noT).1 ∧
        ((vs ++ [(stopT, l.length + g.length)]).getD j noT).2 = ((us ++ [(stopT, l.length)]).getD j noT).2 + if k ≤ j then g.length else 0 := by
  obtain ⟨p, hp, hpl, hcase⟩ : ∃ p, p = ((us ++ [(stopT, l.length)]).getD k noT).2 ∧ p ≤ l.length ∧ ((us.drop k = [] ∧ p = l.length) ∨ ∃ t rest, us.drop k = (t, 0 + p) :: rest) := by
    refine ⟨_, rfl, ?_⟩
    by_cases hn : k < us.length
    · rw [getD_mid us _ hn]
      have h4 := (h.places.1 us[k] (List.getElem_mem hn)).2
      rw [Nat.zero_add] at h4
      exact ⟨by omega, Or.inr ⟨us[k].1, us.drop (k + 1), by rw [List.drop_eq_getElem_cons hn, Nat.zero_add]⟩⟩
    · have he : k = us.length := by omega
      subst he
      rw [getD_last]
      exact ⟨Nat.le_refl _, Or.inl ⟨by simp, rfl⟩⟩
  rw [← hp]
  refine ⟨hpl, us.take k ++ sh g.length (us.drop k), ?_, by simp [sh]; omega, ?_⟩
  · obtain ⟨_, h1, h2⟩ := h.split rfl (us.take k) (us.drop k) p (List.take_append_drop k us).symm hpl hcase
    have h3 := h2.shift g.length
    have hl : (l.take p).length = p := by simp; omega
    have h4 := gap (p := 0 + (l.take p).length) hg (by rw [hl]; exact h3)
    exact join h4.2 h1 rfl h4.1
  · intro j hj
    have hlk : (us.take k).length = k := by simp; omega
    have e1 : (us ++ [(stopT, l.length)]) = us.take k ++ (us.drop k ++ [(stopT, l.length)]) := by rw [← List.append_assoc, List.take_append_drop]
    have e2 : us.take k ++ sh g.length (us.drop k) ++ [(stopT, l.length + g.length)] = us.take k ++ sh g.length (us.drop k ++ [(stopT, l.length)]) := by simp [sh]
    rw [e1, e2]
    by_cases hkj : k ≤ j
    · rw [if_pos hkj]
      have e3 : ∀ ys : List (Tok × Nat), (us.take k ++ ys).getD j noT = ys.getD (j - k) noT := fun ys => by
        rw [List.getD_eq_getElem?_getD, List.getElem?_append_right (by omega), hlk, List.getD_eq_getElem?_getD]
      rw [e3, e3, sh_get _ _ (by simp; omega)]
      exact ⟨rfl, rfl⟩
    · rw [if_neg hkj]
      have e3 : ∀ ys : List (Tok × Nat), (us.take k ++ ys).getD j noT = (us.take k).getD j noT := fun ys => by
        rw [List.getD_eq_getElem?_getD, List.getElem?_append_left (by omega), List.getD_eq_getElem?_getD]
      rw [e3, e3]
      exact ⟨rfl, rfl⟩
end Go.Proofs.YtimlomobbnnehaaGreatDoor

namespace Go.Proofs.YtimlomobbnnehaaGreatDoor
open Go.RowKit Go.Maps
set_option linter.unusedVariables false
set_option linter.unusedSimpArgs false
theorem info5 : (Tryz.prog.info? 5).map (fun i => (i.zero, i.size, i.bytes)) = some (some (.int .u8 0), 1, 1) := by kernel_rfl
def bcs (b : Bs) : List Value := b.map fun c => .int .u8 (c.toNat : Int)
/-- an own row of bytes under way -/
structure BO (w : World) (b : Bs) (v : Value) (W : World) : Prop where
  own : W.ownsRow w.heap.size 5 1 v b.length (bcs b)
  bl : Bl w W
theorem own_blockB {w : World} {base : Nat} {v : Value} {n : Nat} {xs : List Value} (h : w.ownsRow base 5 1 v n xs) {g : Nat} (hg : v.ownBlock = some g) : base ≤ g ∧ g < w.heap.size := by
  rcases h.2 with ⟨rfl, _⟩ | ⟨g', cap, cur, rfl, h1, h2, _⟩
  · cases hg
  · have e : g' = g := by simpa [Value.ownBlock] using hg
    subst e
    exact ⟨h1, lt_of_heap h2⟩
theorem BO.append {w X w5 : World} {b : Bs} {v v' : Value} {c : UInt8} (h : BO w b v X) (hg : (X.alloc (.cells #[.int .u8 (c.toNat : Int)] 5)).grownBy w5 v.ownBlock) (ho : w5.ownsRow w.heap.size 5 1 v' (b.length + 1) (bcs b ++ [.int .u8 (c.toNat : Int)])) : BO w (b ++ [c]) v' w5 where
  own := by
    have e : bcs (b ++ [c]) = bcs b ++ [.int .u8 (c.toNat : Int)] := by simp [bcs]
    rw [e, List.length_append]
    exact ho
  bl := by
    have hb := h.bl.trans (Bl.alloc X (.cells #[.int .u8 (c.toNat : Int)] 5))
    exact ⟨hg.os.trans hb.os, hg.tape.trans hb.tape, hg.output.trans hb.output, Nat.le_trans hb.size hg.size, fun k hk => by
      rw [hg.block k (Nat.lt_of_lt_of_le hk hb.size) (fun e => by have := (own_blockB h.own e.symm).1; omega)]
      exact hb.block k hk⟩
theorem BO.conv {w W : World} {b : Bs} {v : Value} (h : BO w b v W) : (convert 45 9 v).run Tryz.prog W = .ok (.string (ba b)) W := by
  rcases h.own.2 with ⟨rfl, h0⟩ | ⟨g, cap, cur, rfl, h1, h2, h3, h4, h5, h6⟩
  · have hb : b = [] := List.length_eq_zero_iff.1 h0
    subst hb
    exact run_convert_bytes_nil W 45 5 Tryz.underlying45 Tryz.underlying5 0 0 9 Tryz.underlying9
  · refine run_convert_bytes_back W 45 9 5 ⟨g, 0, none⟩ cap b Tryz.underlying45 Tryz.underlying5 Tryz.underlying9 (fun j hj => ?_)
    have hp : (⟨g, 0, none⟩ : Addr).add j = ⟨g, j, none⟩ := by unfold Addr.add; simp; exact fun h => h.symm
    rw [hp, cell_in h2, ← Array.getElem?_toList]
    have h7 : (cur.toList.take (b.length * 1))[j]? = cur.toList[j]? := by rw [List.getElem?_take, if_pos (by omega)]
    rw [← h7, h6]
    simp [bcs, List.getElem?_eq_getElem hj]
end Go.Proofs.YtimlomobbnnehaaGreatDoor

namespace Go.Proofs.YtimlomobbnnehaaGreatDoor
open Go.RowKit Go.Maps
set_option linter.unusedVariables false
set_option linter.unusedSimpArgs false
/-- what text answers -/
def txtR (a : Nat) (o : Option (Bs × Nat)) : Value := match o with
  | none => .tuple #[.string ⟨#[]⟩, .int .i64 0, .bool false]
  | some x => .tuple #[.string (ba x.1), .int .i64 ((a + 1 + x.2 : Nat)), .bool true]
set_option maxHeartbeats 8000000 in
set_option maxRecDepth 1000000 in
theorem rText_ok (s : ByteArray) (a : Nat) (w : World) (ha : a < s.size) (hs : s.size ≤ 140737488355328) : Calls Tryz.prog 77 #[.string s, .int .i64 a] w fun e w' =>
    e = .returned (txtR a (txt ((lst s).drop (a + 1)))) ∧ Bl w w' := by
  obtain ⟨i0, hi, hz0, hz1, hz2⟩ := info_parts info5
  go_enter Tryz.func77, Tryz.ntmps77
  go_wp2
  go_loopw [7, 8] (fun v q wr => ∃ (b : Bs) (i : Nat), q = .int .i64 i ∧ a + 1 ≤ i ∧ i ≤ s.size ∧ b.length ≤ i ∧ Hid (txt ((lst s).drop (a + 1)) = (txt ((lst s).drop i)).map (fun x => (b ++ x.1, x.2 + (i - (a + 1))))) ∧ Hid (BO w b v wr)) (fun _ q _ => s.size - (intOf q).toNat)
  case atStart => exact ⟨[], a + 1, by simp, Nat.le_refl _, by omega, Nat.zero_le _, (by unfold Hid; cases txt ((lst s).drop (a + 1)) <;> simp), ⟨World.ownsRow_nil _ _ _ _, Bl.refl _⟩⟩
  case round =>
    obtain ⟨b, i, rfl, hi0, hi1, hbl, HX, hH⟩ := hrel
    by_cases hlt : i < s.size
    · have hli : (i : Int) < s.size := by omega
      have hown := hH.out.own
      have hwr := hH.out.bl.size
      have hdr : (lst s).drop i = (s[i]'hlt) :: (lst s).drop (i + 1) := List.drop_eq_getElem_cons (by rw [lst_len]; exact hlt)
      by_cases h39 : (s[i]'hlt).toNat = 39
      · have h39i : (((s[i]'hlt).toNat : Int) != 39) = false := by rw [bne_eq_false_iff_eq]; omega
        have his := fun w => rIs_ok s (i + 1) 39 w hs (by omega)
        by_cases hnx : hd ((lst s).drop (i + 1)) = 39
        · rw [decide_eq_true hnx] at his
          have his : ∀ w, Calls Tryz.prog 73 #[.string s, .int .i64 ((i : Int) + 1), .int .u8 39] w fun e w' => e = .returned (.bool true) ∧ w' = w := his
          have hlt2 : i + 1 < s.size := by
            have := hd_lt hnx (by omega)
            rw [List.length_drop, lst_len] at this
            omega
          have hdr2 : (lst s).drop (i + 1) = (s[i + 1]'hlt2) :: (lst s).drop (i + 2) := List.drop_eq_getElem_cons (by rw [lst_len]; exact hlt2)
          have HN : Hid (txt ((lst s).drop (a + 1)) = (txt ((lst s).drop (i + 2))).map (fun x => ((b ++ [39]) ++ x.1, x.2 + (i + 2 - (a + 1))))) := by
            unfold Hid
            have h9 : s[i]'hlt = 39 := UInt8.toNat_inj.1 h39
            rw [hdr2] at hnx
            rw [HX.out, hdr, hdr2, txt_two _ _ _ h39 hnx, h9]
            cases txt ((lst s).drop (i + 2)) with
            | none => rfl
            | some x => simp; omega
          clear hdr hdr2 hnx h39
          go_wp2_with (first | (go_at_call 73; refine (his _).mono ?_; rintro e w1 ⟨rfl, h2⟩; have h3 := h2.symm; subst h3) | (at_builtin; refine wpList_append_lies _ rfl (.tmp 36) (.tmp 37) 45 rfl w.heap.size 5 i0 (.int .u8 0) 1 1 Tryz.underlying45 hi hz0 hz1 hz2 rfl (by decide) _ _ _ rfl (hown.alloc _) ⟨wr.heap.size, 0, none⟩ 1 1 [.int .u8 39] rfl rfl ?c1 ?c2 (by omega) ?c3 ?c4 ?c5 (wr.heap.size + 1) (by simp) ?_))
          case c1 => exact World.news_of_block (heap_alloc_new wr _)
          case c2 => intro u hu; simp at hu; rcases hu with rfl; rfl
          case c3 => unfold maxLen; omega
          case c4 => omega
          case c5 => simp; omega
          intro g3 cap w5 hown' hgrow hat hlt5
          have HT5 := mkHid (BO.append (c := 39) hH.out hgrow hown')
          clear hown' hgrow hown hat
          go_wp2_with fail
          go_roundw
          case rel => exact ⟨b ++ [39], i + 2, by simp, by omega, by omega, by simp; omega, HN.out, HT5.out⟩
          case measure => simp [intOf]; omega
        · rw [decide_eq_false hnx] at his
          have his : ∀ w, Calls Tryz.prog 73 #[.string s, .int .i64 ((i : Int) + 1), .int .u8 39] w fun e w' => e = .returned (.bool false) ∧ w' = w := his
          have HN : Hid (txt ((lst s).drop (a + 1)) = some (b, 1 + (i - (a + 1)))) := by
            unfold Hid
            rw [HX.out, hdr, txt_end h39 hnx]
            simp
          have hcv := hH.out.conv
          clear hdr hnx h39
          go_wp2_with (first | (go_at_call 73; refine (his _).mono ?_; rintro e w1 ⟨rfl, h2⟩; have h3 := h2.symm; subst h3))
          go_ret3
          refine ⟨?_, hH.out.bl⟩
          rw [HN.out]
          unfold txtR
          simp
          omega
      · have h39i : (((s[i]'hlt).toNat : Int) != 39) = true := by rw [bne_iff_ne]; omega
        have HN : Hid (txt ((lst s).drop (a + 1)) = (txt ((lst s).drop (i + 1))).map (fun x => ((b ++ [s[i]'hlt]) ++ x.1, x.2 + (i + 1 - (a + 1))))) := by
          unfold Hid
          rw [HX.out, hdr, txt_one h39]
          cases txt ((lst s).drop (i + 1)) with
          | none => rfl
          | some x => simp; omega
        clear hdr h39
        go_wp2_with (at_builtin; refine wpList_append_lies _ rfl (.tmp 19) (.tmp 23) 45 rfl w.heap.size 5 i0 (.int .u8 0) 1 1 Tryz.underlying45 hi hz0 hz1 hz2 rfl (by decide) _ _ _ rfl (hown.alloc _) ⟨wr.heap.size, 0, none⟩ 1 1 [.int .u8 ((s[i]'hlt).toNat : Int)] rfl rfl ?c1 ?c2 (by omega) ?c3 ?c4 ?c5 (wr.heap.size + 1) (by simp) ?_)
        case c1 => exact World.news_of_block (heap_alloc_new wr _)
        case c2 => intro u hu; simp at hu; rcases hu with rfl; rfl
        case c3 => unfold maxLen; omega
        case c4 => omega
        case c5 => simp; omega
        intro g3 cap w5 hown' hgrow hat hlt5
        have HT5 := mkHid (BO.append hH.out hgrow hown')
        clear hown' hgrow hown hat
        go_wp2_with fail
        go_roundw
        case rel => exact ⟨b ++ [s[i]'hlt], i + 1, by simp, by omega, by omega, by simp; omega, HN.out, HT5.out⟩
        case measure => simp [intOf]; omega
    · have hie : i = s.size := by omega
      have HN : Hid (txt ((lst s).drop (a + 1)) = none) := by
        unfold Hid
        rw [HX.out, List.drop_eq_nil_of_le (by rw [lst_len]; omega)]
        rfl
      subst hie
      go_wp2_with fail
      go_wp2_with fail
      go_ret3
      exact ⟨by rw [HN.out]; rfl, hH.out.bl⟩
end Go.Proofs.YtimlomobbnnehaaGreatDoor

