import Derived.Test.YtheolmnjedbjmaaGreatDoorGD
namespace Go.Proofs.YtheolmnjedbjmaaGreatDoor
open Go.RowKit
set_option linter.unusedVariables false
set_option linter.unusedSimpArgs false
/-- what pushing on a list of one's own of the type E leaves -/
structure Pt (B : Nat) (E : TypeId) (w w' : World) : Prop where
  below : Below B w w'
  others : Lib.OthersKept E none w w'
theorem Pt.refl (B : Nat) (E : TypeId) (w : World) : Pt B E w w := ⟨Below.refl _ _, Lib.OthersKept.refl _ _ _⟩
theorem Pt.trans {B : Nat} {E : TypeId} {a b c : World} (h : Pt B E a b) (k : Pt B E b c) : Pt B E a c := ⟨h.below.trans k.below, h.others.trans k.others⟩
theorem Pt.alloc {B : Nat} {E : TypeId} {a b : World} (h : Pt B E a b) (hB : B ≤ a.heap.size) (o : Obj) : Pt B E a (b.alloc o) := ⟨h.below.trans ((Fr.alloc [] b o).below (Nat.le_trans hB h.below.size) (by simp)), h.others.alloc o⟩
theorem Pt.dn {B : Nat} {E : TypeId} {a b : World} (h : Pt B E a b) (hB : B ≤ a.heap.size) (n : Nat) : Pt B E a (b.drewN n) := ⟨h.below.trans ((Fr.drewN [] b n).below (Nat.le_trans hB h.below.size) (by simp)), h.others⟩
theorem Pt.hb {B : Nat} {E : TypeId} {w w' : World} (h : Pt B E w w') {k : Nat} {o : Obj} (hk : w.heap[k]? = some o) (ho : ∀ c fz, o ≠ .cells c E fz) : w'.heap[k]? = some o := h.others k o hk (by simp) ho
theorem Pt.ow {B B' : Nat} {E T : TypeId} {w w' : World} (h : Pt B E w w') (hT : T ≠ E) {sz n : Nat} {v : Value} {xs : List Value} (ho : w.ownsRow B' T sz v n xs) : w'.ownsRow B' T sz v n xs := own_congr ho fun g hg => by
  obtain ⟨cur, hc⟩ := row_block ho hg
  rw [hc]
  exact h.hb hc (fun c fz e => by cases e; exact hT rfl)
theorem Bl.ow {B' : Nat} {T : TypeId} {w w' : World} (h : Bl w w') {sz n : Nat} {v : Value} {xs : List Value} (ho : w.ownsRow B' T sz v n xs) : w'.ownsRow B' T sz v n xs := own_congr ho fun g hg => h.block g (own_lt ho g hg).2
theorem pt_grown {B : Nat} {E : TypeId} {sz : Nat} {w w' : World} {v : Value} {n : Nat} {xs : List Value} (ho : w.ownsRow B E sz v n xs) (hB : B ≤ w.heap.size) (hg : w.grownBy w' v.ownBlock) : Pt B E w w' := by
  refine ⟨(Fr.grown (S := v.ownBlock.toList) hg (fun k hk => by rw [hk]; simp)).below hB (fun b hb => ?_), (Lib.OthersKept.refl E none w).grown hg (fun g hg' => ?_)⟩
  · have : v.ownBlock = some b := by simpa using hb
    exact (own_lt ho b this).1
  · obtain ⟨c, hc⟩ := row_block ho hg'
    exact ⟨c, _, hc⟩
/-- one more at the end of a list of one's own -/
theorem push_own {T E : TypeId} {i : TypeInfo} {z : Value} {sz bt : Nat} (hT : Tryz.prog.underlying T = some (.slice E)) (hi : Tryz.prog.info? E = some i) (hz : i.zero = some z) (hs : i.size = sz) (hby : i.bytes = bt) (hzs : z.cells.size = sz) (hsz : 0 < sz)
    {W : World} {B : Nat} {v : Value} {n : Nat} {xs : List Value} (ho : W.ownsRow B E sz v n xs) (hB : B ≤ W.heap.size) (news : List Value) (hn : news.length = sz) (h1 : ∀ u ∈ news, u.oneCell' = true) (hm : n + 1 ≤ 4611686018427387904) (hl : (n + 1) * bt ≤ 140737488355328) :
    ∃ v' w', (Builtin.append_ #[T, T] T #[v, .slice (some ⟨W.heap.size, 0, none⟩) 1 1]).run Tryz.prog (W.alloc (.cells news.toArray E)) = .ok v' w' ∧ w'.ownsRow B E sz v' (n + 1) (xs ++ news) ∧ Pt B E W w' ∧ Fr v.ownBlock.toList W w' := by
  have ho2 : (W.alloc (.cells news.toArray E)).ownsRow B E sz v n xs := own_congr ho fun g hg => Below.heap_alloc _ _ _ (own_lt ho g hg).2
  have hnew := heap_alloc_new W (.cells news.toArray E)
  obtain ⟨v', w', hr, ho3, hg, -, -⟩ := run_append_own_at (P := Tryz.prog) (w := W.alloc (.cells news.toArray E)) B T T E i z sz bt hT hi hz hs hby hzs hsz v n xs ho2 ⟨W.heap.size, 0, none⟩ 1 1 news (by rw [hn]; omega) (fun j u hu => by
      have : (⟨W.heap.size, 0, none⟩ : Addr).add j = ⟨W.heap.size, j, none⟩ := by rw [Addr.add_mid]; simp
      rw [this, cell_in hnew j]
      simpa using hu) h1 (by unfold maxLen; omega) hl (by simp; omega)
  refine ⟨v', w', hr, ho3, ((Pt.refl B E W).alloc hB _).trans (pt_grown ho2 (by simp; omega) hg), (Fr.alloc _ W _).trans (Fr.grown (S := v.ownBlock.toList) hg (fun k hk => by rw [hk]; simp)) (fun b hb => Or.inl hb)⟩
theorem own_slice {W : World} {B : Nat} {E : TypeId} {sz : Nat} {v : Value} {n : Nat} {xs : List Value} (h : W.ownsRow B E sz v n xs) : ∃ p c, v = .slice p n c := by
  rcases h.2 with ⟨rfl, h0⟩ | ⟨g, cap, cur, rfl, _⟩
  · exact ⟨none, 0, by rw [h0]⟩
  · exact ⟨_, _, rfl⟩
theorem own_cells {W : World} {B : Nat} {E : TypeId} {sz : Nat} {v : Value} {n : Nat} {xs : List Value} (h : W.ownsRow B E sz v n xs) (hn : 0 < n) : ∃ g cap cur, v = .slice (some ⟨g, 0, none⟩) n cap ∧ B ≤ g ∧ W.heap[g]? = some (.cells cur E (0, 0)) ∧ n ≤ cap ∧ cap ≤ maxLen ∧ cur.size = cap * sz ∧ ∀ (j : Nat) (u : Value), xs[j]? = some u → cur[j]? = some u := by
  rcases h.2 with ⟨rfl, h0⟩ | ⟨g, cap, cur, rfl, h1, h2, h3, h4, h5, h6⟩
  · omega
  · refine ⟨g, cap, cur, rfl, h1, h2, h3, h4, h5, fun j u hu => ?_⟩
    rw [← h6, List.getElem?_take] at hu
    split at hu
    · rw [← Array.getElem?_toList]; exact hu
    · cases hu
theorem info9x : (Tryz.prog.info? 9).map (fun i => (i.zero, i.size, i.bytes)) = some (some (.string ⟨#[]⟩), 1, 16) := by kernel_rfl
theorem push_str {W : World} {B : Nat} {v : Value} {n : Nat} {xs : List Value} (ho : W.ownsRow B 9 1 v n xs) (hB : B ≤ W.heap.size) (s : ByteArray) (hm : n ≤ 1099511627776) :
    ∃ v' w', (Builtin.append_ #[38, 38] 38 #[v, .slice (some ⟨W.heap.size, 0, none⟩) 1 1]).run Tryz.prog (W.alloc (.cells #[.string s] 9)) = .ok v' w' ∧ w'.ownsRow B 9 1 v' (n + 1) (xs ++ [.string s]) ∧ Pt B 9 W w' := by
  obtain ⟨i5, ii, iz, is, ib⟩ := info_parts info9x
  obtain ⟨v', w', h1, h2, h3, -⟩ := push_own Tryz.underlying38 ii iz is ib rfl (by decide) ho hB [.string s] rfl (by intro u hu; simp at hu; subst hu; rfl) (by omega) (by omega)
  exact ⟨v', w', h1, h2, h3⟩
end Go.Proofs.YtheolmnjedbjmaaGreatDoor

namespace Go.Proofs.YtheolmnjedbjmaaGreatDoor
open Go.RowKit
set_option linter.unusedVariables false
set_option linter.unusedSimpArgs false
attribute [local go_sem ↓] Go.wp_at_zero Go.wp_at_succ
/-- texts as values -/
def strs (l : List ByteArray) : List Value := l.map Value.string
def mark8 : List ByteArray := List.replicate 8 ⟨#[109, 97, 114, 107]⟩
theorem strs_take (l : List ByteArray) (j : Nat) (hj : j < l.length) : strs (l.take (j + 1)) = strs (l.take j) ++ [.string l[j]] := by
  unfold strs
  rw [List.take_succ_eq_append_getElem hj, List.map_append]
  rfl
theorem mark_take (j : Nat) (hj : j < 8) : mark8.take (j + 1) = mark8.take j ++ [⟨#[109, 97, 114, 107]⟩] := by
  have h : j = 0 ∨ j = 1 ∨ j = 2 ∨ j = 3 ∨ j = 4 ∨ j = 5 ∨ j = 6 ∨ j = 7 := by omega
  rcases h with rfl | rfl | rfl | rfl | rfl | rfl | rfl | rfl
  all_goals rfl
theorem Pt.bl0 {E : TypeId} {w w' : World} (h : Pt w.heap.size E w w') : Bl w w' := h.below
set_option maxRecDepth 100000 in
set_option maxHeartbeats 4000000 in
theorem twin_ok (W : World) (p : Option Addr) (l : List ByteArray) (c : Nat) (hr : Rs W p l) (hl : l.length ≤ 1048576) : Calls Tryz.prog 19 #[.slice p l.length c] W fun e w' => ∃ v', e = .returned v' ∧ w'.ownsRow W.heap.size 9 1 v' (l.length + 8) (strs (l ++ mark8)) ∧ Bl W w' := by
  have HR := mkHid hr
  clear hr
  go_enter Tryz.func19, Tryz.ntmps19
  go_wp2_with fail
  go_loopw [3, 4] (fun o q wr => ∃ j : Nat, j ≤ l.length ∧ q = .int .i64 (j : Int) ∧ Hid (wr.ownsRow W.heap.size 9 1 o j (strs (l.take j)) ∧ Pt W.heap.size 9 W wr)) (fun _ q _ => l.length - (intOf q).toNat)
  case atStart => exact ⟨0, Nat.zero_le _, rfl, ⟨rfl, Or.inl ⟨rfl, rfl⟩⟩, Pt.refl _ _ _⟩
  case round =>
    obtain ⟨j, hj, rfl, hst⟩ := hrel
    have j0 : (0 : Int) ≤ (j : Int) := by omega
    obtain ⟨ho, hf⟩ := hst.out
    by_cases hlt : j < l.length
    · have j1 : (j : Int) < (l.length : Int) := by omega
      obtain ⟨g, off, rfl, c0⟩ := (HR.out.bl hf.bl0) j hlt
      obtain ⟨v2, w2, hr2, ho2, hf2⟩ := push_str ho hf.below.size l[j] (by omega)
      have HR2 := mkHid hr2
      have HX : Hid (w2.ownsRow W.heap.size 9 1 v2 (j + 1) (strs (l.take (j + 1))) ∧ Pt W.heap.size 9 W w2) := ⟨by rw [strs_take l j hlt]; exact ho2, hf.trans hf2⟩
      clear hst ho hf hr2 ho2 hf2
      generalize l[j] = s at *
      go_wp2_with (at_builtin; refine Lib.wpList_append_run _ rfl (.tmp 12) (.tmp 17) 38 38 rfl _ _ rfl rfl _ _ HR2.out ?_)
      go_roundw
      case rel => exact ⟨j + 1, by omega, by go_num, HX.out⟩
      case measure => simp [intOf]; omega
    · have hie : j = l.length := by omega
      subst hie
      have HW : Hid (wr.ownsRow W.heap.size 9 1 u3 (l.length + 0) (strs (l ++ mark8.take 0)) ∧ Pt W.heap.size 9 W wr) := ⟨by
        rw [List.take_of_length_le (Nat.le_refl _)] at ho
        simpa using ho, hf⟩
      clear hst ho hf
      go_wp2_with fail
      go_loopw [3, 5] (fun o q wr => ∃ j : Nat, j ≤ 8 ∧ q = .int .i64 (j : Int) ∧ Hid (wr.ownsRow W.heap.size 9 1 o (l.length + j) (strs (l ++ mark8.take j)) ∧ Pt W.heap.size 9 W wr)) (fun _ q _ => 8 - (intOf q).toNat)
      case atStart => exact ⟨0, Nat.zero_le _, rfl, HW.out⟩
      case round =>
        clear HW
        obtain ⟨j, hj, rfl, hst⟩ := hrel
        have j0 : (0 : Int) ≤ (j : Int) := by omega
        obtain ⟨ho, hf⟩ := hst.out
        by_cases hlt : j < 8
        · have j1 : (j : Int) < 8 := by omega
          obtain ⟨v2, w2, hr2, ho2, hf2⟩ := push_str ho hf.below.size ⟨#[109, 97, 114, 107]⟩ (by omega)
          have HR2 := mkHid hr2
          have HX : Hid (w2.ownsRow W.heap.size 9 1 v2 (l.length + (j + 1)) (strs (l ++ mark8.take (j + 1))) ∧ Pt W.heap.size 9 W w2) := ⟨by
            rw [mark_take j hlt, ← List.append_assoc]
            unfold strs
            rw [List.map_append]
            exact ho2, hf.trans hf2⟩
          clear hst ho hf hr2 ho2 hf2
          go_wp2_with (at_builtin; refine Lib.wpList_append_run _ rfl (.tmp 23) (.tmp 24) 38 38 rfl _ _ rfl rfl _ _ HR2.out ?_)
          go_roundw
          case rel => exact ⟨j + 1, by omega, by go_num, HX.out⟩
          case measure => simp [intOf]; omega
        · have hie : j = 8 := by omega
          subst hie
          have HX : Hid (wr.ownsRow W.heap.size 9 1 u3 (l.length + 8) (strs (l ++ mark8)) ∧ Bl W wr) := ⟨ho, hf.bl0⟩
          clear hst ho hf
          go_wp2_with fail
          go_ret
          exact ⟨u3, rfl, HX.out.1, HX.out.2⟩
end Go.Proofs.YtheolmnjedbjmaaGreatDoor

