import Derived.Test.YtheolmnjedbjmaaGreatDoorSHe
import Derived.Test.YtheolmnjedbjmaaGreatDoorSNv
import Derived.Test.YtheolmnjedbjmaaGreatDoorGE
namespace Go.Proofs.YtheolmnjedbjmaaGreatDoor
open Go Go.Shelf Go.RowKit
set_option linter.unusedVariables false
set_option linter.unusedSimpArgs false
attribute [local go_sem ↓] Go.wp_at_zero Go.wp_at_succ
/-- a page's bytes can be read -/
theorem Pz.read {W : World} {B : Nat} {v : Value} {bs : Bs} (h : Pz W B v bs) (h0 : bs ≠ []) : ∃ g cap cur fz, v = .slice (some ⟨g, 0, none⟩) bs.length cap ∧ W.heap[g]? = some (.cells cur 5 fz) ∧ ∀ (j : Nat) (u : Value), (Lib.byteCells bs)[j]? = some u → cur[j]? = some u := by
  have hl : 0 < bs.length := by
    cases bs with
    | nil => exact absurd rfl h0
    | cons a l => simp
  rcases h with h | h
  · obtain ⟨g, cap, cur, e, hg, hb, h1, h2, h3, h4⟩ := own_cells h.row hl
    exact ⟨g, cap, cur, (0, 0), e, hb, h4⟩
  · obtain ⟨g, cap, cur, fz, e, hg, hb, h1, h2, h3, h4, h5⟩ := h.at_
    refine ⟨g, cap, cur, fz, e, hb, fun j u hu => ?_⟩
    rw [← h5, List.getElem?_take] at hu
    split at hu
    · rw [← Array.getElem?_toList]; exact hu
    · cases hu
set_option maxRecDepth 100000 in
set_option maxHeartbeats 4000000 in
/-- Write at a fresh builder: a page's bytes -/
theorem Write_fresh (W : World) (B b Bp : Nat) (hB : B ≤ b) (hBw : B ≤ W.heap.size) (hbx : W.heap[b]? = some (.cells #[.pointer none, .slice none 0 0] 56 (0, 0))) (v : Value) (bs : Bs) (hz : Pz W Bp v bs) (h0 : bs ≠ []) (hl : bs.length ≤ 35184372088832) :
    Calls Tryz.prog 20 #[.pointer (some ⟨b, 0, none⟩), v] W fun e w' => (∃ x, e = .returned x) ∧ Lib.BuilderAt 56 5 B b (.pointer (some ⟨b, 0, none⟩)) (Lib.byteCells bs) w' ∧ Below B W w' := by
  obtain ⟨g, cap, cur, fz, rfl, hg, hcur⟩ := hz.read h0
  obtain ⟨i5, ii, iz, is, ib⟩ := info_parts info5x
  have hgb : g ≠ b := by
    intro e
    subst e
    rw [hbx] at hg
    cases hg
  obtain ⟨w1, hw1⟩ : ∃ X, W.setCell ⟨b, 0, none⟩ (.pointer (some ⟨b, 0, none⟩)) = X := ⟨_, rfl⟩
  have hc0 := Any.Builder_copyCheck_fresh bl240 blEx.toX72 b W (lit_in hbx 0 _ rfl) (by simp [World.shape?, hbx]; rfl) (frozen_in hbx 0)
  rw [hw1] at hc0
  have HC := mkHid hc0
  have q1 : w1.heap[b]? = some (.cells #[.pointer (some ⟨b, 0, none⟩), .slice none 0 0] 56 (0, 0)) := by
    rw [← hw1]
    simpa using set_in hbx 0 (.pointer (some ⟨b, 0, none⟩))
  have q2 : w1.heap[g]? = some (.cells cur 5 fz) := by
    rw [← hw1]
    exact (Fr.setCell (S := [b]) W ⟨b, 0, none⟩ _ (by simp)).block g (lt_of_heap hg) (by simpa using hgb) |>.trans hg
  have bw1 : Below B W w1 := by
    rw [← hw1]
    exact (Fr.setCell (S := [b]) W ⟨b, 0, none⟩ _ (by simp)).below hBw (by intro x hx; simp at hx; omega)
  have hz1 : B ≤ w1.heap.size := Nat.le_trans hBw bw1.size
  obtain ⟨v2, w2, hr, ho, hgr, -, -⟩ := run_append_own_at (P := Tryz.prog) (w := w1) B 54 54 5 i5 (.int .u8 0) 1 1 Tryz.underlying54 ii iz is ib rfl (by decide) (.slice none 0 0) 0 [] ⟨by simp, Or.inl ⟨rfl, rfl⟩⟩ ⟨g, 0, none⟩ bs.length cap (Lib.byteCells bs) (by rw [Lib.byteCells_length]; omega) (fun j u hu => by
      have : (⟨g, 0, none⟩ : Addr).add j = ⟨g, j, none⟩ := by rw [Addr.add_mid]; simp
      rw [this, cell_inF q2 j]
      exact hcur j u hu) (byteCells_one bs) (by unfold maxLen; omega) (by omega) hz1
  have f2 : Fr [] w1 w2 := Fr.grown hgr (fun k hk => by cases hk)
  have b2 : Bl w1 w2 := f2.bl
  have q3 := (b2.block _ (lt_of_heap q1)).trans q1
  obtain ⟨p2, c2, rfl⟩ := own_slice ho
  have ho2 : w2.ownsRow B 5 1 (.slice p2 (0 + bs.length) c2) (Lib.byteCells bs).length (Lib.byteCells bs) := by
    have e : (Lib.byteCells bs).length = 0 + bs.length := by rw [Lib.byteCells_length]; omega
    rw [e]
    simpa using ho
  have HX : Hid (Lib.BuilderAt 56 5 B b (.pointer (some ⟨b, 0, none⟩)) (Lib.byteCells bs) (w2.setCell ⟨b, 1, none⟩ (.slice p2 (0 + bs.length) c2)) ∧ Below B W (w2.setCell ⟨b, 1, none⟩ (.slice p2 (0 + bs.length) c2))) := ⟨Lib.BuilderAt.put hB q3 ho2 (by decide), Below.trans bw1 (Below.trans (Below.mono b2 hz1) ((Fr.setCell (S := [b]) w2 ⟨b, 1, none⟩ _ (by simp)).below (Nat.le_trans hz1 b2.size) (by intro x hx; simp at hx; omega)))⟩
  have k1 := lit_in q1 1 _ rfl
  have k2 := lit_in q3 1 _ rfl
  have k3 := frozen_in q3 1
  have HR := mkHid hr
  clear hz hc0 hbx hg q1 q2 q3 ho ho2 hgr f2 b2 bw1 hr hw1
  generalize 0 + bs.length = m2 at *
  go_enter Tryz.func20, Tryz.ntmps20
  go_wp2_with (first
    | (go_at_call 41; refine HC.out.mono ?_; rintro e wx ⟨rfl, hwx⟩; rw [hwx]; clear hwx)
    | (at_builtin; refine Lib.wpList_append_run _ rfl (.tmp 12) (.tmp 13) 54 54 rfl _ _ rfl rfl _ _ HR.out ?_))
  go_ret2
  exact ⟨⟨_, rfl⟩, HX.out⟩
end Go.Proofs.YtheolmnjedbjmaaGreatDoor
