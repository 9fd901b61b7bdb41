import Derived.Test.YtheolmnjedbjmaaGreatDoorSTi
namespace Go.Proofs.YtheolmnjedbjmaaGreatDoor
open Go.RowKit
set_option linter.unusedVariables false
set_option linter.unusedSimpArgs false
attribute [local go_sem ↓] Go.wp_at_zero Go.wp_at_succ
set_option maxRecDepth 100000 in
set_option maxHeartbeats 16000000 in
theorem samePlay_ok (W : World) (g1 o1 c1 g2 o2 c2 : Nat) (a : AK) (q1 q2 : Option Addr) (k1 k2 : Nat) (h1 : Aw W g1 o1 a q1 k1) (h2 : Aw W g2 o2 a q2 k2) (hl : a.names.length ≤ 1048576) : Calls Tryz.prog 14 #[.agg #[.int .i64 0, .int .i64 0, .slice (some ⟨g1, o1, none⟩) 1 c1], .agg #[.int .i64 0, .int .i64 0, .slice (some ⟨g2, o2, none⟩) 1 c2]] W fun e w' => e = .returned (.bool true) ∧ Bl W w' := by
  obtain ⟨W1, hW1⟩ : ∃ X, (W.alloc (.cells (plC g1 o1 c1) 24)).alloc (.cells (plC g2 o2 c2) 24) = X := ⟨_, rfl⟩
  have z0 : (W.alloc (.cells (plC g1 o1 c1) 24)).heap.size = W.heap.size + 1 := by simp
  have b1 : Bl W W1 := by rw [← hW1]; exact (Bl.alloc _ _).trans (Bl.alloc _ _)
  have qp : W1.heap[W.heap.size]? = some (.cells (plC g1 o1 c1) 24 (0, 0)) := by
    rw [← hW1]
    exact (Below.heap_alloc _ _ _ (by simp)).trans (heap_alloc_new W _)
  have qh : W1.heap[W.heap.size + 1]? = some (.cells (plC g2 o2 c2) 24 (0, 0)) := by
    rw [← hW1, ← z0]
    exact heap_alloc_new _ _
  have p0 := lit_in qp 0 (.int .i64 0) rfl
  have p1 := lit_in qp 1 (.int .i64 0) rfl
  have p2 := lit_in qp 2 (.slice (some ⟨g1, o1, none⟩) 1 c1) rfl
  have r0 := lit_in qh 0 (.int .i64 0) rfl
  have r1 := lit_in qh 1 (.int .i64 0) rfl
  have r2 := lit_in qh 2 (.slice (some ⟨g2, o2, none⟩) 1 c2) rfl
  have HS : Hid (∀ U, Bl W1 U → U.cell? ⟨W.heap.size, 2, none⟩ = some (.slice (some ⟨g1, o1, none⟩) 1 c1) ∧ U.cell? ⟨W.heap.size + 1, 2, none⟩ = some (.slice (some ⟨g2, o2, none⟩) 1 c2) ∧ U.cell? ⟨g1, o1, none⟩ = some (.int .i64 a.kind) ∧ U.cell? ⟨g1, o1 + 1, none⟩ = some (.string a.name) ∧ U.cell? ⟨g1, o1 + 2, none⟩ = some (.string a.other) ∧ U.cell? ⟨g1, o1 + 3, none⟩ = some (.slice q1 a.names.length k1) ∧ U.cell? ⟨g1, o1 + 4, none⟩ = some (.string a.text) ∧ U.cell? ⟨g1, o1 + 5, none⟩ = some (.int .i64 a.num) ∧ U.cell? ⟨g1, o1 + 6, none⟩ = some (.int .i64 a.fuel) ∧ U.cell? ⟨g2, o2, none⟩ = some (.int .i64 a.kind) ∧ U.cell? ⟨g2, o2 + 1, none⟩ = some (.string a.name) ∧ U.cell? ⟨g2, o2 + 2, none⟩ = some (.string a.other) ∧ U.cell? ⟨g2, o2 + 3, none⟩ = some (.slice q2 a.names.length k2) ∧ U.cell? ⟨g2, o2 + 4, none⟩ = some (.string a.text) ∧ U.cell? ⟨g2, o2 + 5, none⟩ = some (.int .i64 a.num) ∧ U.cell? ⟨g2, o2 + 6, none⟩ = some (.int .i64 a.fuel)) := fun U hU => by
    have x := h1.bl (b1.trans hU)
    have y := h2.bl (b1.trans hU)
    refine ⟨lit_in ((hU.block _ (lt_of_heap qp)).trans qp) 2 _ rfl, lit_in ((hU.block _ (lt_of_heap qh)).trans qh) 2 _ rfl, x.cells 0 _ rfl, x.cells 1 _ rfl, x.cells 2 _ rfl, x.cells 3 _ rfl, x.cells 4 _ rfl, x.cells 5 _ rfl, x.cells 6 _ rfl, y.cells 0 _ rfl, y.cells 1 _ rfl, y.cells 2 _ rfl, y.cells 3 _ rfl, y.cells 4 _ rfl, y.cells 5 _ rfl, y.cells 6 _ rfl⟩
  have HC : Hid (Calls Tryz.prog 29 #[.agg #[.int .i64 a.kind, .string a.name, .string a.other, .slice q1 a.names.length k1, .string a.text, .int .i64 a.num, .int .i64 a.fuel], .agg #[.int .i64 a.kind, .string a.name, .string a.other, .slice q2 a.names.length k2, .string a.text, .int .i64 a.num, .int .i64 a.fuel]] W1.drew fun e w' => e = .returned (.bool true) ∧ Bl W1.drew w') := by
    refine (same_ok W1.drew a a q1 q2 k1 k2 ((h1.bl (b1.trans (bl_drew W1))).names) ((h2.bl (b1.trans (bl_drew W1))).names) (by omega) (by omega)).mono ?_
    rintro e w' ⟨rfl, h⟩
    exact ⟨by rw [decide_eq_true rfl], h⟩
  have HB := mkHid b1
  clear h1 h2 b1 qp qh z0
  go_enter Tryz.func14, Tryz.ntmps14
  go_wp2_with fail
  go_loopw [5] (fun x wr => (x = .int .i64 0 ∧ wr = W1) ∨ (x = .int .i64 1 ∧ Hid (Bl W1 wr))) (fun x _ => 1 - (intOf x).toNat)
  case atStart => exact Or.inl ⟨rfl, rfl⟩
  case round =>
    rcases hrel with ⟨rfl, hwr⟩ | ⟨rfl, hst⟩
    · subst wr
      go_upto_region 6 with fail
      refine wp_region_held_drew (S := fun U => U.cell? ⟨W.heap.size, 2, none⟩ = some (.slice (some ⟨g1, o1, none⟩) 1 c1) ∧ U.cell? ⟨W.heap.size + 1, 2, none⟩ = some (.slice (some ⟨g2, o2, none⟩) 1 c2) ∧ U.cell? ⟨g1, o1, none⟩ = some (.int .i64 a.kind) ∧ U.cell? ⟨g1, o1 + 1, none⟩ = some (.string a.name) ∧ U.cell? ⟨g1, o1 + 2, none⟩ = some (.string a.other) ∧ U.cell? ⟨g1, o1 + 3, none⟩ = some (.slice q1 a.names.length k1) ∧ U.cell? ⟨g1, o1 + 4, none⟩ = some (.string a.text) ∧ U.cell? ⟨g1, o1 + 5, none⟩ = some (.int .i64 a.num) ∧ U.cell? ⟨g1, o1 + 6, none⟩ = some (.int .i64 a.fuel) ∧ U.cell? ⟨g2, o2, none⟩ = some (.int .i64 a.kind) ∧ U.cell? ⟨g2, o2 + 1, none⟩ = some (.string a.name) ∧ U.cell? ⟨g2, o2 + 2, none⟩ = some (.string a.other) ∧ U.cell? ⟨g2, o2 + 3, none⟩ = some (.slice q2 a.names.length k2) ∧ U.cell? ⟨g2, o2 + 4, none⟩ = some (.string a.text) ∧ U.cell? ⟨g2, o2 + 5, none⟩ = some (.int .i64 a.num) ∧ U.cell? ⟨g2, o2 + 6, none⟩ = some (.int .i64 a.fuel)) (by kernel_rfl) (HS.out _ (bl_drew W1)) (fun hHeld => ?_)
      refine wpAnyH_take (i := 0) (v := ?_) rfl (by kernel_rfl) (by kernel_rfl) (by kernel_rfl) (fun _ _ _ h => h) (Or.inl ⟨by rfl, ?_⟩) (by assumption) ?_
      rotate_left
      · (intro w hSw; (try dsimp only at hSw); (try go_split_ands); first | (go_simp; done) | (go_simp; with_reducible rfl))
      try simp only [Act.put, List.getElem_toArray, List.getElem_cons_zero, List.getElem_cons_succ, List.setIfInBounds_toArray, List.set_cons_zero, List.set_cons_succ]
      refine wpAnyH_take (i := 1) (v := ?_) rfl (by kernel_rfl) (by kernel_rfl) (by kernel_rfl) (fun _ _ _ h => h) (Or.inl ⟨by rfl, ?_⟩) (by assumption) ?_
      rotate_left
      · (intro w hSw; (try dsimp only at hSw); (try go_split_ands); first | (go_simp; done) | (go_simp; with_reducible rfl))
      try simp only [Act.put, List.getElem_toArray, List.getElem_cons_zero, List.getElem_cons_succ, List.setIfInBounds_toArray, List.set_cons_zero, List.set_cons_succ]
      refine wpAnyH_take (i := 2) (v := ?_) rfl (by kernel_rfl) (by kernel_rfl) (by kernel_rfl) (fun _ _ _ h => h) (Or.inl ⟨by rfl, ?_⟩) (by assumption) ?_
      rotate_left
      · (intro w hSw; (try dsimp only at hSw); (try go_split_ands); first | (go_simp; done) | (go_simp; with_reducible rfl))
      try simp only [Act.put, List.getElem_toArray, List.getElem_cons_zero, List.getElem_cons_succ, List.setIfInBounds_toArray, List.set_cons_zero, List.set_cons_succ]
      refine wpAnyH_take (i := 3) (v := ?_) rfl (by kernel_rfl) (by kernel_rfl) (by kernel_rfl) (fun _ _ _ h => h) (Or.inl ⟨by rfl, ?_⟩) (by assumption) ?_
      rotate_left
      · (intro w hSw; (try dsimp only at hSw); (try go_split_ands); first | (go_simp; done) | (go_simp; with_reducible rfl))
      try simp only [Act.put, List.getElem_toArray, List.getElem_cons_zero, List.getElem_cons_succ, List.setIfInBounds_toArray, List.set_cons_zero, List.set_cons_succ]
      refine wpAnyH_take (i := 4) (v := ?_) rfl (by kernel_rfl) (by kernel_rfl) (by kernel_rfl) (fun _ _ _ h => h) (Or.inl ⟨by rfl, ?_⟩) (by assumption) ?_
      rotate_left
      · (intro w hSw; (try dsimp only at hSw); (try go_split_ands); first | (go_simp; done) | (go_simp; with_reducible rfl))
      try simp only [Act.put, List.getElem_toArray, List.getElem_cons_zero, List.getElem_cons_succ, List.setIfInBounds_toArray, List.set_cons_zero, List.set_cons_succ]
      refine wpAnyH_take (i := 5) (v := ?_) rfl (by kernel_rfl) (by kernel_rfl) (by kernel_rfl) (fun _ _ _ h => h) (Or.inl ⟨by rfl, ?_⟩) (by assumption) ?_
      rotate_left
      · (intro w hSw; (try dsimp only at hSw); (try go_split_ands); first | (go_simp; done) | (go_simp; with_reducible rfl))
      try simp only [Act.put, List.getElem_toArray, List.getElem_cons_zero, List.getElem_cons_succ, List.setIfInBounds_toArray, List.set_cons_zero, List.set_cons_succ]
      refine wpAnyH_take (i := 6) (v := ?_) rfl (by kernel_rfl) (by kernel_rfl) (by kernel_rfl) (fun _ _ _ h => h) (Or.inl ⟨by rfl, ?_⟩) (by assumption) ?_
      rotate_left
      · (intro w hSw; (try dsimp only at hSw); (try go_split_ands); first | (go_simp; done) | (go_simp; with_reducible rfl))
      try simp only [Act.put, List.getElem_toArray, List.getElem_cons_zero, List.getElem_cons_succ, List.setIfInBounds_toArray, List.set_cons_zero, List.set_cons_succ]
      refine wpAnyH_take (i := 7) (v := ?_) rfl (by kernel_rfl) (by kernel_rfl) (by kernel_rfl) (fun _ _ _ h => h) (Or.inl ⟨by rfl, ?_⟩) (by assumption) ?_
      rotate_left
      · (intro w hSw; (try dsimp only at hSw); (try go_split_ands); first | (go_simp; done) | (go_simp; with_reducible rfl))
      try simp only [Act.put, List.getElem_toArray, List.getElem_cons_zero, List.getElem_cons_succ, List.setIfInBounds_toArray, List.set_cons_zero, List.set_cons_succ]
      refine wpAnyH_take (i := 8) (v := ?_) rfl (by kernel_rfl) (by kernel_rfl) (by kernel_rfl) (fun _ _ _ h => h) (Or.inl ⟨by rfl, ?_⟩) (by assumption) ?_
      rotate_left
      · (intro w hSw; (try dsimp only at hSw); (try go_split_ands); first | (go_simp; done) | (go_simp; with_reducible rfl))
      try simp only [Act.put, List.getElem_toArray, List.getElem_cons_zero, List.getElem_cons_succ, List.setIfInBounds_toArray, List.set_cons_zero, List.set_cons_succ]
      refine wpAnyH_take (i := 9) (v := ?_) rfl (by kernel_rfl) (by kernel_rfl) (by kernel_rfl) (fun _ _ _ h => h) (Or.inl ⟨by rfl, ?_⟩) (by assumption) ?_
      rotate_left
      · (intro w hSw; (try dsimp only at hSw); (try go_split_ands); first | (go_simp; done) | (go_simp; with_reducible rfl))
      try simp only [Act.put, List.getElem_toArray, List.getElem_cons_zero, List.getElem_cons_succ, List.setIfInBounds_toArray, List.set_cons_zero, List.set_cons_succ]
      refine oneH (i := 10) (by kernel_rfl) rfl (fun K hK => ?_)
      refine stepE (by rfl) 29 Tryz.f29 Tryz.func29 (by kernel_rfl) (by kernel_rfl) _ _ rfl _ (by first | (simp [Act.eval]; done) | (simp [Act.eval]; rfl)) _ (HC.out.mono (fun e w1 h => And.intro h.1 (mkHid ((bl_drew W1).trans h.2)))) ?_
      rintro _ w1 ⟨rfl, hg1⟩
      refine hK.out _ _ (HS.out _ hg1.out) (fun hHeld => ?_)
      clear hK K
      try simp only [Act.put, List.getElem_toArray, List.getElem_cons_zero, List.getElem_cons_succ, List.setIfInBounds_toArray, List.set_cons_zero, List.set_cons_succ]
      refine wpAnyH_take (i := 11) (v := ?_) rfl (by kernel_rfl) (by kernel_rfl) (by kernel_rfl) (fun _ _ _ h => h) (Or.inl ⟨by rfl, ?_⟩) (by assumption) ?_
      rotate_left
      · (intro w hSw; (try dsimp only at hSw); (try go_split_ands); first | (go_simp; done) | (go_simp; with_reducible rfl))
      try simp only [Act.put, List.getElem_toArray, List.getElem_cons_zero, List.getElem_cons_succ, List.setIfInBounds_toArray, List.set_cons_zero, List.set_cons_succ]
      refine wpAnyH_done (by kernel_rfl) ?_ _
      go_wp2_with fail
      go_roundw
      case rel => exact Or.inr ⟨rfl, hg1.out⟩
      case measure => simp [intOf]
    · have e2 := (HS.out _ hst.out).1
      clear HC p0 p1 p2 r0 r1 r2 hW1
      go_wp2_with fail
      go_ret
      exact ⟨rfl, HB.out.trans hst.out⟩
end Go.Proofs.YtheolmnjedbjmaaGreatDoor

