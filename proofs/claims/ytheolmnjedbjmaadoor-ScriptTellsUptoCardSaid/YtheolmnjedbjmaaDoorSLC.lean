import Derived.Test.YtheolmnjedbjmaaDoorSLB
namespace Go.Proofs.YtheolmnjedbjmaaDoor
open Go.RowKit
set_option linter.unusedVariables false
set_option linter.unusedSimpArgs false
attribute [local go_sem ↓] Go.wp_at_zero Go.wp_at_succ

theorem tell15 : tellP 0 15 0 0 0 [] [] [] = [97, 110, 115, 119, 101, 114, 32, 48, 32, 49, 53, 32, 48, 32, 48, 32, 48, 32, 61, 32, 61, 10] := by
  have d0 : Lib.itoa 0 = [48] := by simp [Lib.itoa, Lib.decDigits]
  have d15 : Lib.itoa 15 = [49, 53] := by simp [Lib.itoa, Lib.decDigits]
  unfold tellP numsW
  simp [d0, d15, wordB, esc, tellLines, linesB, linesT]
set_option maxRecDepth 100000 in
set_option maxHeartbeats 16000000 in
theorem tells_any (n1 : Int) (c1 c2 : Bs) (n5' n2 n3 n4 : Int) (t : Bs) (h1 : In64 n1) (h2 : In64 n2) (h3 : In64 n3) (h4 : In64 n4) (h5 : In64 n5') (hc1 : c1.length ≤ 1099511627776) (hc2 : c2.length ≤ 1099511627776) (ht : t.length ≤ 1099511627776) (W : World) (hp : Pw W) :
    Calls Tryd.prog 3 #[.agg #[.int .i64 n1, .string (ba c1), .string (ba c2), .int .i64 n5', .int .i64 n2, .int .i64 n3, .int .i64 n4, .string (ba t)]] W fun e w' => e = .returned (.bool true) ∧ Bl W w' := by
  obtain ⟨W1, hW1⟩ : ∃ X, W.alloc (.cells #[.int .i64 n1, .string (ba c1), .string (ba c2), .int .i64 n5', .int .i64 n2, .int .i64 n3, .int .i64 n4, .string (ba t)] 26) = X := ⟨_, rfl⟩
  have b0 : Bl W W1 := hW1 ▸ Bl.alloc _ _
  have gA : W1.heap[W.heap.size]? = some (.cells #[.int .i64 n1, .string (ba c1), .string (ba c2), .int .i64 n5', .int .i64 n2, .int .i64 n3, .int .i64 n4, .string (ba t)] 26 (0, 0)) := hW1 ▸ heap_alloc_new W _
  have HP : Hid (∀ U, Bl W1 U → Pw U) := fun U hU => (hp.bl b0).bl hU
  have HS : Hid (∀ U, Bl W1 U → U.cell? ⟨W.heap.size, 0, none⟩ = some (.int .i64 n1) ∧ U.cell? ⟨W.heap.size, 1, none⟩ = some (.string (ba c1)) ∧ U.cell? ⟨W.heap.size, 2, none⟩ = some (.string (ba c2)) ∧ U.cell? ⟨W.heap.size, 3, none⟩ = some (.int .i64 n5') ∧ U.cell? ⟨W.heap.size, 4, none⟩ = some (.int .i64 n2) ∧ U.cell? ⟨W.heap.size, 5, none⟩ = some (.int .i64 n3) ∧ U.cell? ⟨W.heap.size, 6, none⟩ = some (.int .i64 n4) ∧ U.cell? ⟨W.heap.size, 7, none⟩ = some (.string (ba t))) := fun U hU => by
    have q := (hU.block _ (lt_of_heap gA)).trans gA
    exact ⟨cell_in q 0, cell_in q 1, cell_in q 2, cell_in q 3, cell_in q 4, cell_in q 5, cell_in q 6, cell_in q 7⟩
  obtain ⟨X, hX⟩ : ∃ X, ba (tellP n1 n2 n3 n4 n5' c1 c2 t) = X := ⟨_, rfl⟩
  have HT : Hid (∀ U, Bl W1 U → Calls Tryd.prog 5 #[.agg #[.int .i64 n1, .string (ba c1), .string (ba c2), .int .i64 n5', .int .i64 n2, .int .i64 n3, .int .i64 n4, .string (ba t)]] U fun e w' => e = .returned (.string X) ∧ Bl U w') := fun U hU => hX ▸ tell_ok n1 c1 c2 n5' n2 n3 n4 t h1 h2 h3 h4 h5 hc1 hc2 ht U (HP.out U hU)
  have HR : Hid (∀ U, Bl W1 U → Calls Tryd.prog 6 #[.agg #[.int .i64 n1, .string (ba c1), .string (ba c2), .int .i64 n5', .int .i64 n2, .int .i64 n3, .int .i64 n4, .string (ba t)]] U fun e w' => e = .returned (.string X) ∧ Bl U w') := fun U hU => hX ▸ rtell_ok n1 c1 c2 n5' n2 n3 n4 t h1 h2 h3 h4 h5 hc1 hc2 ht U (HP.out U hU)
  have i0 : In64 0 := by unfold In64; omega
  have i15 : In64 15 := by unfold In64; omega
  have H15 : Hid (∀ U, Bl W1 U → Calls Tryd.prog 5 #[.agg #[.int .i64 0, .string ⟨#[]⟩, .string ⟨#[]⟩, .int .i64 0, .int .i64 15, .int .i64 0, .int .i64 0, .string ⟨#[]⟩]] U fun e w' => e = .returned (.string ⟨#[97, 110, 115, 119, 101, 114, 32, 48, 32, 49, 53, 32, 48, 32, 48, 32, 48, 32, 61, 32, 61, 10]⟩) ∧ Bl U w') := fun U hU => by
    have := tell_ok 0 [] [] 0 15 0 0 [] i0 i15 i0 i0 i0 (by simp) (by simp) (by simp) U (HP.out U hU)
    rw [tell15] at this
    exact this
  have BV0 : Hid (Bl W1 W1.drew) := bl_drew W1
  have HB0 := mkHid b0
  have hlit : ((⟨#[97, 110, 115, 119, 101, 114, 32, 48, 32, 49, 53, 32, 48, 32, 48, 32, 48, 32, 61, 32, 61, 10]⟩ : ByteArray).toList == (⟨#[97, 110, 115, 119, 101, 114, 32, 48, 32, 49, 53, 32, 48, 32, 48, 32, 48, 32, 61, 32, 61, 10]⟩ : ByteArray).toList) = true := by simp
  clear hp b0 gA h1 h2 h3 h4 h5 hc1 hc2 ht hX i0 i15
  go_enter Tryd.func3, Tryd.ntmps3
  go_upto_region 1 with fail

  refine wp_region_held_drew (S := fun U => U.cell? ⟨W.heap.size, 0, none⟩ = some (.int .i64 n1) ∧ U.cell? ⟨W.heap.size, 1, none⟩ = some (.string (ba c1)) ∧ U.cell? ⟨W.heap.size, 2, none⟩ = some (.string (ba c2)) ∧ U.cell? ⟨W.heap.size, 3, none⟩ = some (.int .i64 n5') ∧ U.cell? ⟨W.heap.size, 4, none⟩ = some (.int .i64 n2) ∧ U.cell? ⟨W.heap.size, 5, none⟩ = some (.int .i64 n3) ∧ U.cell? ⟨W.heap.size, 6, none⟩ = some (.int .i64 n4) ∧ U.cell? ⟨W.heap.size, 7, none⟩ = some (.string (ba t))) (by kernel_rfl) (HS.out _ BV0.out) (fun hHeld => ?_)
  refine wpAnyH_take (i := 0) (v := ?_) rfl (by kernel_rfl) (by kernel_rfl) (by kernel_rfl) (fun _ _ _ h => h) (Or.inl ⟨by rfl, ?_⟩) (by assumption) ?_
  rotate_left
  · (intro w hSw; (try dsimp only at hSw); (try go_split_ands); first | (go_simp; done) | (go_simp; with_reducible rfl))
  try simp only [Act.put, List.getElem_toArray, List.getElem_cons_zero, List.getElem_cons_succ, List.setIfInBounds_toArray, List.set_cons_zero, List.set_cons_succ]
  refine wpAnyH_take (i := 2) (v := ?_) rfl (by kernel_rfl) (by kernel_rfl) (by kernel_rfl) (fun _ _ _ h => h) (Or.inl ⟨by rfl, ?_⟩) (by assumption) ?_
  rotate_left
  · (intro w hSw; (try dsimp only at hSw); (try go_split_ands); first | (go_simp; done) | (go_simp; with_reducible rfl))
  try simp only [Act.put, List.getElem_toArray, List.getElem_cons_zero, List.getElem_cons_succ, List.setIfInBounds_toArray, List.set_cons_zero, List.set_cons_succ]
  refine oneH (i := 1) (by kernel_rfl) rfl (fun K hK => ?_)
  refine stepE (by rfl) 5 Tryd.f5 Tryd.func5 (by kernel_rfl) (by kernel_rfl) _ _ rfl _ (by first | (simp [Act.eval]; done) | (simp [Act.eval]; rfl)) _ (HT.out _ BV0.out) ?_
  rintro _ w1 ⟨rfl, b1⟩
  refine hK.out _ _ (HS.out _ (BV0.out.trans b1)) (fun hHeld => ?_)
  clear hK K
  try simp only [Act.put, List.getElem_toArray, List.getElem_cons_zero, List.getElem_cons_succ, List.setIfInBounds_toArray, List.set_cons_zero, List.set_cons_succ]
  refine oneH (i := 3) (by kernel_rfl) rfl (fun K hK => ?_)
  refine stepE (by rfl) 6 Tryd.f6 Tryd.func6 (by kernel_rfl) (by kernel_rfl) _ _ rfl _ (by first | (simp [Act.eval]; done) | (simp [Act.eval]; rfl)) _ (HR.out _ (BV0.out.trans b1)) ?_
  rintro _ w2 ⟨rfl, b2⟩
  refine hK.out _ _ (HS.out _ ((BV0.out.trans b1).trans b2)) (fun hHeld => ?_)
  clear hK K
  try simp only [Act.put, List.getElem_toArray, List.getElem_cons_zero, List.getElem_cons_succ, List.setIfInBounds_toArray, List.set_cons_zero, List.set_cons_succ]
  refine wpAnyH_take (i := 4) (v := .bool true) rfl (by kernel_rfl) (by kernel_rfl) (by kernel_rfl) (fun _ _ _ h => h) (Or.inl ⟨by rfl, ?_⟩) (by assumption) ?_
  · (intro w hSw; (try dsimp only at hSw); (try go_split_ands); go_simp; try first | rfl | (simp; done))
  try simp only [Act.put, List.getElem_toArray, List.getElem_cons_zero, List.getElem_cons_succ, List.setIfInBounds_toArray, List.set_cons_zero, List.set_cons_succ]
  refine wpAnyH_take (i := 5) (v := ?_) rfl (by kernel_rfl) (by kernel_rfl) (by kernel_rfl) (fun _ _ _ h => h) (Or.inl ⟨by rfl, ?_⟩) (by assumption) ?_
  rotate_left
  · (intro w hSw; (try dsimp only at hSw); (try go_split_ands); first | (go_simp; done) | (go_simp; with_reducible rfl))
  try simp only [Act.put, List.getElem_toArray, List.getElem_cons_zero, List.getElem_cons_succ, List.setIfInBounds_toArray, List.set_cons_zero, List.set_cons_succ]
  refine wpAnyH_take (i := 6) (v := ?_) rfl (by kernel_rfl) (by kernel_rfl) (by kernel_rfl) (fun _ _ _ h => h) (Or.inl ⟨by rfl, ?_⟩) (by assumption) ?_
  rotate_left
  · (intro w hSw; (try dsimp only at hSw); (try go_split_ands); first | (go_simp; done) | (go_simp; with_reducible rfl))
  try simp only [Act.put, List.getElem_toArray, List.getElem_cons_zero, List.getElem_cons_succ, List.setIfInBounds_toArray, List.set_cons_zero, List.set_cons_succ]
  refine oneH (i := 7) (by kernel_rfl) rfl (fun K hK => ?_)
  refine stepE (by rfl) 5 Tryd.f5 Tryd.func5 (by kernel_rfl) (by kernel_rfl) _ _ rfl _ (by first | (simp [Act.eval]; done) | (simp [Act.eval]; rfl)) _ (H15.out _ ((BV0.out.trans b1).trans b2)) ?_
  rintro _ w3 ⟨rfl, b3⟩
  refine hK.out _ _ (HS.out _ (((BV0.out.trans b1).trans b2).trans b3)) (fun hHeld => ?_)
  clear hK K
  try simp only [Act.put, List.getElem_toArray, List.getElem_cons_zero, List.getElem_cons_succ, List.setIfInBounds_toArray, List.set_cons_zero, List.set_cons_succ]
  refine wpAnyH_take (i := 8) (v := .bool true) rfl (by kernel_rfl) (by kernel_rfl) (by kernel_rfl) (fun _ _ _ h => h) (Or.inl ⟨by rfl, ?_⟩) (by assumption) ?_
  · (intro w hSw; (try dsimp only at hSw); (try go_split_ands); go_simp; try first | rfl | exact hlit | (simp [hlit]; done))
  try simp only [Act.put, List.getElem_toArray, List.getElem_cons_zero, List.getElem_cons_succ, List.setIfInBounds_toArray, List.set_cons_zero, List.set_cons_succ]
  refine wpAnyH_take (i := 9) (v := ?_) rfl (by kernel_rfl) (by kernel_rfl) (by kernel_rfl) (fun _ _ _ h => h) (Or.inl ⟨by rfl, ?_⟩) (by assumption) ?_
  rotate_left
  · (intro w hSw; (try dsimp only at hSw); (try go_split_ands); first | (go_simp; done) | (go_simp; with_reducible rfl))
  try simp only [Act.put, List.getElem_toArray, List.getElem_cons_zero, List.getElem_cons_succ, List.setIfInBounds_toArray, List.set_cons_zero, List.set_cons_succ]
  refine wpAnyH_take (i := 10) (v := ?_) rfl (by kernel_rfl) (by kernel_rfl) (by kernel_rfl) (fun _ _ _ h => h) (Or.inl ⟨by rfl, ?_⟩) (by assumption) ?_
  rotate_left
  · (intro w hSw; (try dsimp only at hSw); (try go_split_ands); first | (go_simp; done) | (go_simp; with_reducible rfl))
  try simp only [Act.put, List.getElem_toArray, List.getElem_cons_zero, List.getElem_cons_succ, List.setIfInBounds_toArray, List.set_cons_zero, List.set_cons_succ]
  refine wpAnyH_done (by kernel_rfl) ?_ _
  go_wp2_with fail
  go_ret
  exact ⟨rfl, HB0.out.trans (((BV0.out.trans b1).trans b2).trans b3)⟩
end Go.Proofs.YtheolmnjedbjmaaDoor
