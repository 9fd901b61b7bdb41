import Derived.Test.YtclkoffnjiiioaaDoorIRe2
import Derived.Test.YtclkoffnjiiioaaDoorIRe3
import Derived.Test.YtclkoffnjiiioaaDoorIRe4
import Derived.Test.YtclkoffnjiiioaaDoorCLast
namespace Go.Proofs.YtclkoffnjiiioaaDoor
open Go.RowKit
set_option linter.unusedVariables false
set_option linter.unusedSimpArgs false
attribute [local go_sem ↓] Go.wp_at_zero Go.wp_at_succ
set_option maxRecDepth 100000 in
set_option maxHeartbeats 8000000 in
theorem rfirst_ok (a b d : Int) (ls ws : Value) (h1 : ls.oneCell' = true) (h2 : ws.oneCell' = true) (ha : r64 a) (hb : r64 b) (hd : r64 d) (V : World) (hpw : Pw V) : Calls Tryd.prog 19 #[.agg #[.int .i64 a, .int .i64 b, .int .i64 d, ls, ws]] V fun e w' => e = .returned (.string (ba (headW a b d))) ∧ Fr [] V w' := by
  obtain ⟨bx, hbx⟩ : ∃ o : Obj, o = .cells #[.int .i64 a, .int .i64 b, .int .i64 d, ls, ws] 25 := ⟨_, rfl⟩
  have hg : (V.alloc bx).heap[V.heap.size]? = some (.cells #[.int .i64 a, .int .i64 b, .int .i64 d, ls, ws] 25 (0, 0)) := by rw [hbx]; exact heap_alloc_new V _
  have f0 : Fr [] V (V.alloc bx) := Fr.alloc [] V bx
  have HS : Hid (∀ U, Fr [] (V.alloc bx) U → U.cell? ⟨V.heap.size, 0, none⟩ = some (.int .i64 a) ∧ U.cell? ⟨V.heap.size, 1, none⟩ = some (.int .i64 b) ∧ U.cell? ⟨V.heap.size, 2, none⟩ = some (.int .i64 d)) := fun U hU => ⟨cell_in (hU.hb hg) 0, cell_in (hU.hb hg) 1, cell_in (hU.hb hg) 2⟩
  have HI : Hid (∀ n, r64 n → ∀ U, Fr [] (V.alloc bx) U → Calls Tryd.prog 30 #[.int .i64 n] U fun e w' => e = .returned (.string (ba (Lib.itoa n))) ∧ Fr [] (V.alloc bx) w') := fun n hn U hU => (itoaR_ok n hn U ((hpw.idle f0).idle hU)).mono (by
    rintro e w' ⟨rfl, f⟩
    exact ⟨rfl, hU.tr0 f⟩)
  have HF0 : Hid (Fr [] (V.alloc bx) ((V.alloc bx).drew)) := Fr.drew [] _
  have HFv : Hid (∀ U, Fr [] (V.alloc bx) U → Fr [] V U) := fun U hU => f0.tr0 hU
  have la := itoa_len a ha.1 ha.2
  have lb := itoa_len b hb.1 hb.2
  have ld := itoa_len d hd.1 hd.2
  obtain ⟨S1, e1⟩ : ∃ S, (⟨#[99, 111, 100, 101, 32]⟩ : ByteArray) ++ ba (Lib.itoa a) = S := ⟨_, rfl⟩
  obtain ⟨S2, e2⟩ : ∃ S, S1 ++ (⟨#[32]⟩ : ByteArray) = S := ⟨_, rfl⟩
  obtain ⟨S3, e3⟩ : ∃ S, S2 ++ ba (Lib.itoa b) = S := ⟨_, rfl⟩
  obtain ⟨S4, e4⟩ : ∃ S, S3 ++ (⟨#[32]⟩ : ByteArray) = S := ⟨_, rfl⟩
  obtain ⟨S5, e5⟩ : ∃ S, S4 ++ ba (Lib.itoa d) = S := ⟨_, rfl⟩
  obtain ⟨S6, e6⟩ : ∃ S, S5 ++ (⟨#[10]⟩ : ByteArray) = S := ⟨_, rfl⟩
  have g1 : S1 = ba ([99, 111, 100, 101, 32] ++ Lib.itoa a) := by rw [← e1]; exact ba_app [99, 111, 100, 101, 32] _
  have g2 : S2 = ba ([99, 111, 100, 101, 32] ++ Lib.itoa a ++ [32]) := by rw [← e2, g1]; exact ba_app _ [32]
  have g3 : S3 = ba ([99, 111, 100, 101, 32] ++ Lib.itoa a ++ [32] ++ Lib.itoa b) := by rw [← e3, g2]; exact ba_app _ _
  have g4 : S4 = ba ([99, 111, 100, 101, 32] ++ Lib.itoa a ++ [32] ++ Lib.itoa b ++ [32]) := by rw [← e4, g3]; exact ba_app _ [32]
  have g5 : S5 = ba ([99, 111, 100, 101, 32] ++ Lib.itoa a ++ [32] ++ Lib.itoa b ++ [32] ++ Lib.itoa d) := by rw [← e5, g4]; exact ba_app _ _
  have g6 : S6 = ba ([99, 111, 100, 101, 32] ++ Lib.itoa a ++ [32] ++ Lib.itoa b ++ [32] ++ Lib.itoa d ++ [10]) := by rw [← e6, g5]; exact ba_app _ [10]
  have HG : Hid (S6 = ba (headW a b d)) := by
    show S6 = _
    rw [g6]
    unfold headW numsW
    simp
  have z1 : S1.size = 5 + (Lib.itoa a).length := by rw [g1, ba_size, List.length_append]; rfl
  have z2 : S2.size = 6 + (Lib.itoa a).length := by rw [g2, ba_size]; simp only [List.length_append, List.length_cons, List.length_nil]; omega
  have z3 : S3.size = 6 + (Lib.itoa a).length + (Lib.itoa b).length := by rw [g3, ba_size]; simp only [List.length_append, List.length_cons, List.length_nil]; omega
  have z4 : S4.size = 7 + (Lib.itoa a).length + (Lib.itoa b).length := by rw [g4, ba_size]; simp only [List.length_append, List.length_cons, List.length_nil]; omega
  have z5 : S5.size = 7 + (Lib.itoa a).length + (Lib.itoa b).length + (Lib.itoa d).length := by rw [g5, ba_size]; simp only [List.length_append, List.length_cons, List.length_nil]; omega
  have za := ba_size (Lib.itoa a)
  have zb := ba_size (Lib.itoa b)
  have zd := ba_size (Lib.itoa d)
  have HAa := mkHid ha
  have HAb := mkHid hb
  have HAd := mkHid hd
  clear g1 g2 g3 g4 g5 g6 ha hb hd hpw hg f0
  have w1 : ¬ 9223372036854775807 < 5 + (Lib.itoa a).length := by omega
  have w2 : ¬ 9223372036854775807 < 5 + (Lib.itoa a).length + 1 := by omega
  have w3 : ¬ 9223372036854775807 < 6 + (Lib.itoa a).length + (Lib.itoa b).length := by omega
  have w4 : ¬ 9223372036854775807 < 6 + (Lib.itoa a).length + (Lib.itoa b).length + 1 := by omega
  have w5 : ¬ 9223372036854775807 < 7 + (Lib.itoa a).length + (Lib.itoa b).length + (Lib.itoa d).length := by omega
  have w6 : ¬ 9223372036854775807 < 7 + (Lib.itoa a).length + (Lib.itoa b).length + (Lib.itoa d).length + 1 := by omega
  rw [hbx] at HS HI HF0 HFv
  clear hbx bx
  go_enter Tryd.func19, Tryd.ntmps19
  go_upto_region 1 with fail
  refine wp_region_last (L := 15) (S := (fun U => U.cell? ⟨V.heap.size, 0, none⟩ = some (.int .i64 a) ∧ U.cell? ⟨V.heap.size, 1, none⟩ = some (.int .i64 b) ∧ U.cell? ⟨V.heap.size, 2, none⟩ = some (.int .i64 d))) (by kernel_rfl) (HS.out _ HF0.out) (fun hHeld => ?_)
  refine wpLast_take (i := 0) (v := ?_) rfl (by kernel_rfl) (by kernel_rfl) (by kernel_rfl) (by decide) (by kernel_rfl) (fun _ _ _ h => h) (Or.inl ⟨by rfl, ?_⟩) (by assumption) ?_
  rotate_left
  · (intro w hSw; (try dsimp only at hSw); first | (go_simp; done) | (go_simp; with_reducible rfl))
  try simp only [Act.put, List.getElem_toArray, List.getElem_cons_zero, List.getElem_cons_succ, List.setIfInBounds_toArray, List.set_cons_zero, List.set_cons_succ]
  refine wpLast_take (i := 1) (v := ?_) rfl (by kernel_rfl) (by kernel_rfl) (by kernel_rfl) (by decide) (by kernel_rfl) (fun _ _ _ h => h) (Or.inl ⟨by rfl, ?_⟩) (by assumption) ?_
  rotate_left
  · (intro w hSw; (try dsimp only at hSw); first | (go_simp; done) | (go_simp; with_reducible rfl))
  try simp only [Act.put, List.getElem_toArray, List.getElem_cons_zero, List.getElem_cons_succ, List.setIfInBounds_toArray, List.set_cons_zero, List.set_cons_succ]
  refine wpLast_take (i := 5) (v := ?_) rfl (by kernel_rfl) (by kernel_rfl) (by kernel_rfl) (by decide) (by kernel_rfl) (fun _ _ _ h => h) (Or.inl ⟨by rfl, ?_⟩) (by assumption) ?_
  rotate_left
  · (intro w hSw; (try dsimp only at hSw); first | (go_simp; done) | (go_simp; with_reducible rfl))
  try simp only [Act.put, List.getElem_toArray, List.getElem_cons_zero, List.getElem_cons_succ, List.setIfInBounds_toArray, List.set_cons_zero, List.set_cons_succ]
  refine wpLast_take (i := 6) (v := ?_) rfl (by kernel_rfl) (by kernel_rfl) (by kernel_rfl) (by decide) (by kernel_rfl) (fun _ _ _ h => h) (Or.inl ⟨by rfl, ?_⟩) (by assumption) ?_
  rotate_left
  · (intro w hSw; (try dsimp only at hSw); first | (go_simp; done) | (go_simp; with_reducible rfl))
  try simp only [Act.put, List.getElem_toArray, List.getElem_cons_zero, List.getElem_cons_succ, List.setIfInBounds_toArray, List.set_cons_zero, List.set_cons_succ]
  refine wpLast_take (i := 10) (v := ?_) rfl (by kernel_rfl) (by kernel_rfl) (by kernel_rfl) (by decide) (by kernel_rfl) (fun _ _ _ h => h) (Or.inl ⟨by rfl, ?_⟩) (by assumption) ?_
  rotate_left
  · (intro w hSw; (try dsimp only at hSw); first | (go_simp; done) | (go_simp; with_reducible rfl))
  try simp only [Act.put, List.getElem_toArray, List.getElem_cons_zero, List.getElem_cons_succ, List.setIfInBounds_toArray, List.set_cons_zero, List.set_cons_succ]
  refine wpLast_take (i := 11) (v := ?_) rfl (by kernel_rfl) (by kernel_rfl) (by kernel_rfl) (by decide) (by kernel_rfl) (fun _ _ _ h => h) (Or.inl ⟨by rfl, ?_⟩) (by assumption) ?_
  rotate_left
  · (intro w hSw; (try dsimp only at hSw); first | (go_simp; done) | (go_simp; with_reducible rfl))
  try simp only [Act.put, List.getElem_toArray, List.getElem_cons_zero, List.getElem_cons_succ, List.setIfInBounds_toArray, List.set_cons_zero, List.set_cons_succ]
  refine wpLast_one (i := 2) (by kernel_rfl) rfl (by decide) (fun K hK => ?_)
  go_simp
  go_wp2_with fail
  refine (HI.out a HAa.out _ HF0.out).mono ?_
  rintro e w7 ⟨rfl, fw7⟩
  have Fw7 := mkHid fw7
  clear fw7
  refine hK.out _ _ (HS.out _ Fw7.out) (fun hHeld => ?_)
  clear hK K
  try simp only [Act.put, List.getElem_toArray, List.getElem_cons_zero, List.getElem_cons_succ, List.setIfInBounds_toArray, List.set_cons_zero, List.set_cons_succ]
  refine wpLast_take (i := 3) (v := ?_) rfl (by kernel_rfl) (by kernel_rfl) (by kernel_rfl) (by decide) (by kernel_rfl) (fun _ _ _ h => h) (Or.inl ⟨by rfl, ?_⟩) (by assumption) ?_
  rotate_left
  · (intro w hSw; (try dsimp only at hSw); first | (go_simp; done) | (go_simp; with_reducible rfl))
  try simp only [Act.put, List.getElem_toArray, List.getElem_cons_zero, List.getElem_cons_succ, List.setIfInBounds_toArray, List.set_cons_zero, List.set_cons_succ]
  refine wpLast_take (i := 4) (v := ?_) rfl (by kernel_rfl) (by kernel_rfl) (by kernel_rfl) (by decide) (by kernel_rfl) (fun _ _ _ h => h) (Or.inl ⟨by rfl, ?_⟩) (by assumption) ?_
  rotate_left
  · (intro w hSw; (try dsimp only at hSw); first | (go_simp; done) | (go_simp; with_reducible rfl))
  try simp only [Act.put, List.getElem_toArray, List.getElem_cons_zero, List.getElem_cons_succ, List.setIfInBounds_toArray, List.set_cons_zero, List.set_cons_succ]
  refine wpLast_one (i := 7) (by kernel_rfl) rfl (by decide) (fun K hK => ?_)
  go_simp
  go_wp2_with fail
  refine (HI.out b HAb.out _ Fw7.out).mono ?_
  rintro e w8 ⟨rfl, fw8⟩
  have Fw8 := mkHid fw8
  clear fw8
  refine hK.out _ _ (HS.out _ Fw8.out) (fun hHeld => ?_)
  clear hK K
  try simp only [Act.put, List.getElem_toArray, List.getElem_cons_zero, List.getElem_cons_succ, List.setIfInBounds_toArray, List.set_cons_zero, List.set_cons_succ]
  refine wpLast_take (i := 8) (v := ?_) rfl (by kernel_rfl) (by kernel_rfl) (by kernel_rfl) (by decide) (by kernel_rfl) (fun _ _ _ h => h) (Or.inl ⟨by rfl, ?_⟩) (by assumption) ?_
  rotate_left
  · (intro w hSw; (try dsimp only at hSw); first | (go_simp; done) | (go_simp; with_reducible rfl))
  try simp only [Act.put, List.getElem_toArray, List.getElem_cons_zero, List.getElem_cons_succ, List.setIfInBounds_toArray, List.set_cons_zero, List.set_cons_succ]
  refine wpLast_take (i := 9) (v := ?_) rfl (by kernel_rfl) (by kernel_rfl) (by kernel_rfl) (by decide) (by kernel_rfl) (fun _ _ _ h => h) (Or.inl ⟨by rfl, ?_⟩) (by assumption) ?_
  rotate_left
  · (intro w hSw; (try dsimp only at hSw); first | (go_simp; done) | (go_simp; with_reducible rfl))
  try simp only [Act.put, List.getElem_toArray, List.getElem_cons_zero, List.getElem_cons_succ, List.setIfInBounds_toArray, List.set_cons_zero, List.set_cons_succ]
  refine wpLast_one (i := 12) (by kernel_rfl) rfl (by decide) (fun K hK => ?_)
  go_simp
  go_wp2_with fail
  refine (HI.out d HAd.out _ Fw8.out).mono ?_
  rintro e w9 ⟨rfl, fw9⟩
  have Fw9 := mkHid fw9
  clear fw9
  refine hK.out _ _ (HS.out _ Fw9.out) (fun hHeld => ?_)
  clear hK K
  try simp only [Act.put, List.getElem_toArray, List.getElem_cons_zero, List.getElem_cons_succ, List.setIfInBounds_toArray, List.set_cons_zero, List.set_cons_succ]
  refine wpLast_take (i := 13) (v := ?_) rfl (by kernel_rfl) (by kernel_rfl) (by kernel_rfl) (by decide) (by kernel_rfl) (fun _ _ _ h => h) (Or.inl ⟨by rfl, ?_⟩) (by assumption) ?_
  rotate_left
  · (intro w hSw; (try dsimp only at hSw); first | (go_simp; done) | (go_simp; with_reducible rfl))
  try simp only [Act.put, List.getElem_toArray, List.getElem_cons_zero, List.getElem_cons_succ, List.setIfInBounds_toArray, List.set_cons_zero, List.set_cons_succ]
  refine wpLast_take (i := 14) (v := ?_) rfl (by kernel_rfl) (by kernel_rfl) (by kernel_rfl) (by decide) (by kernel_rfl) (fun _ _ _ h => h) (Or.inl ⟨by rfl, ?_⟩) (by assumption) ?_
  rotate_left
  · (intro w hSw; (try dsimp only at hSw); first | (go_simp; done) | (go_simp; with_reducible rfl))
  try simp only [Act.put, List.getElem_toArray, List.getElem_cons_zero, List.getElem_cons_succ, List.setIfInBounds_toArray, List.set_cons_zero, List.set_cons_succ]
  refine wpLast_end (by kernel_rfl) rfl (by kernel_rfl) (fun K hK => ?_)
  go_simp
  refine hK.out _ _ ?_
  clear hK K
  try simp only [Act.put, List.getElem_toArray, List.getElem_cons_zero, List.getElem_cons_succ, List.setIfInBounds_toArray, List.set_cons_zero, List.set_cons_succ]
  go_wp2_with fail
  go_ret
  exact ⟨by rw [← HG.out]; rfl, HFv.out _ Fw9.out⟩
end Go.Proofs.YtclkoffnjiiioaaDoor
