import Derived.Test.YtheolmnjedbjmaaDoorSLA
import Derived.Stop.RegionWithIn
namespace Go.Proofs.YtheolmnjedbjmaaDoor
open Go.RowKit Go.Shelf
set_option linter.unusedVariables false
set_option linter.unusedSimpArgs false
attribute [local go_sem ↓] Go.wp_at_zero Go.wp_at_succ
attribute [local go_sem] Oper.semAt_some wide_fn

set_option maxRecDepth 100000 in
set_option maxHeartbeats 16000000 in
theorem tell_ok (n1 : Int) (c1 c2 : Bs) (n5' n2 n3 n4 : Int) (t : Bs) (h1 : In64 n1) (h2 : In64 n2) (h3 : In64 n3) (h4 : In64 n4) (h5 : In64 n5') (hc1 : c1.length ≤ 1099511627776) (hc2 : c2.length ≤ 1099511627776) (ht : t.length ≤ 1099511627776) (W : World) (hp : Pw W) :
    Calls Tryd.prog 5 #[.agg #[.int .i64 n1, .string (ba c1), .string (ba c2), .int .i64 n5', .int .i64 n2, .int .i64 n3, .int .i64 n4, .string (ba t)]] W fun e w' => e = .returned (.string (ba (tellP n1 n2 n3 n4 n5' c1 c2 t))) ∧ Bl W w' := by
  obtain ⟨W1, hW1⟩ : ∃ X, W.alloc (.cells #[.int .i64 n1, .string (ba c1), .string (ba c2), .int .i64 n5', .int .i64 n2, .int .i64 n3, .int .i64 n4, .string (ba t)] 26) = X := ⟨_, rfl⟩
  have b1 : Bl W W1 := hW1 ▸ Bl.alloc _ _
  have z1 : W1.heap.size = W.heap.size + 1 := by rw [← hW1]; simp
  have gA : W1.heap[W.heap.size]? = some (.cells #[.int .i64 n1, .string (ba c1), .string (ba c2), .int .i64 n5', .int .i64 n2, .int .i64 n3, .int .i64 n4, .string (ba t)] 26 (0, 0)) := hW1 ▸ heap_alloc_new W _
  have p1 : Pw W1 := hp.bl b1
  -- the constant's bytes
  obtain ⟨W2, hW2⟩ : ∃ X, W1.alloc (.cells #[.int .u8 97, .int .u8 110, .int .u8 115, .int .u8 119, .int .u8 101, .int .u8 114] 5 (6, 7)) = X := ⟨_, rfl⟩
  have l2 : Lt W2 W1.heap.size (.slice (some ⟨W1.heap.size, 0, none⟩) 6 6) [97, 110, 115, 119, 101, 114] := hW2 ▸ Lt.new p1 [97, 110, 115, 119, 101, 114]
  have HL : (convert 47 47 (.slice (some ⟨W1.heap.size, 0, none⟩) 6 6)).run Tryd.prog (W1.alloc (.cells #[.int .u8 97, .int .u8 110, .int .u8 115, .int .u8 119, .int .u8 101, .int .u8 114] 5)) = .ok (.slice (some ⟨W1.heap.size, 0, none⟩) 6 6) W2 := by
    rw [← hW2]
    exact conv_lit W1 [97, 110, 115, 119, 101, 114]
  have b2 : Bl W1 W2 := hW2 ▸ Bl.alloc _ _
  have z2 : W2.heap.size = W1.heap.size + 1 := by rw [← hW2]; simp
  have gA2 : W2.heap[W.heap.size]? = some (.cells #[.int .i64 n1, .string (ba c1), .string (ba c2), .int .i64 n5', .int .i64 n2, .int .i64 n3, .int .i64 n4, .string (ba t)] 26 (0, 0)) := (b2.block _ (lt_of_heap gA)).trans gA
  -- the numbers' list
  obtain ⟨W3, hW3⟩ : ∃ X, W2.alloc (.cells #[.int .i64 n1, .int .i64 n2, .int .i64 n3, .int .i64 n4, .int .i64 n5'] 3) = X := ⟨_, rfl⟩
  have b3 : Bl W2 W3 := hW3 ▸ Bl.alloc _ _
  have gN : W3.heap[W2.heap.size]? = some (.cells #[.int .i64 n1, .int .i64 n2, .int .i64 n3, .int .i64 n4, .int .i64 n5'] 3 (0, 0)) := hW3 ▸ heap_alloc_new W2 _
  have gA3 : W3.heap[W.heap.size]? = some (.cells #[.int .i64 n1, .string (ba c1), .string (ba c2), .int .i64 n5', .int .i64 n2, .int .i64 n3, .int .i64 n4, .string (ba t)] 26 (0, 0)) := (b3.block _ (lt_of_heap gA2)).trans gA2
  have l3 : Lt W3 W1.heap.size (.slice (some ⟨W1.heap.size, 0, none⟩) 6 6) [97, 110, 115, 119, 101, 114] := l2.bl b3
  have HN : Hid (Calls Tryd.prog 12 #[.slice (some ⟨W1.heap.size, 0, none⟩) 6 6, .slice (some ⟨W2.heap.size, 0, none⟩) 5 5] W3 fun e w' => WrQ W3 W1.heap.size [97, 110, 115, 119, 101, 114] (numsW [n1, n2, n3, n4, n5']) e w') := mkHid (by
    refine numbers_ok (Or.inr l3) [n1, n2, n3, n4, n5'] (some ⟨W2.heap.size, 0, none⟩) 5 (fun n hn => ?_) (by simp) (by simp) (fun W' hW' _ => ⟨_, 0, rfl, fun i hi => ?_⟩)
    · simp at hn
      rcases hn with rfl | rfl | rfl | rfl | rfl
      · exact h1
      · exact h2
      · exact h3
      · exact h4
      · exact h5
    · have hV := hW'.hb gN (n5 (by decide))
      rw [Nat.zero_add, cell_in hV]
      simp at hi
      rcases (show i = 0 ∨ i = 1 ∨ i = 2 ∨ i = 3 ∨ i = 4 by omega) with rfl | rfl | rfl | rfl | rfl <;> rfl)
  obtain ⟨hd0, hhd0⟩ : ∃ X, ([97, 110, 115, 119, 101, 114] ++ numsW [n1, n2, n3, n4, n5'] : Bs) = X := ⟨_, rfl⟩
  have hn0 : (numsW [n1, n2, n3, n4, n5']).length ≤ 105 := by
    have := numsW_len [n1, n2, n3, n4, n5'] (fun n hn => by
      simp at hn
      rcases hn with rfl | rfl | rfl | rfl | rfl
      · exact h1
      · exact h2
      · exact h3
      · exact h4
      · exact h5)
    simpa using this
  have hl0 : hd0.length ≤ 111 := by rw [← hhd0, List.length_append]; simp only [List.length_cons, List.length_nil]; omega
  have HTP : Hid (tellP n1 n2 n3 n4 n5' c1 c2 t = hd0 ++ (32 :: wordB c1) ++ (32 :: wordB c2) ++ [10] ++ tellLines (linesB t)) := mkHid (by rw [← hhd0]; rfl)
  rw [HTP.out]
  have c0 : W2.cell? ⟨W.heap.size, 0, none⟩ = some (.int .i64 n1) := cell_in gA2 0
  have c4 : W2.cell? ⟨W.heap.size, 4, none⟩ = some (.int .i64 n2) := cell_in gA2 4
  have c5 : W2.cell? ⟨W.heap.size, 5, none⟩ = some (.int .i64 n3) := cell_in gA2 5
  have c6 : W2.cell? ⟨W.heap.size, 6, none⟩ = some (.int .i64 n4) := cell_in gA2 6
  have c3 : W2.cell? ⟨W.heap.size, 3, none⟩ = some (.int .i64 n5') := cell_in gA2 3
  have GA3 := mkHid gA3
  have B13 := mkHid (b2.trans b3)
  have B1 := mkHid b1
  have HZ1 := mkHid z1
  unfold WrQ at HN
  rw [hhd0] at HN
  rw [z1] at HL HN
  have HTB := mkHid (hp.tab (Nat.le_refl _))
  have HBW : Hid (∀ (w3 w4 w8 w9 : World) (v : Value), Bl W W3 → Pf (W.heap.size + 1) W3 w3 → w3.alloc (.cells #[v] 47) = w4 → Pf (W.heap.size + 1) w4 w8 → Fr [w3.heap.size] w8 w9 → Bl W w9) := mkHid (by
    intro w3 w4 w8 w9 v k1 k2 k3 k4 k5
    have s1 := k1.size
    have s2 := k2.below.size
    have e1 : Below W.heap.size W w3 := Below.trans k1 (k2.below.mono (Nat.le_succ _))
    have e2 : Below W.heap.size w3 w4 := k3 ▸ ((Below.refl _ w3).alloc (Nat.le_trans s1 s2) _)
    have e3 : Below W.heap.size w4 w8 := k4.below.mono (Nat.le_succ _)
    have e4 : Below W.heap.size w8 w9 := k5.below (by have := e1.size; have := e2.size; have := e3.size; omega) (fun b hb => by simp at hb; omega)
    exact ((e1.trans e2).trans e3).trans e4)
  clear hp h1 h2 h3 h4 h5 b1 b2 b3 gA gA2 gA3 gN l2 l3 p1 HTP hhd0 hn0 z2 hW2
  refine (callsIn_wide (n := 3)).1 ?_
  refine callsIn_of_wp_marks Tryd.func5 rfl trivial ?_ rfl
  simp only [Tryd.ntmps5, List.size_toArray, List.length_cons, List.length_nil, Nat.reduceAdd, Nat.reduceSub, Array.replicate_succ, Array.replicate_zero, List.push_toArray, List.append_toArray, List.nil_append, List.cons_append]
  refine wpIn_wide.2 ?_
  go_wp2_with (go_at_call 12; refine HN.out.mono ?_; rintro e w3 ⟨v3, rfl, q3, f3⟩; obtain ⟨va, vn, vc, rfl⟩ := q3.form; have Q3 := mkHid q3; have F3 := mkHid f3; clear q3 f3)
  obtain ⟨w4, hw4⟩ : ∃ X, w3.alloc (.cells #[.slice va vn vc] 47) = X := ⟨_, rfl⟩
  rw [hw4]
  have gP : w4.heap[w3.heap.size]? = some (.cells #[.slice va vn vc] 47 (0, 0)) := hw4 ▸ heap_alloc_new w3 _
  have b4 : Bl w3 w4 := hw4 ▸ Bl.alloc _ _
  have z4 : w4.heap.size = w3.heap.size + 1 := by rw [← hw4]; simp
  have gA4 := (b4.block _ (lt_of_heap (F3.out.hb GA3.out (n5 (by decide))))).trans (F3.out.hb GA3.out (n5 (by decide)))
  have Q4 := mkHid (Q3.out.bl b4)
  have hs3 : (W.heap.size + 1) ≤ w3.heap.size := Nat.le_trans (HZ1.out ▸ B13.out.size) F3.out.below.size
  have HS : Hid (∀ U, Pf (W.heap.size + 1) w4 U → U.cell? ⟨W.heap.size, 1, none⟩ = some (.string (ba c1)) ∧ U.cell? ⟨W.heap.size, 2, none⟩ = some (.string (ba c2)) ∧ U.cell? ⟨w3.heap.size, 0, none⟩ = some (.slice va vn vc) ∧ U.frozen? ⟨w3.heap.size, 0, none⟩ = false) := mkHid (fun U hU => by
    have k1 := hU.hb gA4 (n5 (by decide))
    have k2 := hU.hb gP (n5 (by decide))
    exact ⟨cell_in k1 1, cell_in k1 2, cell_in k2 0, frozen_in k2 0⟩)
  have F5 : Hid (Pf (W.heap.size + 1) w4 w4.drew) := mkHid ((Pf.refl _ w4).bl (by omega) (bl_drew w4))
  have HT1 := mkHid (text_ok (Q4.out.bl (bl_drew w4)) c1 (by omega))
  have lw1 : (wordB c1).length ≤ 3298534883400 := by unfold wordB; rw [List.length_cons]; have := esc_len c1; omega
  have lw2 : (wordB c2).length ≤ 3298534883400 := by unfold wordB; rw [List.length_cons]; have := esc_len c2; omega
  have HT2 : Hid (∀ v6 w6, Pg w6 (W.heap.size + 1) v6 (hd0 ++ 32 :: wordB c1) → Calls Tryd.prog 14 #[v6, .string (ba c2)] w6 fun e w' => WrP w6 (W.heap.size + 1) (hd0 ++ 32 :: wordB c1) (32 :: wordB c2) e w') := mkHid (fun v6 w6 q6 => text_ok (Or.inl q6) c2 (by rw [List.length_append, List.length_cons]; omega))
  have HT3 : Hid (∀ v7 w7, Pg w7 (W.heap.size + 1) v7 (hd0 ++ 32 :: wordB c1 ++ 32 :: wordB c2) → Calls Tryd.prog 13 #[v7] w7 fun e w' => WrP w7 (W.heap.size + 1) (hd0 ++ 32 :: wordB c1 ++ 32 :: wordB c2) [10] e w') := mkHid (fun v7 w7 q7 => endLine_ok (Or.inl q7) (by rw [List.length_append, List.length_append, List.length_cons, List.length_cons]; omega))
  have GA4 := mkHid gA4
  have GP := mkHid gP
  obtain ⟨hd1, hhd1⟩ : ∃ X, hd0 ++ (32 :: wordB c1) ++ (32 :: wordB c2) ++ [10] = X := ⟨_, rfl⟩
  have hl1 : hd1.length ≤ 6597069768000 := by rw [← hhd1]; simp only [List.length_append, List.length_cons, List.length_nil]; omega
  clear gA4 gP b4 Q3 Q4 HN lw1 lw2
  refine wp_region_noPanic ?_
  refine wp_region_last (L := 10) (S := (fun U => U.cell? ⟨W.heap.size, 1, none⟩ = some (.string (ba c1)) ∧ U.cell? ⟨W.heap.size, 2, none⟩ = some (.string (ba c2)) ∧ U.cell? ⟨w3.heap.size, 0, none⟩ = some (.slice va vn vc) ∧ U.frozen? ⟨w3.heap.size, 0, none⟩ = false)) (by kernel_rfl) (HS.out _ F5.out) (fun hHeld => ?_)
  refine wpLast_take (i := 1) (v := ?_) rfl (by kernel_rfl) (by kernel_rfl) (by kernel_rfl) (by decide) (by kernel_rfl) (fun _ _ _ h => h) (Or.inl ⟨by rfl, ?_⟩) (by assumption) ?_
  rotate_left
  · (intro w hSw; (try dsimp only at hSw); (try go_split_ands); first | (go_simp; done) | (go_simp; with_reducible rfl))
  try simp only [Act.put, List.getElem_toArray, List.getElem_cons_zero, List.getElem_cons_succ, List.setIfInBounds_toArray, List.set_cons_zero, List.set_cons_succ]
  refine wpLast_take (i := 2) (v := ?_) rfl (by kernel_rfl) (by kernel_rfl) (by kernel_rfl) (by decide) (by kernel_rfl) (fun _ _ _ h => h) (Or.inl ⟨by rfl, ?_⟩) (by assumption) ?_
  rotate_left
  · (intro w hSw; (try dsimp only at hSw); (try go_split_ands); first | (go_simp; done) | (go_simp; with_reducible rfl))
  try simp only [Act.put, List.getElem_toArray, List.getElem_cons_zero, List.getElem_cons_succ, List.setIfInBounds_toArray, List.set_cons_zero, List.set_cons_succ]
  refine wpLast_take (i := 3) (v := ?_) rfl (by kernel_rfl) (by kernel_rfl) (by kernel_rfl) (by decide) (by kernel_rfl) (fun _ _ _ h => h) (Or.inl ⟨by rfl, ?_⟩) (by assumption) ?_
  rotate_left
  · (intro w hSw; (try dsimp only at hSw); (try go_split_ands); first | (go_simp; done) | (go_simp; with_reducible rfl))
  try simp only [Act.put, List.getElem_toArray, List.getElem_cons_zero, List.getElem_cons_succ, List.setIfInBounds_toArray, List.set_cons_zero, List.set_cons_succ]
  refine wpLast_take (i := 5) (v := ?_) rfl (by kernel_rfl) (by kernel_rfl) (by kernel_rfl) (by decide) (by kernel_rfl) (fun _ _ _ h => h) (Or.inl ⟨by rfl, ?_⟩) (by assumption) ?_
  rotate_left
  · (intro w hSw; (try dsimp only at hSw); (try go_split_ands); first | (go_simp; done) | (go_simp; with_reducible rfl))
  try simp only [Act.put, List.getElem_toArray, List.getElem_cons_zero, List.getElem_cons_succ, List.setIfInBounds_toArray, List.set_cons_zero, List.set_cons_succ]
  refine wpLast_take (i := 6) (v := ?_) rfl (by kernel_rfl) (by kernel_rfl) (by kernel_rfl) (by decide) (by kernel_rfl) (fun _ _ _ h => h) (Or.inl ⟨by rfl, ?_⟩) (by assumption) ?_
  rotate_left
  · (intro w hSw; (try dsimp only at hSw); (try go_split_ands); first | (go_simp; done) | (go_simp; with_reducible rfl))
  try simp only [Act.put, List.getElem_toArray, List.getElem_cons_zero, List.getElem_cons_succ, List.setIfInBounds_toArray, List.set_cons_zero, List.set_cons_succ]
  refine wpLast_take (i := 7) (v := ?_) rfl (by kernel_rfl) (by kernel_rfl) (by kernel_rfl) (by decide) (by kernel_rfl) (fun _ _ _ h => h) (Or.inl ⟨by rfl, ?_⟩) (by assumption) ?_
  rotate_left
  · (intro w hSw; (try dsimp only at hSw); (try go_split_ands); first | (go_simp; done) | (go_simp; with_reducible rfl))
  try simp only [Act.put, List.getElem_toArray, List.getElem_cons_zero, List.getElem_cons_succ, List.setIfInBounds_toArray, List.set_cons_zero, List.set_cons_succ]
  refine wpLast_take (i := 0) (v := ?_) rfl (by kernel_rfl) (by kernel_rfl) (by kernel_rfl) (by decide) (by kernel_rfl) (fun _ _ _ h => h) (Or.inl ⟨by rfl, ?_⟩) (by assumption) ?_
  rotate_left
  · (intro w hSw; (try dsimp only at hSw); (try go_split_ands); first | (go_simp; done) | (go_simp; with_reducible rfl))
  try simp only [Act.put, List.getElem_toArray, List.getElem_cons_zero, List.getElem_cons_succ, List.setIfInBounds_toArray, List.set_cons_zero, List.set_cons_succ]
  refine wpLast_one (i := 4) (by kernel_rfl) rfl (by decide) (fun K hK => ?_)
  refine stepE (by rfl) 14 Tryd.f14 Tryd.func14 (by kernel_rfl) (by kernel_rfl) _ _ rfl _ (by first | (simp [Act.eval]; done) | (simp [Act.eval]; rfl)) _ (HT1.out) ?_
  rintro _ w6 ⟨v6, rfl, q6, f6⟩
  refine hK.out _ _ (HS.out _ (F5.out.trans f6)) (fun hHeld => ?_)
  clear hK K
  try simp only [Act.put, List.getElem_toArray, List.getElem_cons_zero, List.getElem_cons_succ, List.setIfInBounds_toArray, List.set_cons_zero, List.set_cons_succ]
  refine wpLast_one (i := 8) (by kernel_rfl) rfl (by decide) (fun K hK => ?_)
  refine stepE (by rfl) 14 Tryd.f14 Tryd.func14 (by kernel_rfl) (by kernel_rfl) _ _ rfl _ (by first | (simp [Act.eval]; done) | (simp [Act.eval]; rfl)) _ (HT2.out v6 w6 q6) ?_
  rintro _ w7 ⟨v7, rfl, q7, f7⟩
  refine hK.out _ _ (HS.out _ ((F5.out.trans f6).trans f7)) (fun hHeld => ?_)
  clear hK K
  try simp only [Act.put, List.getElem_toArray, List.getElem_cons_zero, List.getElem_cons_succ, List.setIfInBounds_toArray, List.set_cons_zero, List.set_cons_succ]
  refine wpLast_one (i := 9) (by kernel_rfl) rfl (by decide) (fun K hK => ?_)
  refine stepE (by rfl) 13 Tryd.f13 Tryd.func13 (by kernel_rfl) (by kernel_rfl) _ _ rfl _ (by first | (simp [Act.eval]; done) | (simp [Act.eval]; rfl)) _ (HT3.out v7 w7 q7) ?_
  rintro _ w8 ⟨v8, rfl, q8, f8⟩
  obtain ⟨xa, xn, xc, rfl⟩ := q8.form
  refine hK.out _ _ (HS.out _ (((F5.out.trans f6).trans f7).trans f8)) (fun hHeld => ?_)
  clear hK K
  try simp only [Act.put, List.getElem_toArray, List.getElem_cons_zero, List.getElem_cons_succ, List.setIfInBounds_toArray, List.set_cons_zero, List.set_cons_succ]
  obtain ⟨g1, g2, g3, g4⟩ := hHeld
  refine wpLast_end (by kernel_rfl) rfl (by kernel_rfl) (fun K hK => ?_)
  go_simp
  refine hK.out _ _ ?_
  clear hK K
  try simp only [Act.put, List.getElem_toArray, List.getElem_cons_zero, List.getElem_cons_succ, List.setIfInBounds_toArray, List.set_cons_zero, List.set_cons_succ]
  refine NoPanic.normal ?_
  have hP0 : W.heap.size ≤ w3.heap.size := by omega
  have F48 := mkHid (((F5.out.trans f6).trans f7).trans f8)
  obtain ⟨w9, hw9⟩ : ∃ X, w8.setCell ⟨w3.heap.size, 0, none⟩ (.slice xa xn xc) = X := ⟨_, rfl⟩
  have gP8 := F48.out.hb GP.out (n5 (by decide))
  have fr9 : Fr [w3.heap.size] w8 w9 := hw9 ▸ Fr.setCell _ _ _ (by simp)
  have gP9 : w9.heap[w3.heap.size]? = some (.cells #[.slice xa xn xc] 47 (0, 0)) := hw9 ▸ set_in gP8 0 _
  have gA9 := (fr9.block _ (lt_of_heap (F48.out.hb GA4.out (n5 (by decide)))) (by simp; omega)).trans (F48.out.hb GA4.out (n5 (by decide)))
  have q9 := q8.fr fr9 (fun cur fz e => by rw [gP8] at e; injection e with e; exact n5 (by decide) _ _ e) hs3
  have B9 : Hid (Bl W w9) := mkHid (HBW.out _ _ _ _ _ (B1.out.trans B13.out) F3.out hw4 F48.out fr9)
  rw [hw9]
  have c7 : w9.cell? ⟨W.heap.size, 7, none⟩ = some (.string (ba t)) := cell_in gA9 7
  have HLn := mkHid (lines_ok t w9)
  have GP9 := mkHid gP9
  have Q9 := mkHid q9
  clear q6 q7 q8 f6 f7 f8 g1 g2 g3 g4 HT1 HT2 HT3 HS F5 GA3 GA4 GP fr9 gP8 gP9 gA9 q9 hHeld
  go_wp2_with (go_at_call 15; refine HLn.out.mono ?_; rintro e w10 ⟨rfl, b10, z10, hbx⟩)
  have hz10 : w10.heap.size = w9.heap.size + 1 := z10
  have hz9 : w3.heap.size < w9.heap.size := lt_of_heap GP9.out
  have HBX := mkHid hbx
  have HT0 : Hid (TIn W w3.heap.size w9.heap.size hd1 [] w10) := mkHid ⟨⟨_, by
      have := (Q9.out.bl b10).low' (B' := W.heap.size) (Nat.le_succ _) (HTB.out.on (B9.out.trans b10))
      rw [hhd1] at this
      simpa [tellLines] using this, (b10.block _ (lt_of_heap GP9.out)).trans GP9.out⟩, ⟨_, hbx⟩, B9.out.trans b10⟩
  have HZ10 := mkHid z10
  have HHd := mkHid hhd1
  clear b10 z10 hbx HLn c7 c0 c3 c4 c5 c6 HL hhd1 HBW
  refine (wpIn_wide (n := 3)).1 ?_
  refine range_box (n := 3) (by omega) (gf := 30) (lb := #[.pointer (some ⟨w9.heap.size, 0, none⟩)]) rfl (ent 30 _ _ Tryd.func30 (by kernel_rfl) rfl)
    (lines_seq 2 (by omega) w9.heap.size t (by omega) w10 HBX.out) (lt_of_heap HBX.out)
    (fun A B C h k => k.trans h)
    (fun A l o hl => World.putObj_heap_other (by omega))
    (fun _ => rfl) (TI W w3.heap.size w9.heap.size hd1) (fun _ _ => False)
    (ti_stays hP0 hz9 (by omega)) (fun _ _ _ _ h _ _ => h)
    (fun V hV => mkHid (by
      obtain ⟨v, q, g⟩ := HT0.out.pg
      obtain ⟨y, gy⟩ := HT0.out.s
      exact ⟨⟨v, q.bl hV, (hV.block _ (lt_of_heap g)).trans g⟩, ⟨y, (hV.block _ (lt_of_heap gy)).trans gy⟩, HT0.out.bl.trans hV⟩))
    (fun x => { tmps := #[.agg #[.int .i64 n1, .string (ba c1), .string (ba c2), .int .i64 n5', .int .i64 n2, .int .i64 n3, .int .i64 n4, .string (ba t)], .pointer (some ⟨W.heap.size, 0, none⟩), .string ⟨#[]⟩, .pointer (some ⟨w3.heap.size, 0, none⟩), .string (ba x), .slice (some ⟨W.heap.size + 1, 0, none⟩) 6 6, .slice (some ⟨W.heap.size + 1, 0, none⟩) 6 6, .pointer (some ⟨W.heap.size, 0, none⟩), .pointer (some ⟨W.heap.size, 0, none⟩), .int .i64 n1, .pointer (some ⟨W.heap.size, 4, none⟩), .int .i64 n2, .pointer (some ⟨W.heap.size, 5, none⟩), .int .i64 n3, .pointer (some ⟨W.heap.size, 6, none⟩), .int .i64 n4, .pointer (some ⟨W.heap.size, 0, none⟩), .pointer (some ⟨W.heap.size, 3, none⟩), .int .i64 n5', .slice (some ⟨W2.heap.size, 0, none⟩) 5 5, .slice va vn vc, .slice va vn vc, .pointer (some ⟨W.heap.size, 0, none⟩), .pointer (some ⟨W.heap.size, 1, none⟩), .string (ba c1), v6, .pointer (some ⟨W.heap.size, 0, none⟩), .pointer (some ⟨W.heap.size, 2, none⟩), .string (ba c2), v7, .slice xa xn xc, .pointer (some ⟨W.heap.size, 7, none⟩), .string (ba t), .func (.func 30) #[] #[.pointer (some ⟨w9.heap.size, 0, none⟩)], .string (ba x), undef, undef, undef, undef, undef, undef, undef, undef, undef, undef, undef], defers := [] })
    ?assign ?body ?done ?stop
  case assign =>
    intro l x V K hK
    gi_wp2
    exact hK
  case body =>
    rintro lp pre x V hi hpre
    have hmem : x ∈ linesT t := hpre.subset (by simp)
    have hxl := (linesT_small t).2 x hmem
    have hcl := cutNl_len x
    have hpl : (tellLines (pre.map cutNl)).length ≤ 4 * t.length := by
      obtain ⟨r, hr⟩ := hpre
      have := tellLines_len t pre.length
      unfold linesB at this
      rw [← hr, ← List.map_take] at this
      simpa using this
    obtain ⟨v, q, g⟩ := hi.out.pg
    obtain ⟨y, gy⟩ := hi.out.s
    have hbV := hi.out.bl
    obtain ⟨ya, yn, yc, rfl⟩ := q.form
    have cP : V.cell? ⟨w3.heap.size, 0, none⟩ = some (.slice ya yn yc) := cell_in g 0
    obtain ⟨v1, V1, r1, q1, f1⟩ := q.str ⟨#[46]⟩ (by show _ + 1 ≤ _; rw [List.length_append]; omega)
    have q1' : Pg V1 W.heap.size v1 (hd1 ++ tellLines (pre.map cutNl) ++ [46]) := q1
    obtain ⟨v2, V2, r2, q2, f2⟩ := q1'.push [32] (by simp only [List.length_append, List.length_cons, List.length_nil]; omega)
    obtain ⟨za, zn, zc, rfl⟩ := q2.form
    have g2 := f2.hb (f1.hb g (n5 (by decide))) (n5 (by decide))
    have fP2 : V2.frozen? ⟨w3.heap.size, 0, none⟩ = false := frozen_in g2 0
    have cP2 : V2.cell? ⟨w3.heap.size, 0, none⟩ = some (.slice ya yn yc) := cell_in g2 0
    obtain ⟨V3, hV3⟩ : ∃ X, V2.setCell ⟨w3.heap.size, 0, none⟩ (.slice za zn zc) = X := ⟨_, rfl⟩
    have fr3 : Fr [w3.heap.size] V2 V3 := hV3 ▸ Fr.setCell _ _ _ (by simp)
    have g3 : V3.heap[w3.heap.size]? = some (.cells #[.slice za zn zc] 47 (0, 0)) := hV3 ▸ set_in g2 0 _
    have q3 := q2.fr fr3 (fun cur fz e => by rw [g2] at e; injection e with e; exact n5 (by decide) _ _ e) hP0
    have cP3 : V3.drew.cell? ⟨w3.heap.size, 0, none⟩ = some (.slice za zn zc) := cell_in (w := V3.drew) g3 0
    obtain ⟨v4, V4, r4, q4, f4⟩ := (q3.bl (bl_drew V3)).str (ba (cutNl x)) (by rw [ba_size]; simp only [List.length_append, List.length_cons, List.length_nil]; omega)
    rw [ba_data] at q4
    have HR1 := mkHid r1
    have HR2 := mkHid r2
    have HE := mkHid (endLine_ok (Or.inl q4) (by simp only [List.length_append, List.length_cons, List.length_nil]; omega))
    have HTr : Hid (∀ U, Calls Tryd.prog 16 #[.string (ba x), .string ⟨#[10]⟩] U fun e w' => e = .returned (.string (ba (cutNl x))) ∧ w' = U) := mkHid (fun U => trim_ok x U (by omega))
    gi_wp2_with (first
      | (gi_at_builtin; refine wpListIn_append_run _ rfl (.tmp 35) (.const (.string ⟨#[46]⟩)) 47 9 rfl _ _ rfl rfl _ _ HR1.out ?_)
      | (gi_at_builtin; refine wpListIn_append_run _ rfl (.tmp 36) (.tmp 37) 47 47 rfl _ _ rfl rfl _ _ HR2.out ?_))
    have g4 := f4.hb (show V3.drew.heap[w3.heap.size]? = some (.cells #[.slice za zn zc] 47 (0, 0)) from g3) (n5 (by decide))
    have hgy : V.heap[w9.heap.size]? = some (.cells #[y] 9 (0, 0)) := gy
    have HFin : Hid (∀ v5 w5, Pg w5 W.heap.size v5 (hd1 ++ tellLines (pre.map cutNl) ++ [46] ++ [32] ++ cutNl x ++ [10]) → Pf W.heap.size V4 w5 → Kn w10.heap.size V (w5.setCell ⟨w3.heap.size, 0, none⟩ v5) ∧ Kb w9.heap.size V (w5.setCell ⟨w3.heap.size, 0, none⟩ v5) ∧ TI W w3.heap.size w9.heap.size hd1 (pre ++ [x]) (w5.setCell ⟨w3.heap.size, 0, none⟩ v5)) := mkHid (by
      intro v5 w5 q5 f5
      have hfr : Fr [w3.heap.size] w5 (w5.setCell ⟨w3.heap.size, 0, none⟩ v5) := Fr.setCell _ _ _ (by simp)
      have g5 := f5.hb g4 (n5 (by decide))
      have hkeep : ∀ j o, V.heap[j]? = some o → j ≠ w3.heap.size → (∀ c fz, o ≠ .cells c 5 fz) → (w5.setCell ⟨w3.heap.size, 0, none⟩ v5).heap[j]? = some o := fun j o h1 h2 h3 => by
        have e1 := f2.hb (f1.hb h1 h3) h3
        have e2 := (fr3.block _ (lt_of_heap e1) (by simpa using h2)).trans e1
        have e3 := f5.hb (f4.hb (show V3.drew.heap[j]? = some o from e2) h3) h3
        exact (hfr.block _ (lt_of_heap e3) (by simpa using h2)).trans e3
      have s1 := f1.below.size
      have s2 := f2.below.size
      have e0 : Below W.heap.size V V2 := f1.below.trans f2.below
      have e1 : Below W.heap.size V2 V3 := fr3.below (by have := hbV.size; omega) (fun b hb => by simp at hb; omega)
      have e2 : Below W.heap.size V3 w5 := Below.trans ((bl_drew V3).mono (by have := hbV.size; have := e1.size; omega)) (f4.below.trans f5.below)
      have e3 : Below W.heap.size w5 (w5.setCell ⟨w3.heap.size, 0, none⟩ v5) := hfr.below (by have := hbV.size; have := e1.size; have := e2.size; omega) (fun b hb => by simp at hb; omega)
      refine ⟨fun b o hb h hc => hkeep b o h (by omega) (fun c fz e => by subst e; cases hc), (hkeep _ _ hgy (by omega) (n5 (by decide))).trans hgy.symm, mkHid ⟨⟨v5, ?_, ?_⟩, ⟨y, hkeep _ _ hgy (by omega) (n5 (by decide))⟩, hbV.trans' ((e0.trans e1).trans (e2.trans e3))⟩⟩
      · have := q5.fr hfr (fun cur fz e => by rw [g5] at e; injection e with e; exact n5 (by decide) _ _ e) hP0
        have e : hd1 ++ tellLines (pre.map cutNl) ++ [46] ++ [32] ++ cutNl x ++ [10] = hd1 ++ tellLines ((pre ++ [x]).map cutNl) := by
          unfold tellLines
          rw [List.map_append, List.flatMap_append]
          simp
        rwa [e] at this
      · rw [set_in g5 0 _]
        simp)
    have G4 := mkHid g4
    have r4' := r4
    clear q1 q1' q2 q3 q4 r1 r2 HR1 HR2 f1 f2 f4 fr3 g g2 g3 g4 gy hgy hbV hpl hcl hxl hmem hi hpre cP cP2 fP2 hV3 q
    refine wpIn_region_any (by kernel_rfl) ?_
    change wpAnyIn _ _ _ _ _ _ _ _ _ (World.drew _)
    refine wpAnyIn_ready (rs := [0, 1]) (by kernel_rfl) (by simp) ?_
    refine AllReadyIn.cons rfl (fun K hK => ?_) ?_
    · go_simp
      refine hK _ _ ?_
      clear hK K
      refine wpAnyIn_ready (rs := [1]) (by kernel_rfl) (by simp) ?_
      refine AllReadyIn.cons rfl (fun K hK => ?_) ?_
      · go_simp
        refine hK _ _ ?_
        clear hK K
        refine wpAnyIn_ready (rs := [2]) (by kernel_rfl) (by simp) ?_
        refine AllReadyIn.cons rfl (fun K hK => ?_) ?_
        · go_simp
          refine (CallsIn.inRound lp (callsIn_wide.2 (HTr.out _))).mono ?_
          rintro e w' ⟨rfl, rfl⟩
          refine hK _ _ ?_
          clear hK K
          refine wpAnyIn_ready (rs := [3]) (by kernel_rfl) (by simp) ?_
          refine AllReadyIn.cons rfl (fun K hK => ?_) ?_
          · refine stepIn_append_run rfl (.tmp 39) (.tmp 41) 47 9 rfl _ _ rfl rfl _ _ r4 ?_
            refine hK _ _ ?_
            clear hK K
            refine wpAnyIn_ready (rs := [4]) (by kernel_rfl) (by simp) ?_
            refine AllReadyIn.cons rfl (fun K hK => ?_) ?_
            · go_simp
              refine (CallsIn.inRound lp (callsIn_wide.2 HE.out)).mono ?_
              rintro e w5 ⟨v5, rfl, q5, f5⟩
              obtain ⟨ta, tn, tc, rfl⟩ := q5.form
              have g5 := f5.hb G4.out (n5 (by decide))
              have cP5 : w5.cell? ⟨w3.heap.size, 0, none⟩ = some (.slice za zn zc) := cell_in g5 0
              have fP5 : w5.frozen? ⟨w3.heap.size, 0, none⟩ = false := frozen_in g5 0
              have HZ5 := mkHid (HFin.out _ _ q5 f5)
              clear q5 f5 g5
              refine hK _ _ ?_
              clear hK K
              refine wpAnyIn_ready (rs := [5]) (by kernel_rfl) (by simp) ?_
              refine AllReadyIn.cons rfl (fun K hK => ?_) ?_
              · go_simp
                refine hK _ _ ?_
                clear hK K
                refine wpAnyIn_done (by kernel_rfl) ?_ _
                exact HZ5.out
              exact AllReadyIn.nil
            exact AllReadyIn.nil
          exact AllReadyIn.nil
        exact AllReadyIn.nil
      exact AllReadyIn.nil
    refine AllReadyIn.cons rfl (fun K hK => ?_) ?_
    · go_simp
      refine hK _ _ ?_
      clear hK K
      refine wpAnyIn_ready (rs := [0, 2]) (by kernel_rfl) (by simp) ?_
      refine AllReadyIn.cons rfl (fun K hK => ?_) ?_
      · go_simp
        refine hK _ _ ?_
        clear hK K
        refine wpAnyIn_ready (rs := [2]) (by kernel_rfl) (by simp) ?_
        refine AllReadyIn.cons rfl (fun K hK => ?_) ?_
        · go_simp
          refine (CallsIn.inRound lp (callsIn_wide.2 (HTr.out _))).mono ?_
          rintro e w' ⟨rfl, rfl⟩
          refine hK _ _ ?_
          clear hK K
          refine wpAnyIn_ready (rs := [3]) (by kernel_rfl) (by simp) ?_
          refine AllReadyIn.cons rfl (fun K hK => ?_) ?_
          · refine stepIn_append_run rfl (.tmp 39) (.tmp 41) 47 9 rfl _ _ rfl rfl _ _ r4 ?_
            refine hK _ _ ?_
            clear hK K
            refine wpAnyIn_ready (rs := [4]) (by kernel_rfl) (by simp) ?_
            refine AllReadyIn.cons rfl (fun K hK => ?_) ?_
            · go_simp
              refine (CallsIn.inRound lp (callsIn_wide.2 HE.out)).mono ?_
              rintro e w5 ⟨v5, rfl, q5, f5⟩
              obtain ⟨ta, tn, tc, rfl⟩ := q5.form
              have g5 := f5.hb G4.out (n5 (by decide))
              have cP5 : w5.cell? ⟨w3.heap.size, 0, none⟩ = some (.slice za zn zc) := cell_in g5 0
              have fP5 : w5.frozen? ⟨w3.heap.size, 0, none⟩ = false := frozen_in g5 0
              have HZ5 := mkHid (HFin.out _ _ q5 f5)
              clear q5 f5 g5
              refine hK _ _ ?_
              clear hK K
              refine wpAnyIn_ready (rs := [5]) (by kernel_rfl) (by simp) ?_
              refine AllReadyIn.cons rfl (fun K hK => ?_) ?_
              · go_simp
                refine hK _ _ ?_
                clear hK K
                refine wpAnyIn_done (by kernel_rfl) ?_ _
                exact HZ5.out
              exact AllReadyIn.nil
            exact AllReadyIn.nil
          exact AllReadyIn.nil
        exact AllReadyIn.nil
      refine AllReadyIn.cons rfl (fun K hK => ?_) ?_
      · go_simp
        refine (CallsIn.inRound lp (callsIn_wide.2 (HTr.out _))).mono ?_
        rintro e w' ⟨rfl, rfl⟩
        refine hK _ _ ?_
        clear hK K
        refine wpAnyIn_ready (rs := [0]) (by kernel_rfl) (by simp) ?_
        refine AllReadyIn.cons rfl (fun K hK => ?_) ?_
        · go_simp
          refine hK _ _ ?_
          clear hK K
          refine wpAnyIn_ready (rs := [3]) (by kernel_rfl) (by simp) ?_
          refine AllReadyIn.cons rfl (fun K hK => ?_) ?_
          · refine stepIn_append_run rfl (.tmp 39) (.tmp 41) 47 9 rfl _ _ rfl rfl _ _ r4 ?_
            refine hK _ _ ?_
            clear hK K
            refine wpAnyIn_ready (rs := [4]) (by kernel_rfl) (by simp) ?_
            refine AllReadyIn.cons rfl (fun K hK => ?_) ?_
            · go_simp
              refine (CallsIn.inRound lp (callsIn_wide.2 HE.out)).mono ?_
              rintro e w5 ⟨v5, rfl, q5, f5⟩
              obtain ⟨ta, tn, tc, rfl⟩ := q5.form
              have g5 := f5.hb G4.out (n5 (by decide))
              have cP5 : w5.cell? ⟨w3.heap.size, 0, none⟩ = some (.slice za zn zc) := cell_in g5 0
              have fP5 : w5.frozen? ⟨w3.heap.size, 0, none⟩ = false := frozen_in g5 0
              have HZ5 := mkHid (HFin.out _ _ q5 f5)
              clear q5 f5 g5
              refine hK _ _ ?_
              clear hK K
              refine wpAnyIn_ready (rs := [5]) (by kernel_rfl) (by simp) ?_
              refine AllReadyIn.cons rfl (fun K hK => ?_) ?_
              · go_simp
                refine hK _ _ ?_
                clear hK K
                refine wpAnyIn_done (by kernel_rfl) ?_ _
                exact HZ5.out
              exact AllReadyIn.nil
            exact AllReadyIn.nil
          exact AllReadyIn.nil
        exact AllReadyIn.nil
      exact AllReadyIn.nil
    exact AllReadyIn.nil
  case done =>
    rintro D V hD hi hK
    obtain ⟨v, q, g⟩ := hi.out.pg
    have HB := mkHid hi.out.bl
    obtain ⟨ya, yn, yc, rfl⟩ := q.form
    have cP : V.cell? ⟨w3.heap.size, 0, none⟩ = some (.slice ya yn yc) := cell_in g 0
    have HC : (convert 47 9 (.slice ya yn yc)).run Tryd.prog V = .ok (.string (ba (hd1 ++ tellLines (linesB t)))) V := q.conv
    have HKK := mkHid hK
    clear hK q g hi
    go_wp2_with fail
    refine ⟨by simp, .inl ⟨_, _, rfl, run_takeDeferred HKK.out, ?_⟩⟩
    refine ⟨_, results_tmp rfl _ _ _, ?_⟩
    exact ⟨by rw [HHd.out]; rfl, (HB.out.fr.trans (fr_put V D (.deferred none)) (fun b hb => by simp at hb; have := HZ10.out; omega)).bl⟩
  case stop =>
    rintro D pre V hD hi hK
    exact hi.elim
end Go.Proofs.YtheolmnjedbjmaaDoor
