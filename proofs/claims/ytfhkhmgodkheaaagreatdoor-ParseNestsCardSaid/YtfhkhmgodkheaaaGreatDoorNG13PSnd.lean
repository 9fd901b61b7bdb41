import Derived.Test.YtfhkhmgodkheaaaGreatDoorNG12PLit
import Derived.Deep.RegionHeld3
set_option linter.unusedSimpArgs false
set_option linter.unusedVariables false
namespace Go.Proofs.YtfhkhmgodkheaaaGreatDoor
open Go.RowKit Go.Maps
theorem cells4 {V : World} {B : Nat} {c0 c1 c2 c3 : Value} {t : TypeId} (h : V.heap[B]? = some (.cells #[c0, c1, c2, c3] t (0, 0))) : V.cell? ⟨B, 0, none⟩ = some c0 ∧ V.cell? ⟨B, 1, none⟩ = some c1 ∧ V.cell? ⟨B, 2, none⟩ = some c2 ∧ V.cell? ⟨B, 3, none⟩ = some c3 :=
 ⟨by rw [cell_in h]; rfl, by rw [cell_in h]; rfl, by rw [cell_in h]; rfl, by rw [cell_in h]; rfl⟩
set_option maxHeartbeats 8000000 in
set_option maxRecDepth 1000000 in
theorem integer_ok (ts : Ts) (hnum : ∀ x ∈ ts, x.1.num ≤ 9007199254740992) : ∀ P g c s w, Pr w P g c ts s → Okq ts s → (hdT ts s).1.kind ≠ 18 → Calls Tryz.prog 189 #[.pointer (some ⟨P, 0, none⟩)] w (PostN P g c ts w (integerP ts s)) := by
 intro P g c s w h hok hk
 have hq := hok.take hk
 have S0 := mkHid (Sw.start h hok)
 have HT := mkHid (fun V p => take_ok P g c ts s V p hok.ok hok.lt)
 have HK := mkHid (fun V p => standsK_ok P g c ts (takeP ts s) 4 V p hq.ok hq.lt)
 have HA := mkHid (fun V p => ahead_ok P g c ts (takeP ts s) V p hq.lt (by have := hq.len; omega))
 have HT2 := mkHid (fun V p => take_ok P g c ts (takeP ts s) V p hq.ok hq.lt)
 have hyp := hq.txt.2
 have hxp := hok.txt.2
 have hyn := hnum _ (hdT_mem hq.lt)
 unfold tkv at HT HA HT2
 unfold integerP
 dsimp only
 clear h hok hk hq hnum
 generalize takeP ts (takeP ts s) = st2 at *
 generalize hst : standsP ts 4 (takeP ts s) = sb at *
 clear hst
 generalize hdT ts (takeP ts s) = y at *
 generalize takeP ts s = st at *
 generalize hdT ts s = x at *
 obtain ⟨⟨tk, tt, tn⟩, tp⟩ := x
 obtain ⟨⟨yk, yt, yn⟩, yp⟩ := y
 dsimp only at *
 by_cases h1 : tk = 4 ∧ tn ≤ 1073741823
 ·rw [if_pos h1]
  have k4 : ((tk : Int) == 4) = true := by rw [h1.1]; rfl
  have k5 : (tn : Int) ≤ 1073741823 := by omega
  clear h1 HK HA HT2
  go_enter Tryz.func189, Tryz.ntmps189
  go_wp2_with (first
   | (go_at_call 80; refine (HT.out _ S0.out.pr).mono ?_; rintro e w1 ⟨rfl, p1, f1⟩; have S1 := mkHid ((S0.out.go f1 p1).bl (Bl.alloc w1 (.cells #[.int .i64 tk, .string (ba tt), .int .i64 tn, .int .i64 tp] 54))); have T1 := mkHid (heap_alloc_new w1 (.cells #[.int .i64 tk, .string (ba tt), .int .i64 tn, .int .i64 tp] 54)); have L1 : Hid (w.heap.size < w1.heap.size) := mkHid ((S0.out.go f1 p1).size); clear p1 f1)
   | (refine wpList_store_row rfl 34 _ _ rfl w.heap.size #[.int .i64 1, .string ⟨#[]⟩, .int .i64 tn, .int .i64 tp, .slice none 0 0, .slice none 0 0, .slice none 0 0] rfl rfl 34 _ S1.out.res (by kernel_rfl) rfl (by kernel_rfl) ?_))
  exact S1.out.endN Tryz.results189 rfl (NdM.leaf _ 1 [] tn tp) (Apt.nil _)
 rw [if_neg h1]
 have K : ∃ b : Bool, b = ((tk : Int) == 4) ∧ (b = false ∨ (b = true ∧ ¬ (tn : Int) ≤ 1073741823)) := by
  refine ⟨_, rfl, ?_⟩
  by_cases h4 : tk = 4
  ·right; exact ⟨by rw [h4]; rfl, fun h => h1 ⟨h4, by omega⟩⟩
  ·left; exact beq_eq_false_iff_ne.2 (by omega)
 clear h1
 obtain ⟨b, e1, K⟩ := K
 by_cases hm : tt = [45]
 ·have qm : ((ba tt).toList == [45]) = true := by rw [tl_lst, lst_ba, hm]; rfl
  cases sb with
  | false =>
   rw [if_neg (by rintro ⟨_, h, _⟩; cases h)]
   clear hm HA HT2
   rcases K with rfl | ⟨rfl, K⟩
   all_goals
    have k4 := e1.symm
    clear e1
    go_enter Tryz.func189, Tryz.ntmps189
    go_wp2_with (first
     | (go_at_call 80; refine (HT.out _ S0.out.pr).mono ?_; rintro e w1 ⟨rfl, p1, f1⟩; have S1 := mkHid ((S0.out.go f1 p1).bl (Bl.alloc w1 (.cells #[.int .i64 tk, .string (ba tt), .int .i64 tn, .int .i64 tp] 54))); have T1 := mkHid (heap_alloc_new w1 (.cells #[.int .i64 tk, .string (ba tt), .int .i64 tn, .int .i64 tp] 54)); have L1 : Hid (w.heap.size < w1.heap.size) := mkHid ((S0.out.go f1 p1).size); clear p1 f1))
    have S2 := mkHid S1.out.drew
    have T2 : Hid ((w1.alloc (.cells #[.int .i64 tk, .string (ba tt), .int .i64 tn, .int .i64 tp] 54)).drew.heap[w1.heap.size]? = some (.cells #[.int .i64 tk, .string (ba tt), .int .i64 tn, .int .i64 tp] 54 (0, 0))) := mkHid T1.out
    refine wp_region_held_drew (S := fun V => V.cell? ⟨w1.heap.size, 1, none⟩ = some (.string (ba tt)) ∧ V.cell? ⟨w1.heap.size, 3, none⟩ = some (.int .i64 tp)) (by kernel_rfl) (⟨cell_in T2.out, cell_in T2.out⟩) (fun hHeld => ?_)
    refine tq (i := 0) ?_
    try simp only [Act.put, qq]
    refine tq (i := 1) ?_
    try simp only [Act.put, qq]
    refine tq (i := 2) ?_
    try simp only [Act.put, qq]
    refine tq (i := 3) ?_
    try simp only [Act.put, qq]
    refine tq (i := 4) ?_
    try simp only [Act.put, qq]
    refine oneH (i := 5) (by kernel_rfl) rfl (fun K hK => ?_)
    refine stepE (by rfl) 83 Tryz.f83 Tryz.func83 (by kernel_rfl) (by kernel_rfl) _ _ rfl _ (by first | (simp [Act.eval]; done) | (simp [Act.eval]; rfl)) _ (HK.out _ S2.out.pr) ?_
    rintro _ w2 ⟨rfl, b2⟩
    have S3 := mkHid (S2.out.bl b2)
    have T3 := mkHid ((b2.block _ (lt_of_heap T2.out)).trans T2.out)
    clear b2
    refine hK.out _ _ (⟨cell_in T3.out, cell_in T3.out⟩) (fun hHeld => ?_)
    clear hK K
    try simp only [Act.put, qq]
    refine tq (i := 6) ?_
    try simp only [Act.put, qq]
    refine tq (i := 7) ?_
    try simp only [Act.put, qq]
    refine tu (i := 8) ?_
    try simp only [Act.put, qq]
    refine tu (i := 11) ?_
    try simp only [Act.put, qq]
    refine tu (i := 12) ?_
    try simp only [Act.put, qq]
    refine tu (i := 13) ?_
    try simp only [Act.put, qq]
    refine oneH (i := 9) (by kernel_rfl) rfl (fun K hK => ?_)
    rw [if_neg (by intro h; exact Bool.false_ne_true h)]
    refine hK.out _ _ (⟨cell_in T3.out, cell_in T3.out⟩) (fun hHeld => ?_)
    clear hK K
    try simp only [Act.put, qq]
    refine tu (i := 10) ?_
    try simp only [Act.put, qq]
    refine tu (i := 14) ?_
    try simp only [Act.put, qq]
    refine tq (i := 15) ?_
    try simp only [Act.put, qq]
    refine wpAnyH_done (by kernel_rfl) ?_ _
    clear hHeld
    obtain ⟨z0, z1, z2, z3⟩ := cells4 T3.out
    go_wp2_with fail
    exact ⟨rfl, mk_bad S3.out.fr⟩
  | true =>
   by_cases ha : yp = tp + 1
   ·rw [if_pos ⟨hm, rfl, ha⟩]
    have ka : ((yp : Int) == ((tp + 1 : Nat) : Int)) = true := by rw [ha, beq_iff_eq]
    clear hm ha
    rcases K with rfl | ⟨rfl, K⟩
    all_goals
     have k4 := e1.symm
     clear e1
     go_enter Tryz.func189, Tryz.ntmps189
     go_wp2_with (first
      | (go_at_call 80; refine (HT.out _ S0.out.pr).mono ?_; rintro e w1 ⟨rfl, p1, f1⟩; have S1 := mkHid ((S0.out.go f1 p1).bl (Bl.alloc w1 (.cells #[.int .i64 tk, .string (ba tt), .int .i64 tn, .int .i64 tp] 54))); have T1 := mkHid (heap_alloc_new w1 (.cells #[.int .i64 tk, .string (ba tt), .int .i64 tn, .int .i64 tp] 54)); have L1 : Hid (w.heap.size < w1.heap.size) := mkHid ((S0.out.go f1 p1).size); clear p1 f1))
     have S2 := mkHid S1.out.drew
     have T2 : Hid ((w1.alloc (.cells #[.int .i64 tk, .string (ba tt), .int .i64 tn, .int .i64 tp] 54)).drew.heap[w1.heap.size]? = some (.cells #[.int .i64 tk, .string (ba tt), .int .i64 tn, .int .i64 tp] 54 (0, 0))) := mkHid T1.out
     refine wp_region_held_drew (S := fun V => V.cell? ⟨w1.heap.size, 1, none⟩ = some (.string (ba tt)) ∧ V.cell? ⟨w1.heap.size, 3, none⟩ = some (.int .i64 tp)) (by kernel_rfl) (⟨cell_in T2.out, cell_in T2.out⟩) (fun hHeld => ?_)
     refine tq (i := 0) ?_
     try simp only [Act.put, qq]
     refine tq (i := 1) ?_
     try simp only [Act.put, qq]
     refine tq (i := 2) ?_
     try simp only [Act.put, qq]
     refine tq (i := 3) ?_
     try simp only [Act.put, qq]
     refine tq (i := 4) ?_
     try simp only [Act.put, qq]
     refine oneH (i := 5) (by kernel_rfl) rfl (fun K hK => ?_)
     refine stepE (by rfl) 83 Tryz.f83 Tryz.func83 (by kernel_rfl) (by kernel_rfl) _ _ rfl _ (by first | (simp [Act.eval]; done) | (simp [Act.eval]; rfl)) _ (HK.out _ S2.out.pr) ?_
     rintro _ w2 ⟨rfl, b2⟩
     have S3 := mkHid (S2.out.bl b2)
     have T3 := mkHid ((b2.block _ (lt_of_heap T2.out)).trans T2.out)
     clear b2
     refine hK.out _ _ (⟨cell_in T3.out, cell_in T3.out⟩) (fun hHeld => ?_)
     clear hK K
     try simp only [Act.put, qq]
     refine tq (i := 6) ?_
     try simp only [Act.put, qq]
     refine tq (i := 7) ?_
     try simp only [Act.put, qq]
     refine tq (i := 8) ?_
     try simp only [Act.put, qq]
     refine tq (i := 11) ?_
     try simp only [Act.put, qq]
     refine tq (i := 12) ?_
     try simp only [Act.put, qq]
     refine wpAnyH_take (i := 13) (v := .int .i64 ((tp + 1 : Nat) : Int)) rfl (by kernel_rfl) (by kernel_rfl) (by kernel_rfl) (fun _ _ _ h => h) (Or.inl ⟨by rfl, ?_⟩) (by assumption) ?_
     ·(intro w hSw; obtain ⟨hS1, hS2⟩ := hSw; go_simp; rw [wrap_id _ (by omega) (by omega)]; try omega)
     try simp only [Act.put, qq]
     refine oneH (i := 9) (by kernel_rfl) rfl (fun K hK => ?_)
     refine stepE (by rfl) 54 Tryz.f54 Tryz.func54 (by kernel_rfl) (by kernel_rfl) _ _ rfl _ (by first | (simp [Act.eval]; done) | (simp [Act.eval]; rfl)) _ (HA.out _ S3.out.pr) ?_
     rintro _ w3 ⟨rfl, b3⟩
     have S4 := mkHid (S3.out.bl b3)
     have T4 := mkHid ((b3.block _ (lt_of_heap T3.out)).trans T3.out)
     clear b3
     refine hK.out _ _ (⟨cell_in T4.out, cell_in T4.out⟩) (fun hHeld => ?_)
     clear hK K
     try simp only [Act.put, qq]
     refine wpAnyH_take (i := 10) (v := .int .i64 yp) rfl (by kernel_rfl) (by kernel_rfl) (by kernel_rfl) (fun _ _ _ h => h) (Or.inl ⟨by rfl, ?_⟩) (by assumption) ?_
     ·(intro w hSw; have hfd := fun W => f54_3 (.int .i64 yk) (.string (ba yt)) (.int .i64 yn) (.int .i64 yp) W; go_simp)
     try simp only [Act.put, qq]
     refine wpAnyH_take (i := 14) (v := .bool true) rfl (by kernel_rfl) (by kernel_rfl) (by kernel_rfl) (fun _ _ _ h => h) (Or.inl ⟨by rfl, ?_⟩) (by assumption) ?_
     ·(intro w hSw; have := ka; go_simp; try simpa using this)
     try simp only [Act.put, qq]
     refine tq (i := 15) ?_
     try simp only [Act.put, qq]
     refine wpAnyH_done (by kernel_rfl) ?_ _
     clear hHeld
     go_wp2_with fail
     have S5 := mkHid S4.out.drew
     have T5 : Hid (w3.drew.heap[w1.heap.size]? = some (.cells #[.int .i64 tk, .string (ba tt), .int .i64 tn, .int .i64 tp] 54 (0, 0))) := mkHid T4.out
     have HNe : Hid (w1.heap.size ≠ w.heap.size) := mkHid (by have := L1.out; omega)
     refine wp_region_held_drew (S := fun V => V.cell? ⟨w1.heap.size, 3, none⟩ = some (.int .i64 tp)) (by kernel_rfl) (cell_in T5.out) (fun hHeld => ?_)
     refine tq (i := 0) ?_
     try simp only [Act.put, qq]
     refine tq (i := 4) ?_
     try simp only [Act.put, qq]
     refine tq (i := 5) ?_
     try simp only [Act.put, qq]
     refine oneH (i := 1) (by kernel_rfl) rfl (fun K hK => ?_)
     refine stepE (by rfl) 80 Tryz.f80 Tryz.func80 (by kernel_rfl) (by kernel_rfl) _ _ rfl _ (by first | (simp [Act.eval]; done) | (simp [Act.eval]; rfl)) _ (HT2.out _ S5.out.pr) ?_
     rintro _ w4 ⟨rfl, p4, f4⟩
     have S6 := mkHid (S5.out.go f4 p4)
     have hne : w1.heap.size ≠ P := by have := S5.out.lp; have := L1.out; omega
     have T6 := mkHid ((f4.block _ (lt_of_heap T5.out) (by simpa using hne)).trans T5.out)
     clear p4 f4
     refine hK.out _ _ (cell_in T6.out) (fun hHeld => ?_)
     clear hK K
     try simp only [Act.put, qq]
     refine wpAnyH_take (i := 2) (v := .int .i64 yn) rfl (by kernel_rfl) (by kernel_rfl) (by kernel_rfl) (fun _ _ _ h => h) (Or.inl ⟨by rfl, ?_⟩) (by assumption) ?_
     ·(intro w hSw; have hfd := fun W => f54_2 (.int .i64 yk) (.string (ba yt)) (.int .i64 yn) (.int .i64 yp) W; go_simp)
     try simp only [Act.put, qq]
     refine wpAnyH_take (i := 3) (v := .int .i64 (-(yn : Int))) rfl (by kernel_rfl) (by kernel_rfl) (by kernel_rfl) (fun _ _ _ h => h) (Or.inl ⟨by rfl, ?_⟩) (by assumption) ?_
     ·(intro w hSw; go_simp; rw [wrap_id _ (by omega) (by omega)]; try omega)
     try simp only [Act.put, qq]
     refine tq (i := 6) ?_
     try simp only [Act.put, qq]
     refine oneH (i := 7) (by kernel_rfl) rfl (fun K hK => ?_)
     refine stepR (by rfl) 34 _ _ rfl w.heap.size #[.int .i64 1, .string ⟨#[]⟩, .int .i64 (-(yn : Int)), .int .i64 tp, .slice none 0 0, .slice none 0 0, .slice none 0 0] rfl rfl 34 _ S6.out.res (by kernel_rfl) rfl (by kernel_rfl) ?_
     refine hK.out _ _ (row_cell T6.out HNe.out 3) (fun hHeld => ?_)
     clear hK K
     try simp only [Act.put, qq]
     refine wpAnyH_done (by kernel_rfl) ?_ _
     go_wp2_with fail
     exact S6.out.endN Tryz.results189 rfl (NdM.leaf _ 1 [] (-(yn : Int)) tp) (Apt.nil _)
   ·rw [if_neg (by rintro ⟨_, _, h⟩; exact ha h)]
    have ka : ((yp : Int) == ((tp + 1 : Nat) : Int)) = false := by rw [beq_eq_false_iff_ne]; omega
    clear hm ha HT2
    rcases K with rfl | ⟨rfl, K⟩
    all_goals
     have k4 := e1.symm
     clear e1
     go_enter Tryz.func189, Tryz.ntmps189
     go_wp2_with (first
      | (go_at_call 80; refine (HT.out _ S0.out.pr).mono ?_; rintro e w1 ⟨rfl, p1, f1⟩; have S1 := mkHid ((S0.out.go f1 p1).bl (Bl.alloc w1 (.cells #[.int .i64 tk, .string (ba tt), .int .i64 tn, .int .i64 tp] 54))); have T1 := mkHid (heap_alloc_new w1 (.cells #[.int .i64 tk, .string (ba tt), .int .i64 tn, .int .i64 tp] 54)); have L1 : Hid (w.heap.size < w1.heap.size) := mkHid ((S0.out.go f1 p1).size); clear p1 f1))
     have S2 := mkHid S1.out.drew
     have T2 : Hid ((w1.alloc (.cells #[.int .i64 tk, .string (ba tt), .int .i64 tn, .int .i64 tp] 54)).drew.heap[w1.heap.size]? = some (.cells #[.int .i64 tk, .string (ba tt), .int .i64 tn, .int .i64 tp] 54 (0, 0))) := mkHid T1.out
     refine wp_region_held_drew (S := fun V => V.cell? ⟨w1.heap.size, 1, none⟩ = some (.string (ba tt)) ∧ V.cell? ⟨w1.heap.size, 3, none⟩ = some (.int .i64 tp)) (by kernel_rfl) (⟨cell_in T2.out, cell_in T2.out⟩) (fun hHeld => ?_)
     refine tq (i := 0) ?_
     try simp only [Act.put, qq]
     refine tq (i := 1) ?_
     try simp only [Act.put, qq]
     refine tq (i := 2) ?_
     try simp only [Act.put, qq]
     refine tq (i := 3) ?_
     try simp only [Act.put, qq]
     refine tq (i := 4) ?_
     try simp only [Act.put, qq]
     refine oneH (i := 5) (by kernel_rfl) rfl (fun K hK => ?_)
     refine stepE (by rfl) 83 Tryz.f83 Tryz.func83 (by kernel_rfl) (by kernel_rfl) _ _ rfl _ (by first | (simp [Act.eval]; done) | (simp [Act.eval]; rfl)) _ (HK.out _ S2.out.pr) ?_
     rintro _ w2 ⟨rfl, b2⟩
     have S3 := mkHid (S2.out.bl b2)
     have T3 := mkHid ((b2.block _ (lt_of_heap T2.out)).trans T2.out)
     clear b2
     refine hK.out _ _ (⟨cell_in T3.out, cell_in T3.out⟩) (fun hHeld => ?_)
     clear hK K
     try simp only [Act.put, qq]
     refine tq (i := 6) ?_
     try simp only [Act.put, qq]
     refine tq (i := 7) ?_
     try simp only [Act.put, qq]
     refine tq (i := 8) ?_
     try simp only [Act.put, qq]
     refine tq (i := 11) ?_
     try simp only [Act.put, qq]
     refine tq (i := 12) ?_
     try simp only [Act.put, qq]
     refine wpAnyH_take (i := 13) (v := .int .i64 ((tp + 1 : Nat) : Int)) rfl (by kernel_rfl) (by kernel_rfl) (by kernel_rfl) (fun _ _ _ h => h) (Or.inl ⟨by rfl, ?_⟩) (by assumption) ?_
     ·(intro w hSw; obtain ⟨hS1, hS2⟩ := hSw; go_simp; rw [wrap_id _ (by omega) (by omega)]; try omega)
     try simp only [Act.put, qq]
     refine oneH (i := 9) (by kernel_rfl) rfl (fun K hK => ?_)
     refine stepE (by rfl) 54 Tryz.f54 Tryz.func54 (by kernel_rfl) (by kernel_rfl) _ _ rfl _ (by first | (simp [Act.eval]; done) | (simp [Act.eval]; rfl)) _ (HA.out _ S3.out.pr) ?_
     rintro _ w3 ⟨rfl, b3⟩
     have S4 := mkHid (S3.out.bl b3)
     have T4 := mkHid ((b3.block _ (lt_of_heap T3.out)).trans T3.out)
     clear b3
     refine hK.out _ _ (⟨cell_in T4.out, cell_in T4.out⟩) (fun hHeld => ?_)
     clear hK K
     try simp only [Act.put, qq]
     refine wpAnyH_take (i := 10) (v := .int .i64 yp) rfl (by kernel_rfl) (by kernel_rfl) (by kernel_rfl) (fun _ _ _ h => h) (Or.inl ⟨by rfl, ?_⟩) (by assumption) ?_
     ·(intro w hSw; have hfd := fun W => f54_3 (.int .i64 yk) (.string (ba yt)) (.int .i64 yn) (.int .i64 yp) W; go_simp)
     try simp only [Act.put, qq]
     refine wpAnyH_take (i := 14) (v := .bool false) rfl (by kernel_rfl) (by kernel_rfl) (by kernel_rfl) (fun _ _ _ h => h) (Or.inl ⟨by rfl, ?_⟩) (by assumption) ?_
     ·(intro w hSw; have := ka; go_simp; try simpa using this)
     try simp only [Act.put, qq]
     refine tq (i := 15) ?_
     try simp only [Act.put, qq]
     refine wpAnyH_done (by kernel_rfl) ?_ _
     clear hHeld
     obtain ⟨z0, z1, z2, z3⟩ := cells4 T4.out
     go_wp2_with fail
     exact ⟨rfl, mk_bad S4.out.fr⟩
 ·have qm : ((ba tt).toList == [45]) = false := by rw [tl_lst, lst_ba, beq_eq_false_iff_ne]; exact hm
  rw [if_neg (by rintro ⟨h, _⟩; exact hm h)]
  clear hm HA HT2 HK
  rcases K with rfl | ⟨rfl, K⟩
  all_goals
   have k4 := e1.symm
   clear e1
   go_enter Tryz.func189, Tryz.ntmps189
   go_wp2_with (first
    | (go_at_call 80; refine (HT.out _ S0.out.pr).mono ?_; rintro e w1 ⟨rfl, p1, f1⟩; have S1 := mkHid ((S0.out.go f1 p1).bl (Bl.alloc w1 (.cells #[.int .i64 tk, .string (ba tt), .int .i64 tn, .int .i64 tp] 54))); have T1 := mkHid (heap_alloc_new w1 (.cells #[.int .i64 tk, .string (ba tt), .int .i64 tn, .int .i64 tp] 54)); have L1 : Hid (w.heap.size < w1.heap.size) := mkHid ((S0.out.go f1 p1).size); clear p1 f1))
   have S2 := mkHid S1.out.drew
   have T2 : Hid ((w1.alloc (.cells #[.int .i64 tk, .string (ba tt), .int .i64 tn, .int .i64 tp] 54)).drew.heap[w1.heap.size]? = some (.cells #[.int .i64 tk, .string (ba tt), .int .i64 tn, .int .i64 tp] 54 (0, 0))) := mkHid T1.out
   refine wp_region_held_drew (S := fun V => V.cell? ⟨w1.heap.size, 1, none⟩ = some (.string (ba tt)) ∧ V.cell? ⟨w1.heap.size, 3, none⟩ = some (.int .i64 tp)) (by kernel_rfl) (⟨cell_in T2.out, cell_in T2.out⟩) (fun hHeld => ?_)
   refine tq (i := 0) ?_
   try simp only [Act.put, qq]
   refine tq (i := 1) ?_
   try simp only [Act.put, qq]
   refine tq (i := 2) ?_
   try simp only [Act.put, qq]
   refine tq (i := 3) ?_
   try simp only [Act.put, qq]
   refine tu (i := 4) ?_
   try simp only [Act.put, qq]
   refine oneH (i := 5) (by kernel_rfl) rfl (fun K hK => ?_)
   rw [if_neg (by intro h; exact Bool.false_ne_true h)]
   refine hK.out _ _ (⟨cell_in T2.out, cell_in T2.out⟩) (fun hHeld => ?_)
   clear hK K
   try simp only [Act.put, qq]
   refine tq (i := 6) ?_
   try simp only [Act.put, qq]
   refine tq (i := 7) ?_
   try simp only [Act.put, qq]
   refine tu (i := 8) ?_
   try simp only [Act.put, qq]
   refine tu (i := 11) ?_
   try simp only [Act.put, qq]
   refine tu (i := 12) ?_
   try simp only [Act.put, qq]
   refine tu (i := 13) ?_
   try simp only [Act.put, qq]
   refine oneH (i := 9) (by kernel_rfl) rfl (fun K hK => ?_)
   rw [if_neg (by intro h; exact Bool.false_ne_true h)]
   refine hK.out _ _ (⟨cell_in T2.out, cell_in T2.out⟩) (fun hHeld => ?_)
   clear hK K
   try simp only [Act.put, qq]
   refine tu (i := 10) ?_
   try simp only [Act.put, qq]
   refine tu (i := 14) ?_
   try simp only [Act.put, qq]
   refine tq (i := 15) ?_
   try simp only [Act.put, qq]
   refine wpAnyH_done (by kernel_rfl) ?_ _
   clear hHeld
   obtain ⟨z0, z1, z2, z3⟩ := cells4 T2.out
   go_wp2_with fail
   exact ⟨rfl, mk_bad S2.out.fr⟩
theorem PostN.back {P g c : Nat} {ts : Ts} {w w0 w' : World} {r : Rs Nd} {e : Ending} (b : Bl w w0) (h : PostN P g c ts w0 r e w') : PostN P g c ts w r e w' := by
 refine ⟨fr_tr (bl_fr b) h.1, ?_⟩
 have h2 := h.2
 cases r with
 | bad x => exact h2
 | ok n s =>
  obtain ⟨v, ft, e1, h1, h3, h4⟩ := h2
  exact ⟨v, ft, e1, h1, h3.mono b.size, h4⟩
theorem PostN.one {P g c : Nat} {ts : Ts} {bp : Nat} {α : Type} {vl : α → Nd} {W w' : World} {F : List Nat} {acc : List α} {s : Ps} {r : Rs α} {rn : Rs Nd} {e : Ending} (hp : P ≠ bp) (i : I1 P g c ts bp W F acc s) (hr : rn = match r with | .ok a s' => .ok (vl a) s' | .bad x => .bad x) (hq : ∀ a s', r = .ok a s' → Okq ts s') (h : PostN P g c ts W rn e w') : PostO vl (I1 P g c ts bp) acc W F r e w' := by
 have hF := i.2.2.1
 subst hF
 refine ⟨h.1, ?_⟩
 subst hr
 have h2 := h.2
 cases r with
 | bad x => exact h2
 | ok a s' =>
  obtain ⟨v, ft, e1, h1, h3, h4⟩ := h2
  exact ⟨v, ft, [P], e1, h1, h3, i.go h.1 hp h4 (hq a s' rfl), fun b hb => Or.inl hb, fun b hb hm => by simp at hm; have := h3.lo b hb; have := i.1.lt; omega⟩
theorem ent (n : Nat) (fn : Func) (c : Code) (hf : Tryz.prog.funcs[n]? = some fn) (hn : (fn.name == "runtime.NumGoroutine") = false) (hb : fn.body = some c) : Enters Tryz.prog n := enters_of hf hn hb
theorem NdsM.place {w : World} : ∀ {ns : List Nd} {xs : List Value} {ft : List Nat}, NdsM w ns xs ft → ∀ i, i < ns.length → xs[i * 7 + 3]? = some (.int .i64 ((ns.map Nd.place).getD i 0 : Nat)) := by
 intro ns
 induction ns with
 | nil => intro xs ft h i hi; simp at hi
 | cons m ns ih =>
  intro xs ft h i hi
  cases h with
  | cons h1 h2 =>
   cases i with
   | zero =>
    rename_i c0 c1 c2 c3 c4 c5 c6 xs f1 f2
    generalize hv : Value.agg #[c0, c1, c2, c3, c4, c5, c6] = v at h1
    cases h1 with
    | mk g1 g2 g3 g4 =>
     injection hv with hv
     simp only [Array.mk.injEq, List.cons.injEq, and_true] at hv
     obtain ⟨rfl, rfl, rfl, rfl, rfl, rfl, rfl⟩ := hv
     rfl
   | succ i =>
    have := ih h2 i (by simpa using hi)
    rw [show (i + 1) * 7 + 3 = i * 7 + 3 + 7 by omega]
    simpa using this
theorem LN.node {α : Type} {vl : α → Nd} {I : Inv α} {w w' : World} {F F' : List Nat} {v : Value} {l : List α} {s : Ps} (h : LN vl I w F w' v l s F') : ∃ p cp xs ft, v = .slice p l.length cp ∧ RowZ w' 34 7 w.heap.size v l.length xs ∧ NdsM w' (l.map vl) xs ft ∧ Apt w.heap.size (v.ownBlock.toList ++ ft) ∧ ∀ k t n a, NdM w' (.mk k t n a [] [] (l.map vl)) (.agg #[.int .i64 k, .string (ba t), .int .i64 n, .int .i64 a, .slice none 0 0, .slice none 0 0, v]) (v.ownBlock.toList ++ ft) := by
 obtain ⟨xs, ft, h1, h2, h3, h4⟩ := h.ex
 obtain ⟨p, cp, e⟩ := own_slice h1.1
 refine ⟨p, cp, xs, ft, e, h1, h2, h3, fun k t n a => ?_⟩
 have := NdM.mk (k := k) (t := t) (n := n) (a := a) (nms := []) (pls := []) (RowM.nil w' 9 1) (RowM.nil w' 3 1) (show RowM w' 34 7 v (l.map vl).length xs _ by rw [List.length_map]; exact h1.row) h2
 simpa using this
theorem row_at {w : World} {base e sz n : Nat} {p : Option Addr} {c : Nat} {xs : List Value} (h : w.ownsRow base e sz (.slice p n c) n xs) (hn : 0 < n) : ∃ gk, p = some ⟨gk, 0, none⟩ ∧ base ≤ gk ∧ gk < w.heap.size ∧ n ≤ c ∧ ∀ j u, xs[j]? = some u → w.cell? ⟨gk, j, none⟩ = some u := by
 rcases h.2 with ⟨e1, e2⟩ | ⟨g, cap, cur, e1, q1, q2, q3, q4, q5, q6⟩
 ·omega
 ·injection e1 with e1 _ e4
  subst e1; subst e4
  refine ⟨g, rfl, q1, lt_of_heap q2, q3, fun j u hj => ?_⟩
  rw [cell_in q2, ← Array.getElem?_toList]
  rw [← q6, List.getElem?_take] at hj
  split at hj
  ·exact hj
  ·cases hj
end Go.Proofs.YtfhkhmgodkheaaaGreatDoor
namespace Go.Proofs.YtfhkhmgodkheaaaGreatDoor
open Go.RowKit
theorem step_append_run {P : Program} {ops : Array Oper} {o : Oper} {a : Act} {w : World} {K : Act → World → Prop} {Q : Exit → Act → World → Prop} {E : Prop}
  (hg : o.guard = none) (s x : Operand) (t tn : TypeId) (ho : o.op = .call { callee := .builtin .append, args := #[s, x], argTypes := #[t, tn] }) (vs vx : Value) (hs : a.eval s = vs) (hx : a.eval x = vx)
  (v' : Value) (w' : World) (hr : (Builtin.append_ #[t, tn] o.type #[vs, vx]).run P w = .ok v' w') (h : K (a.put o.dst v') w') : if Region.wanted o (yielded ops a.tmps) = true then Oper.wp P o a w K Q else E := by
 have hw : Region.wanted o (yielded ops a.tmps) = true := by simp [Region.wanted, hg]
 rw [if_pos hw]
 exact Lib.wp_append_run w s x t tn ho vs vx hs hx v' w' hr h
section
variable {P : Program} {ops : Array Oper} {Q : Exit → Act → World → Prop} {md : Region.Mode} {S : World → Prop} {L : Nat}
def wpLast (P : Program) (md : Region.Mode) (ops : Array Oper) (Q : Exit → Act → World → Prop) (S : World → Prop) (L : Nat) : Nat → Array Bool → Act → World → Prop
 | 0, listed, a, w => Region.ready md ops listed = [] ∧ Q .normal a w
 | fuel + 1, listed, a, w =>
  (Region.ready md ops listed = [] → Q .normal a w) ∧
  ∀ i ∈ Region.ready md ops listed, wpOp P ops Q i (fun a' w' => (i ≠ L → S w') ∧ wpLast P md ops Q S L fuel (listed.setIfInBounds i true) a' w') a w
theorem wpAny_of_last : ∀ (fuel : Nat) (listed : Array Bool) (a : Act) (w : World), wpLast P md ops Q S L fuel listed a w → wpAny P md ops Q fuel listed a w
 | 0, _, _, _, h => h
 | fuel + 1, _, _, _, h => ⟨h.1, fun i hi => wpOp_mono (fun a' w' h' => wpAny_of_last fuel _ a' w' h'.2) (h.2 i hi)⟩
def waitsB (md : Region.Mode) (ops : Array Oper) (L i : Nat) : Bool := match ops[L]? with | some o => o.after.any (fun e => Region.binds md e && e.on == i) | none => false
theorem wpLast_first {i : Nat} {oi : Oper} {v : Value} (hi : ops[i]? = some oi) (hsel : ∀ (j : Nat) (o : Oper) cs b, ops[j]? = some o → o.op ≠ .select cs b)
  (hQ : ∀ c a w, Q (.panic c) (a.put oi.dst v) w → Q (.panic c) a w) (hiL : i ≠ L) (hwt : waitsB md ops L i = true) :
  ∀ (fuel : Nat) (listed : Array Bool) (a : Act) (w : World),
   (∀ j oj, ops[j]? = some oj → j ≠ i → listed.getD j true = false → (∀ e ∈ oj.after, Region.binds md e = true → e.on ≠ i) → oi.apart ops oj = true) →
   i ∈ Region.ready md ops listed → YieldsIf P ops S oi v a → S w →
   wpLast P md ops Q S L fuel (listed.setIfInBounds i true) (a.put oi.dst v) w → wpLast P md ops Q S L (fuel + 1) listed a w := by
 intro fuel
 induction fuel with
 | zero =>
  intro listed a w _ hr hy hS H
  refine ⟨fun h => (by rw [h] at hr; cases hr), fun j hj => ?_⟩
  by_cases hji : j = i
  ·subst hji; exact hy.wpOp hi hS ⟨fun _ => hS, H⟩
  ·have := ready_mono hj hji
   rw [H.1] at this
   cases this
 | succ fuel ih =>
  intro listed a w hfree hr hy hS H
  refine ⟨fun h => (by rw [h] at hr; cases hr), fun j hj => ?_⟩
  by_cases hji : j = i
  ·subst hji; exact hy.wpOp hi hS ⟨fun _ => hS, H⟩
  ·have h1 := H.2 j (ready_mono hj hji)
   obtain ⟨hjun, oj, hoj, hall⟩ := mem_ready.1 hj
   have hnot : ∀ e ∈ oj.after, Region.binds md e = true → e.on ≠ i := fun e he hb heq => by
    have h1 := hall e he hb
    have h0 := (mem_ready.1 hr).1
    rw [heq] at h1
    rcases Nat.lt_or_ge i listed.size with h' | h'
    ·simp [h'] at h0 h1; rw [h0] at h1; cases h1
    ·simp [Array.getElem?_eq_none h'] at h1
   have hjL : j ≠ L := fun e => by
    subst e
    unfold waitsB at hwt
    rw [hoj] at hwt
    simp only [Array.any_eq_true, Bool.and_eq_true, beq_iff_eq] at hwt
    obtain ⟨n, hn, hb, ho⟩ := hwt
    exact hnot _ (Array.getElem_mem hn) hb ho
   have h2 := wpOp_putIf hoj (hfree j oj hoj hji hjun hnot) (fun cs b => hsel i oi cs b hi) (fun cs b => hsel j oj cs b hoj) hQ hy h1
   have hfree' : ∀ k ok, ops[k]? = some ok → k ≠ i → (listed.setIfInBounds j true).getD k true = false →
     (∀ e ∈ ok.after, Region.binds md e = true → e.on ≠ i) → oi.apart ops ok = true := fun k ok hk hki hun hno => by
    refine hfree k ok hk hki ?_ hno
    by_cases hjk : j = k
    ·subst hjk; exact hjun
    ·rw [getD_set_ne true hjk] at hun; exact hun
   refine wpOp_mono (fun a' w' h3 => ⟨h3.2.1, ih (listed.setIfInBounds j true) a' w' hfree' (ready_mono hr (Ne.symm hji)) h3.1 (h3.2.1 hjL) ?_⟩) h2
   rw [Array.setIfInBounds_comm _ _ hji]
   exact h3.2.2
theorem wpLast_take {i : Nat} {oi : Oper} {v : Value} {fuel : Nat} {listed : Array Bool} {a : Act} {w : World} (hi : ops[i]? = some oi)
  (hs : Region.noSelect ops = true) (hf : Region.free md ops listed i = true) (hr : (Region.ready md ops listed).contains i = true) (hiL : i ≠ L) (hwt : waitsB md ops L i = true)
  (hQ : ∀ c a w, Q (.panic c) (a.put oi.dst v) w → Q (.panic c) a w) (hy : YieldsIf P ops S oi v a) (hS : S w)
  (h : wpLast P md ops Q S L fuel (listed.setIfInBounds i true) (a.put oi.dst v) w) : wpLast P md ops Q S L (fuel + 1) listed a w :=
 wpLast_first hi (Region.noSelect_spec hs) hQ hiL hwt fuel listed a w (Region.free_spec hi hf) (by simpa using hr) hy hS h
theorem wpLast_one {i : Nat} {o : Oper} {fuel : Nat} {listed : Array Bool} {a : Act} {w : World} (hr : Region.ready md ops listed = [i]) (ho : ops[i]? = some o) (hiL : i ≠ L)
  (h : ∀ K' : Act → World → Prop, Shut (∀ a w, S w → (S w → wpLast P md ops Q S L fuel (listed.setIfInBounds i true) a w) → K' a w) → if Region.wanted o (yielded ops a.tmps) = true then Oper.wp P o a w K' Q else K' (a.put o.dst undef) w) : wpLast P md ops Q S L (fuel + 1) listed a w := by
 refine ⟨fun h0 => (by rw [hr] at h0; cases h0), fun j hj => ?_⟩
 rw [hr] at hj
 have e : j = i := by simpa using hj
 subst e
 exact wpOp_step ho (fun K' hK => h K' (fun a w hS hW => hK a w ⟨fun _ => hS, hW hS⟩))
theorem wpLast_end {o : Oper} {fuel : Nat} {listed : Array Bool} {a : Act} {w : World} (hr : Region.ready md ops listed = [L]) (ho : ops[L]? = some o)
  (hr2 : Region.ready md ops (listed.setIfInBounds L true) = [])
  (h : ∀ K' : Act → World → Prop, Shut (∀ a w, Q .normal a w → K' a w) → if Region.wanted o (yielded ops a.tmps) = true then Oper.wp P o a w K' Q else K' (a.put o.dst undef) w) : wpLast P md ops Q S L (fuel + 1) listed a w := by
 refine ⟨fun h0 => (by rw [hr] at h0; cases h0), fun j hj => ?_⟩
 rw [hr] at hj
 have e : j = L := by simpa using hj
 subst e
 refine wpOp_step ho (fun K' hK => h K' (fun a w hQ => hK a w ⟨fun h => absurd rfl h, ?_⟩))
 cases fuel with
 | zero => exact ⟨hr2, hQ⟩
 | succ n => exact ⟨fun _ => hQ, by rw [hr2]; simp⟩
theorem wp_region_last {id : Nat} {a : Act} {w : World} (hm : P.follows .mixedOrders = true) (hS : S w.drew)
  (h : S w.drew → wpLast P .any ops Q S L ops.size (Array.replicate ops.size false) a w.drew) : (Code.region id ops true).wp P Q a w :=
 wp_region_any hm (wpAny_of_last _ _ _ _ (h hS))
end
end Go.Proofs.YtfhkhmgodkheaaaGreatDoor
namespace Go.Proofs.YtfhkhmgodkheaaaGreatDoor
open Go.RowKit Go.Maps Go.WideMaps
theorem add_blk (a : Addr) (j : Nat) : (a.add j).block = a.block := by unfold Addr.add; (try split) <;> rfl
def SrcN (w : World) (v : Value) (m : Nat) (ys : List Value) : Prop := (m = 0 ∧ ys = [] ∧ v = .slice none 0 0) ∨ ∃ a c, v = .slice (some a) m c ∧ ys.length = m * 7 ∧ (∀ j u, ys[j]? = some u → w.cell? (a.add j) = some u)
theorem RowM.src {w : World} {v : Value} {n : Nat} {xs : List Value} {ft : List Nat} (h : RowM w 34 7 v n xs ft) : SrcN w v n xs := by
 rcases h with ⟨rfl, rfl, _, p, rfl⟩ | ⟨h0, ho, g, hg, _⟩
 ·cases p with
  | none => exact Or.inl ⟨rfl, rfl, rfl⟩
  | some a => exact Or.inr ⟨a, 0, rfl, rfl, by simp⟩
 ·obtain ⟨p, c, rfl⟩ := own_slice ho
  rcases ho.2 with ⟨e1, e2⟩ | ⟨g', cap, cur, e1, h1, h2, h3⟩
  ·omega
  ·injection e1 with e1 e2 e3
   subst e1
   exact Or.inr ⟨_, c, rfl, ho.1, ho.cells (g := g') rfl⟩
theorem appN (w : World) (base : Nat) (p : Option Addr) (c n m : Nat) (xs ys : List Value) (v : Value) (h : w.ownsRow base 34 7 (.slice p n c) n xs) (hs : SrcN w v m ys) (hx : ∀ u ∈ ys, u.oneCell' = true) (hn : n + m ≤ 1000000) (hB : base ≤ w.heap.size) :
  ∃ v' w', (Builtin.append_ #[25, 25] 25 #[.slice p n c, v]).run Tryz.prog w = .ok v' w' ∧ w'.ownsRow base 34 7 v' (n + m) (xs ++ ys) ∧ Fr (blk p) w w' := by
 obtain ⟨i, hi, hz, hsize, hby⟩ := info_parts infoN
 rcases hs with ⟨rfl, rfl, rfl⟩ | ⟨a, c2, rfl, hl, hc⟩
 ·refine ⟨_, w, run_append_owned_none (P := Tryz.prog) (w := w) base 25 25 34 i 7 Tryz.underlying25 hi _ n xs h, ?_, Fr.refl _ _⟩
  simpa using h
 ·obtain ⟨v', w', hr, h2, h3, _⟩ := run_append_own_wide (P := Tryz.prog) w base 25 25 34 i _ 7 112 Tryz.underlying25 hi hz hsize hby rfl (by decide) _ _ _ h a m c2 ys hl hc hx (by unfold maxLen; omega) (by omega) hB
  exact ⟨v', w', hr, h2, Fr.grown h3 (fun k hk => (blk_own p n c k).2 hk)⟩
theorem NdsM.oneCells {w : World} : ∀ {ns : List Nd} {xs : List Value} {ft : List Nat}, NdsM w ns xs ft → ∀ u ∈ xs, u.oneCell' = true := by
 intro ns
 induction ns with
 | nil => intro xs ft h; cases h; simp
 | cons m ns ih =>
  intro xs ft h
  cases h with
  | cons h1 h2 =>
   intro u hu
   have hk := oneCell_node h1
   simp only [List.mem_cons] at hu
   rcases hu with rfl | rfl | rfl | rfl | rfl | rfl | rfl | hu
   ·exact hk _ (by simp)
   ·exact hk _ (by simp)
   ·exact hk _ (by simp)
   ·exact hk _ (by simp)
   ·exact hk _ (by simp)
   ·exact hk _ (by simp)
   ·exact hk _ (by simp)
   ·exact ih h2 u hu
end Go.Proofs.YtfhkhmgodkheaaaGreatDoor
