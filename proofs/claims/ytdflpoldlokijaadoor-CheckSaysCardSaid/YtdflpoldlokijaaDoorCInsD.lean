import Derived.Test.YtdflpoldlokijaaDoorCFit
namespace Go.Proofs.YtdflpoldlokijaaDoor
open Go.RowKit
set_option linter.unusedVariables false
set_option linter.unusedSimpArgs false
attribute [local go_sem ↓] Go.wp_at_zero Go.wp_at_succ
section
variable {w : World} {B a : Nat} {C : Cx} {wv : Value} {sc : List Nat} {ps : Option Addr} {cs : Nat} {pls : List Pl} {pp : Option Addr} {k : Nat}
set_option maxRecDepth 100000 in
set_option maxHeartbeats 8000000 in
theorem ins_no17 (h : RR w B a C wv sc ps cs pls pp k) (at_ en : Nat) (hat : at_ < en) (hto : en ≤ C.ws.length) (hop : C.w at_ = ((17 : Nat) : Int)) (hfin : at_ + 1 + 2 ≤ en) (hf : fitP C.b C.lits sc 17 (C.w (at_ + 1)) (C.w (at_ + 2)) (C.w (at_ + 3)) = false) (hm : mayP sc 17 = true) : Calls Tryd.prog 42 #[.pointer (some ⟨a, 0, none⟩), .int .i64 at_, .int .i64 en] w fun e w' => e = .returned (.tuple #[.agg #[.int .i64 0, .int .i64 0, .int .i64 0, .int .i64 0, .int .i64 0, .int .i64 0], .int .i64 111]) ∧ Fr [] w w' := by
  have hS : shp ((17 : Nat) : Int) = ⟨1, 2, 1, 1, 0⟩ := rfl
  have HFit : Hid (∀ V xv, Fr [] w V → OpdAt V xv 2 (C.w (at_ + 1)) (C.w (at_ + 2)) (C.w (at_ + 3)) → Calls Tryd.prog 63 #[.pointer (some ⟨a, 0, none⟩), .int .i64 17, xv] V fun e w' => e = .returned (.bool false) ∧ ∃ m, w' = V.drewN m) := fun V xv hV hx => by
    have := fit_ok (h.idle hV) 17 xv (C.w (at_ + 1)) (C.w (at_ + 2)) (C.w (at_ + 3)) (by decide) (by decide) (by have e : (shp ((17 : Nat) : Int)).opd = 2 := (congrArg Sh.opd hS); rw [e]; exact hx)
    rw [hf] at this
    exact this
  have HMS : Hid (∀ V, Fr [] w V → Calls Tryd.prog 62 #[.pointer (some ⟨a, 0, none⟩), .int .i64 17] V fun e w' => e = .returned (.bool true) ∧ w' = V) := fun V hV => by rw [← hm]; exact mayStand_ok (h.idle hV) 17
  have hsh := h.short
  have hwcap := h.wcap
  obtain ⟨pw, cw, rfl, hw⟩ := h.word
  have hcw := hwcap _ _ _ rfl
  obtain ⟨gw, ow, rfl, hgB, hwc⟩ := hw (by omega)
  have ha1 : (0 : Int) ≤ (at_ : Int) := by omega
  have ha2 : (at_ : Int) < (C.ws.length : Int) := by omega
  obtain ⟨c0, -⟩ := h.cells
  have x0 := hwc at_ (by omega)
  have HH := mkHid h
  have HSH : Hid (∀ V, Fr [] w V → Calls Tryd.prog 44 #[.int .i64 17] V fun e w' => e = .returned (shv (shp ((17 : Nat) : Int))) ∧ Fr [] V w') := fun V hV => shapeOf_ok _ V (h.tb.idle hV)
  have HWC := mkHid hwc
  have hlw := lt_of_heap h.top
  have hlg : gw < w.heap.size := World.block_lt_of_cell? w _ x0
  rw [hop] at x0
  have hsl := sh_le ((17 : Nat) : Int)
  rw [hS] at hsl HSH
  clear hsl
  clear h hwc hop hS hwcap hw
  simp only [shv, I] at HSH
  have F2 : Hid (Fr [] w ((w.alloc (.cells #[.int .i64 0, .int .i64 0, .int .i64 0, .int .i64 0, .int .i64 0, .int .i64 0] 93)).alloc (.cells #[.int .i64 17, .int .i64 0, .int .i64 0, .int .i64 0, .int .i64 0, .int .i64 0] 93))) := ((Fr.refl [] w).al _).al _
  have Q1 : Hid (((w.alloc (.cells #[.int .i64 0, .int .i64 0, .int .i64 0, .int .i64 0, .int .i64 0, .int .i64 0] 93)).alloc (.cells #[.int .i64 17, .int .i64 0, .int .i64 0, .int .i64 0, .int .i64 0, .int .i64 0] 93)).heap[w.heap.size]? = some (.cells #[.int .i64 0, .int .i64 0, .int .i64 0, .int .i64 0, .int .i64 0, .int .i64 0] 93 (0, 0))) := al_old (heap_alloc_new w _) _
  have Q2 : Hid (((w.alloc (.cells #[.int .i64 0, .int .i64 0, .int .i64 0, .int .i64 0, .int .i64 0, .int .i64 0] 93)).alloc (.cells #[.int .i64 17, .int .i64 0, .int .i64 0, .int .i64 0, .int .i64 0, .int .i64 0] 93)).heap[w.heap.size + 1]? = some (.cells #[.int .i64 17, .int .i64 0, .int .i64 0, .int .i64 0, .int .i64 0, .int .i64 0] 93 (0, 0))) := by
    have := heap_alloc_new (w.alloc (.cells #[.int .i64 0, .int .i64 0, .int .i64 0, .int .i64 0, .int .i64 0, .int .i64 0] 93)) (.cells #[.int .i64 17, .int .i64 0, .int .i64 0, .int .i64 0, .int .i64 0, .int .i64 0] 93)
    rwa [show (w.alloc (.cells #[.int .i64 0, .int .i64 0, .int .i64 0, .int .i64 0, .int .i64 0, .int .i64 0] 93)).heap.size = w.heap.size + 1 by simp] at this
  have hod : at_ + 1 + 2 ≤ 4100 := by omega
  have d1 : ¬ (en : Int) < (at_ : Int) + 1 + 2 := by omega
  have d2 : decide ((en : Int) < (at_ : Int) + 1 + 2) = false := decide_eq_false d1
  have hod2 : (at_ : Int) + 1 + 2 ≤ (C.ws.length : Int) := by omega
  have hcwi : (C.ws.length : Int) ≤ (cw : Int) := by omega
  clear hm
  go_enter Tryd.func42, Tryd.ntmps42
  go_wp2_with (first
    | (go_at_call 44; refine (HSH.out _ F2.out).mono ?_; rintro e w1 ⟨rfl, f1⟩
       have q1 := f1.hb Q1.out
       have q2 := f1.hb Q2.out
       have y0 : w1.cell? ⟨w.heap.size + 1, 0, none⟩ = some (.int .i64 17) := by rw [cell_in q2]; rfl
       have y3 : w1.cell? ⟨w.heap.size + 1, 3, none⟩ = some (.int .i64 0) := by rw [cell_in q2]; rfl
       have z3 := frozen_in q2 3
       have L1 := lt_of_heap q1
       have L2 := lt_of_heap q2
       have G1 := mkHid q1
       have G2 := mkHid q2
       have F1 := mkHid (F2.out.tr0 f1)
       clear f1 q1 q2)
    | (go_at_call 62; refine (HMS.out _ (by first | exact (F1.out.st (by omega) _ _).al _ | exact F1.out.al _)).mono ?_; rintro e w2 ⟨rfl, hw2⟩; rw [hw2]; clear hw2 w2))
  obtain ⟨V, hV⟩ : ∃ V, (w1.setCell ⟨w.heap.size + 1, 3, none⟩ (.int .i64 ((at_ : Int) + 1 + 2))).alloc (.cells #[.int .i64 1, .int .i64 2, .int .i64 1, .int .i64 1, .int .i64 0] 99) = V := ⟨_, rfl⟩
  rw [hV]
  have FV : Hid (Fr [] w V) := by rw [← hV]; exact (F1.out.st (by omega) _ _).al _
  have GV1 : Hid (V.heap[w.heap.size]? = some (.cells #[.int .i64 0, .int .i64 0, .int .i64 0, .int .i64 0, .int .i64 0, .int .i64 0] 93 (0, 0))) := by rw [← hV]; exact al_old (set_other G1.out (by omega) _ _) _
  have GV2 : Hid (V.heap[w.heap.size + 1]? = some (.cells #[.int .i64 17, .int .i64 0, .int .i64 0, .int .i64 ((at_ : Int) + 1 + 2), .int .i64 0, .int .i64 0] 93 (0, 0))) := by rw [← hV]; exact al_old ((set_in G2.out 3 _).trans rfl) _
  have u0 : V.cell? ⟨w.heap.size + 1, 0, none⟩ = some (.int .i64 17) := by rw [cell_in GV2.out]; rfl
  have u1 : V.cell? ⟨w.heap.size + 1, 1, none⟩ = some (.int .i64 0) := by rw [cell_in GV2.out]; rfl
  have u2 : V.cell? ⟨w.heap.size + 1, 2, none⟩ = some (.int .i64 0) := by rw [cell_in GV2.out]; rfl
  have u3 : V.cell? ⟨w.heap.size + 1, 3, none⟩ = some (.int .i64 ((at_ : Int) + 1 + 2)) := by rw [cell_in GV2.out]; rfl
  have u4 : V.cell? ⟨w.heap.size + 1, 4, none⟩ = some (.int .i64 0) := by rw [cell_in GV2.out]; rfl
  have u5 : V.cell? ⟨w.heap.size + 1, 5, none⟩ = some (.int .i64 0) := by rw [cell_in GV2.out]; rfl
  have v2 := frozen_in GV2.out 2
  have v4 := frozen_in GV2.out 4
  have c0 := FV.out.cl c0
  have LV1 := lt_of_heap GV1.out
  have LV2 := lt_of_heap GV2.out
  clear hV y0 y3 z3 L1 L2 G1 G2 F1 F2 Q1 Q2 HSH HMS x0
  go_quiet (fail)
  rw [show at_ + 1 + 2 - (at_ + 1) = 2 by omega]
  have HOp : Hid (∀ U, Fr [] w U → OpdAt U (Value.slice (some ⟨gw, ow + (at_ + 1), none⟩) 2 (cw - (at_ + 1))) 2 (C.w (at_ + 1)) (C.w (at_ + 2)) (C.w (at_ + 3))) := fun U hU h1 =>
    ⟨gw, ow + (at_ + 1), cw - (at_ + 1), rfl, hU.cl (HWC.out (at_ + 1) (by omega)), fun h2 => hU.cl (HWC.out (at_ + 2) (by omega)), fun h3 => by omega⟩
  have xo := FV.out.cl (HWC.out (at_ + 2) (by omega))
  rw [show ow + (at_ + 2) = ow + (at_ + 1) + 1 by omega] at xo
  have lgv := World.block_lt_of_cell? V _ xo
  have lgv : gw < V.heap.size := lgv
  have gne : gw ≠ w.heap.size + 1 := by omega
  obtain ⟨aa, haa⟩ : ∃ aa, C.w (at_ + 2) = aa := ⟨_, rfl⟩
  rw [haa] at xo HFit HOp
  have HA := mkHid haa
  clear haa
  have FU : Hid (Fr [] w (((V.drewN nq).setCell ⟨w.heap.size + 1, 4, none⟩ (.int .i64 ((at_ : Int) + 1 + 2))).setCell ⟨w.heap.size + 1, 2, none⟩ (.int .i64 aa))) := Fr.st (Fr.st (FV.out.dn nq) (by omega) 4 _) (by omega) 2 _
  have GU1 : Hid ((((V.drewN nq).setCell ⟨w.heap.size + 1, 4, none⟩ (.int .i64 ((at_ : Int) + 1 + 2))).setCell ⟨w.heap.size + 1, 2, none⟩ (.int .i64 aa)).heap[w.heap.size]? = some (.cells #[.int .i64 0, .int .i64 0, .int .i64 0, .int .i64 0, .int .i64 0, .int .i64 0] 93 (0, 0))) := set_other (set_other (w := V.drewN nq) GV1.out (by omega) _ _) (by omega) _ _
  go_wp2_with (go_at_call 63; fail)
  obtain ⟨U, hU⟩ : ∃ U, ((V.drewN nq).setCell ⟨w.heap.size + 1, 4, none⟩ (.int .i64 ((at_ : Int) + 1 + 2))).setCell ⟨w.heap.size + 1, 2, none⟩ (.int .i64 aa) = U := ⟨_, rfl⟩
  have GU2 : Hid (U.heap[w.heap.size + 1]? = some (.cells #[.int .i64 17, .int .i64 0, .int .i64 aa, .int .i64 ((at_ : Int) + 1 + 2), .int .i64 ((at_ : Int) + 1 + 2), .int .i64 0] 93 (0, 0))) := by rw [← hU]; exact (set_in ((set_in (w := V.drewN nq) GV2.out 4 _).trans rfl) 2 _).trans rfl
  rw [hU] at FU GU1 ⊢
  have u0 : U.cell? ⟨w.heap.size + 1, 0, none⟩ = some (.int .i64 17) := by rw [cell_in GU2.out]; rfl
  have u1 : U.cell? ⟨w.heap.size + 1, 1, none⟩ = some (.int .i64 0) := by rw [cell_in GU2.out]; rfl
  have u2 : U.cell? ⟨w.heap.size + 1, 2, none⟩ = some (.int .i64 aa) := by rw [cell_in GU2.out]; rfl
  have u3 : U.cell? ⟨w.heap.size + 1, 3, none⟩ = some (.int .i64 ((at_ : Int) + 1 + 2)) := by rw [cell_in GU2.out]; rfl
  have u4 : U.cell? ⟨w.heap.size + 1, 4, none⟩ = some (.int .i64 ((at_ : Int) + 1 + 2)) := by rw [cell_in GU2.out]; rfl
  have u5 : U.cell? ⟨w.heap.size + 1, 5, none⟩ = some (.int .i64 0) := by rw [cell_in GU2.out]; rfl
  clear hU v2 v4 FV GV1 GV2
  refine (HFit.out _ _ FU.out (HOp.out _ FU.out)).mono ?_
  rintro e w2 ⟨rfl, m, rfl⟩
  go_wp2_with (refine wpList_store_row rfl 93 _ _ rfl w.heap.size #[.int .i64 0, .int .i64 0, .int .i64 0, .int .i64 0, .int .i64 0, .int .i64 0] rfl rfl 93 #[.int .i64 0, .int .i64 0, .int .i64 0, .int .i64 0, .int .i64 0, .int .i64 0] GU1.out (by kernel_rfl) rfl (by kernel_rfl) ?_)
  refine ret93 Tryd.results42 (B := w.heap.size) (setRow_heap _ _ #[.int .i64 0, .int .i64 0, .int .i64 0, .int .i64 0, .int .i64 0, .int .i64 0] _ 93 (0, 0) GU1.out) rfl rfl ⟨by first | rfl | (rw [HA.out]; rfl), (FU.out.dn _).sr (by omega) _⟩
set_option maxRecDepth 100000 in
set_option maxHeartbeats 8000000 in
theorem ins_yes17 (h : RR w B a C wv sc ps cs pls pp k) (at_ en : Nat) (hat : at_ < en) (hto : en ≤ C.ws.length) (hop : C.w at_ = ((17 : Nat) : Int)) (hfin : at_ + 1 + 2 ≤ en) (hf : fitP C.b C.lits sc 17 (C.w (at_ + 1)) (C.w (at_ + 2)) (C.w (at_ + 3)) = true) (hm : mayP sc 17 = true) : Calls Tryd.prog 42 #[.pointer (some ⟨a, 0, none⟩), .int .i64 at_, .int .i64 en] w fun e w' => e = .returned (.tuple #[.agg #[.int .i64 17, .int .i64 0, .int .i64 (C.w (at_ + 2)), .int .i64 ((at_ : Int) + 1 + 2), .int .i64 ((at_ : Int) + 1 + 2), .int .i64 0], .int .i64 0]) ∧ Fr [] w w' := by
  have hS : shp ((17 : Nat) : Int) = ⟨1, 2, 1, 1, 0⟩ := rfl
  have HFit : Hid (∀ V xv, Fr [] w V → OpdAt V xv 2 (C.w (at_ + 1)) (C.w (at_ + 2)) (C.w (at_ + 3)) → Calls Tryd.prog 63 #[.pointer (some ⟨a, 0, none⟩), .int .i64 17, xv] V fun e w' => e = .returned (.bool true) ∧ ∃ m, w' = V.drewN m) := fun V xv hV hx => by
    have := fit_ok (h.idle hV) 17 xv (C.w (at_ + 1)) (C.w (at_ + 2)) (C.w (at_ + 3)) (by decide) (by decide) (by have e : (shp ((17 : Nat) : Int)).opd = 2 := (congrArg Sh.opd hS); rw [e]; exact hx)
    rw [hf] at this
    exact this
  have HMS : Hid (∀ V, Fr [] w V → Calls Tryd.prog 62 #[.pointer (some ⟨a, 0, none⟩), .int .i64 17] V fun e w' => e = .returned (.bool true) ∧ w' = V) := fun V hV => by rw [← hm]; exact mayStand_ok (h.idle hV) 17
  have hsh := h.short
  have hwcap := h.wcap
  obtain ⟨pw, cw, rfl, hw⟩ := h.word
  have hcw := hwcap _ _ _ rfl
  obtain ⟨gw, ow, rfl, hgB, hwc⟩ := hw (by omega)
  have ha1 : (0 : Int) ≤ (at_ : Int) := by omega
  have ha2 : (at_ : Int) < (C.ws.length : Int) := by omega
  obtain ⟨c0, -⟩ := h.cells
  have x0 := hwc at_ (by omega)
  have HH := mkHid h
  have HSH : Hid (∀ V, Fr [] w V → Calls Tryd.prog 44 #[.int .i64 17] V fun e w' => e = .returned (shv (shp ((17 : Nat) : Int))) ∧ Fr [] V w') := fun V hV => shapeOf_ok _ V (h.tb.idle hV)
  have HWC := mkHid hwc
  have hlw := lt_of_heap h.top
  have hlg : gw < w.heap.size := World.block_lt_of_cell? w _ x0
  rw [hop] at x0
  have hsl := sh_le ((17 : Nat) : Int)
  rw [hS] at hsl HSH
  clear hsl
  clear h hwc hop hS hwcap hw
  simp only [shv, I] at HSH
  have F2 : Hid (Fr [] w ((w.alloc (.cells #[.int .i64 0, .int .i64 0, .int .i64 0, .int .i64 0, .int .i64 0, .int .i64 0] 93)).alloc (.cells #[.int .i64 17, .int .i64 0, .int .i64 0, .int .i64 0, .int .i64 0, .int .i64 0] 93))) := ((Fr.refl [] w).al _).al _
  have Q1 : Hid (((w.alloc (.cells #[.int .i64 0, .int .i64 0, .int .i64 0, .int .i64 0, .int .i64 0, .int .i64 0] 93)).alloc (.cells #[.int .i64 17, .int .i64 0, .int .i64 0, .int .i64 0, .int .i64 0, .int .i64 0] 93)).heap[w.heap.size]? = some (.cells #[.int .i64 0, .int .i64 0, .int .i64 0, .int .i64 0, .int .i64 0, .int .i64 0] 93 (0, 0))) := al_old (heap_alloc_new w _) _
  have Q2 : Hid (((w.alloc (.cells #[.int .i64 0, .int .i64 0, .int .i64 0, .int .i64 0, .int .i64 0, .int .i64 0] 93)).alloc (.cells #[.int .i64 17, .int .i64 0, .int .i64 0, .int .i64 0, .int .i64 0, .int .i64 0] 93)).heap[w.heap.size + 1]? = some (.cells #[.int .i64 17, .int .i64 0, .int .i64 0, .int .i64 0, .int .i64 0, .int .i64 0] 93 (0, 0))) := by
    have := heap_alloc_new (w.alloc (.cells #[.int .i64 0, .int .i64 0, .int .i64 0, .int .i64 0, .int .i64 0, .int .i64 0] 93)) (.cells #[.int .i64 17, .int .i64 0, .int .i64 0, .int .i64 0, .int .i64 0, .int .i64 0] 93)
    rwa [show (w.alloc (.cells #[.int .i64 0, .int .i64 0, .int .i64 0, .int .i64 0, .int .i64 0, .int .i64 0] 93)).heap.size = w.heap.size + 1 by simp] at this
  have hod : at_ + 1 + 2 ≤ 4100 := by omega
  have d1 : ¬ (en : Int) < (at_ : Int) + 1 + 2 := by omega
  have d2 : decide ((en : Int) < (at_ : Int) + 1 + 2) = false := decide_eq_false d1
  have hod2 : (at_ : Int) + 1 + 2 ≤ (C.ws.length : Int) := by omega
  have hcwi : (C.ws.length : Int) ≤ (cw : Int) := by omega
  clear hm
  go_enter Tryd.func42, Tryd.ntmps42
  go_wp2_with (first
    | (go_at_call 44; refine (HSH.out _ F2.out).mono ?_; rintro e w1 ⟨rfl, f1⟩
       have q1 := f1.hb Q1.out
       have q2 := f1.hb Q2.out
       have y0 : w1.cell? ⟨w.heap.size + 1, 0, none⟩ = some (.int .i64 17) := by rw [cell_in q2]; rfl
       have y3 : w1.cell? ⟨w.heap.size + 1, 3, none⟩ = some (.int .i64 0) := by rw [cell_in q2]; rfl
       have z3 := frozen_in q2 3
       have L1 := lt_of_heap q1
       have L2 := lt_of_heap q2
       have G1 := mkHid q1
       have G2 := mkHid q2
       have F1 := mkHid (F2.out.tr0 f1)
       clear f1 q1 q2)
    | (go_at_call 62; refine (HMS.out _ (by first | exact (F1.out.st (by omega) _ _).al _ | exact F1.out.al _)).mono ?_; rintro e w2 ⟨rfl, hw2⟩; rw [hw2]; clear hw2 w2))
  obtain ⟨V, hV⟩ : ∃ V, (w1.setCell ⟨w.heap.size + 1, 3, none⟩ (.int .i64 ((at_ : Int) + 1 + 2))).alloc (.cells #[.int .i64 1, .int .i64 2, .int .i64 1, .int .i64 1, .int .i64 0] 99) = V := ⟨_, rfl⟩
  rw [hV]
  have FV : Hid (Fr [] w V) := by rw [← hV]; exact (F1.out.st (by omega) _ _).al _
  have GV1 : Hid (V.heap[w.heap.size]? = some (.cells #[.int .i64 0, .int .i64 0, .int .i64 0, .int .i64 0, .int .i64 0, .int .i64 0] 93 (0, 0))) := by rw [← hV]; exact al_old (set_other G1.out (by omega) _ _) _
  have GV2 : Hid (V.heap[w.heap.size + 1]? = some (.cells #[.int .i64 17, .int .i64 0, .int .i64 0, .int .i64 ((at_ : Int) + 1 + 2), .int .i64 0, .int .i64 0] 93 (0, 0))) := by rw [← hV]; exact al_old ((set_in G2.out 3 _).trans rfl) _
  have u0 : V.cell? ⟨w.heap.size + 1, 0, none⟩ = some (.int .i64 17) := by rw [cell_in GV2.out]; rfl
  have u1 : V.cell? ⟨w.heap.size + 1, 1, none⟩ = some (.int .i64 0) := by rw [cell_in GV2.out]; rfl
  have u2 : V.cell? ⟨w.heap.size + 1, 2, none⟩ = some (.int .i64 0) := by rw [cell_in GV2.out]; rfl
  have u3 : V.cell? ⟨w.heap.size + 1, 3, none⟩ = some (.int .i64 ((at_ : Int) + 1 + 2)) := by rw [cell_in GV2.out]; rfl
  have u4 : V.cell? ⟨w.heap.size + 1, 4, none⟩ = some (.int .i64 0) := by rw [cell_in GV2.out]; rfl
  have u5 : V.cell? ⟨w.heap.size + 1, 5, none⟩ = some (.int .i64 0) := by rw [cell_in GV2.out]; rfl
  have v2 := frozen_in GV2.out 2
  have v4 := frozen_in GV2.out 4
  have c0 := FV.out.cl c0
  have LV1 := lt_of_heap GV1.out
  have LV2 := lt_of_heap GV2.out
  clear hV y0 y3 z3 L1 L2 G1 G2 F1 F2 Q1 Q2 HSH HMS x0
  go_quiet (fail)
  rw [show at_ + 1 + 2 - (at_ + 1) = 2 by omega]
  have HOp : Hid (∀ U, Fr [] w U → OpdAt U (Value.slice (some ⟨gw, ow + (at_ + 1), none⟩) 2 (cw - (at_ + 1))) 2 (C.w (at_ + 1)) (C.w (at_ + 2)) (C.w (at_ + 3))) := fun U hU h1 =>
    ⟨gw, ow + (at_ + 1), cw - (at_ + 1), rfl, hU.cl (HWC.out (at_ + 1) (by omega)), fun h2 => hU.cl (HWC.out (at_ + 2) (by omega)), fun h3 => by omega⟩
  have xo := FV.out.cl (HWC.out (at_ + 2) (by omega))
  rw [show ow + (at_ + 2) = ow + (at_ + 1) + 1 by omega] at xo
  have lgv := World.block_lt_of_cell? V _ xo
  have lgv : gw < V.heap.size := lgv
  have gne : gw ≠ w.heap.size + 1 := by omega
  obtain ⟨aa, haa⟩ : ∃ aa, C.w (at_ + 2) = aa := ⟨_, rfl⟩
  rw [haa] at xo HFit HOp
  have HA := mkHid haa
  clear haa
  have FU : Hid (Fr [] w (((V.drewN nq).setCell ⟨w.heap.size + 1, 4, none⟩ (.int .i64 ((at_ : Int) + 1 + 2))).setCell ⟨w.heap.size + 1, 2, none⟩ (.int .i64 aa))) := Fr.st (Fr.st (FV.out.dn nq) (by omega) 4 _) (by omega) 2 _
  have GU1 : Hid ((((V.drewN nq).setCell ⟨w.heap.size + 1, 4, none⟩ (.int .i64 ((at_ : Int) + 1 + 2))).setCell ⟨w.heap.size + 1, 2, none⟩ (.int .i64 aa)).heap[w.heap.size]? = some (.cells #[.int .i64 0, .int .i64 0, .int .i64 0, .int .i64 0, .int .i64 0, .int .i64 0] 93 (0, 0))) := set_other (set_other (w := V.drewN nq) GV1.out (by omega) _ _) (by omega) _ _
  go_wp2_with (go_at_call 63; fail)
  obtain ⟨U, hU⟩ : ∃ U, ((V.drewN nq).setCell ⟨w.heap.size + 1, 4, none⟩ (.int .i64 ((at_ : Int) + 1 + 2))).setCell ⟨w.heap.size + 1, 2, none⟩ (.int .i64 aa) = U := ⟨_, rfl⟩
  have GU2 : Hid (U.heap[w.heap.size + 1]? = some (.cells #[.int .i64 17, .int .i64 0, .int .i64 aa, .int .i64 ((at_ : Int) + 1 + 2), .int .i64 ((at_ : Int) + 1 + 2), .int .i64 0] 93 (0, 0))) := by rw [← hU]; exact (set_in ((set_in (w := V.drewN nq) GV2.out 4 _).trans rfl) 2 _).trans rfl
  rw [hU] at FU GU1 ⊢
  have u0 : U.cell? ⟨w.heap.size + 1, 0, none⟩ = some (.int .i64 17) := by rw [cell_in GU2.out]; rfl
  have u1 : U.cell? ⟨w.heap.size + 1, 1, none⟩ = some (.int .i64 0) := by rw [cell_in GU2.out]; rfl
  have u2 : U.cell? ⟨w.heap.size + 1, 2, none⟩ = some (.int .i64 aa) := by rw [cell_in GU2.out]; rfl
  have u3 : U.cell? ⟨w.heap.size + 1, 3, none⟩ = some (.int .i64 ((at_ : Int) + 1 + 2)) := by rw [cell_in GU2.out]; rfl
  have u4 : U.cell? ⟨w.heap.size + 1, 4, none⟩ = some (.int .i64 ((at_ : Int) + 1 + 2)) := by rw [cell_in GU2.out]; rfl
  have u5 : U.cell? ⟨w.heap.size + 1, 5, none⟩ = some (.int .i64 0) := by rw [cell_in GU2.out]; rfl
  clear hU v2 v4 FV GV1 GV2
  refine (HFit.out _ _ FU.out (HOp.out _ FU.out)).mono ?_
  rintro e w2 ⟨rfl, m, rfl⟩
  go_wp2_with (refine wpList_store_row rfl 93 _ _ rfl w.heap.size #[.int .i64 17, .int .i64 0, .int .i64 aa, .int .i64 ((at_ : Int) + 1 + 2), .int .i64 ((at_ : Int) + 1 + 2), .int .i64 0] rfl rfl 93 #[.int .i64 0, .int .i64 0, .int .i64 0, .int .i64 0, .int .i64 0, .int .i64 0] GU1.out (by kernel_rfl) rfl (by kernel_rfl) ?_)
  refine ret93 Tryd.results42 (B := w.heap.size) (setRow_heap _ _ #[.int .i64 0, .int .i64 0, .int .i64 0, .int .i64 0, .int .i64 0, .int .i64 0] _ 93 (0, 0) GU1.out) rfl rfl ⟨by first | rfl | (rw [HA.out]; rfl), (FU.out.dn _).sr (by omega) _⟩
end
end Go.Proofs.YtdflpoldlokijaaDoor
