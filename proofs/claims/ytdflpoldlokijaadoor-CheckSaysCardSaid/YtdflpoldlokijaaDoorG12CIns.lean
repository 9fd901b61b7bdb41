import Derived.Test.YtdflpoldlokijaaDoorCFit
import Derived.Test.YtdflpoldlokijaaDoorCInsA
import Derived.Test.YtdflpoldlokijaaDoorCInsA2
import Derived.Test.YtdflpoldlokijaaDoorCInsB
import Derived.Test.YtdflpoldlokijaaDoorCInsC
import Derived.Test.YtdflpoldlokijaaDoorCInsD
import Derived.Test.YtdflpoldlokijaaDoorCInsE
import Derived.Test.YtdflpoldlokijaaDoorCInsF
namespace Go.Proofs.YtdflpoldlokijaaDoor
open Go.RowKit
set_option linter.unusedVariables false
set_option linter.unusedSimpArgs false
attribute [local go_sem ↓] Go.wp_at_zero Go.wp_at_succ
section
variable {w : World} {B a : Nat} {C : Cx} {wv : Value} {sc : List Nat} {ps : Option Addr} {cs : Nat} {pls : List Pl} {pp : Option Addr} {k : Nat}
set_option maxRecDepth 100000 in
set_option maxHeartbeats 8000000 in
theorem ins_no19 (h : RR w B a C wv sc ps cs pls pp k) (at_ en : Nat) (hat : at_ < en) (hto : en ≤ C.ws.length) (hop : C.w at_ = ((19 : Nat) : Int)) (hfin : at_ + 1 + 3 ≤ en) (hz : ¬ (en : Int) - ((at_ : Int) + 1 + 3) < C.w (at_ + 3)) (hz0 : -9223372036854775808 ≤ C.w (at_ + 3)) (hf : fitP C.b C.lits sc 19 (C.w (at_ + 1)) (C.w (at_ + 2)) (C.w (at_ + 3)) = false) (hm : mayP sc 19 = true) : Calls Tryd.prog 42 #[.pointer (some ⟨a, 0, none⟩), .int .i64 at_, .int .i64 en] w fun e w' => e = .returned (.tuple #[.agg #[.int .i64 0, .int .i64 0, .int .i64 0, .int .i64 0, .int .i64 0, .int .i64 0], .int .i64 111]) ∧ Fr [] w w' := by
  have hS : shp ((19 : Nat) : Int) = ⟨2, 3, 0, 1, 0⟩ := rfl
  have HFit : Hid (∀ V xv, Fr [] w V → OpdAt V xv 3 (C.w (at_ + 1)) (C.w (at_ + 2)) (C.w (at_ + 3)) → Calls Tryd.prog 63 #[.pointer (some ⟨a, 0, none⟩), .int .i64 19, xv] V fun e w' => e = .returned (.bool false) ∧ ∃ m, w' = V.drewN m) := fun V xv hV hx => by
    have := fit_ok (h.idle hV) 19 xv (C.w (at_ + 1)) (C.w (at_ + 2)) (C.w (at_ + 3)) (by decide) (by decide) (by have e : (shp ((19 : Nat) : Int)).opd = 3 := (congrArg Sh.opd hS); rw [e]; exact hx)
    rw [hf] at this
    exact this
  have HMS : Hid (∀ V, Fr [] w V → Calls Tryd.prog 62 #[.pointer (some ⟨a, 0, none⟩), .int .i64 19] V fun e w' => e = .returned (.bool true) ∧ w' = V) := fun V hV => by rw [← hm]; exact mayStand_ok (h.idle hV) 19
  have hsh := h.short
  have hwcap := h.wcap
  obtain ⟨pw, cw, rfl, hw⟩ := h.word
  have hcw := hwcap _ _ _ rfl
  obtain ⟨gw, ow, rfl, hgB, hwc⟩ := hw (by omega)
  have ha1 : (0 : Int) ≤ (at_ : Int) := by omega
  have ha2 : (at_ : Int) < (C.ws.length : Int) := by omega
  obtain ⟨c0, -⟩ := h.cells
  have x0 := hwc at_ (by omega)
  have HH := mkHid h
  have HSH : Hid (∀ V, Fr [] w V → Calls Tryd.prog 44 #[.int .i64 19] V fun e w' => e = .returned (shv (shp ((19 : Nat) : Int))) ∧ Fr [] V w') := fun V hV => shapeOf_ok _ V (h.tb.idle hV)
  have HWC := mkHid hwc
  have hlw := lt_of_heap h.top
  have hlg : gw < w.heap.size := World.block_lt_of_cell? w _ x0
  rw [hop] at x0
  have hsl := sh_le ((19 : Nat) : Int)
  rw [hS] at hsl HSH
  clear hsl
  clear h hwc hop hS hwcap hw
  simp only [shv, I] at HSH
  have F2 : Hid (Fr [] w ((w.alloc (.cells #[.int .i64 0, .int .i64 0, .int .i64 0, .int .i64 0, .int .i64 0, .int .i64 0] 93)).alloc (.cells #[.int .i64 19, .int .i64 0, .int .i64 0, .int .i64 0, .int .i64 0, .int .i64 0] 93))) := ((Fr.refl [] w).al _).al _
  have Q1 : Hid (((w.alloc (.cells #[.int .i64 0, .int .i64 0, .int .i64 0, .int .i64 0, .int .i64 0, .int .i64 0] 93)).alloc (.cells #[.int .i64 19, .int .i64 0, .int .i64 0, .int .i64 0, .int .i64 0, .int .i64 0] 93)).heap[w.heap.size]? = some (.cells #[.int .i64 0, .int .i64 0, .int .i64 0, .int .i64 0, .int .i64 0, .int .i64 0] 93 (0, 0))) := al_old (heap_alloc_new w _) _
  have Q2 : Hid (((w.alloc (.cells #[.int .i64 0, .int .i64 0, .int .i64 0, .int .i64 0, .int .i64 0, .int .i64 0] 93)).alloc (.cells #[.int .i64 19, .int .i64 0, .int .i64 0, .int .i64 0, .int .i64 0, .int .i64 0] 93)).heap[w.heap.size + 1]? = some (.cells #[.int .i64 19, .int .i64 0, .int .i64 0, .int .i64 0, .int .i64 0, .int .i64 0] 93 (0, 0))) := by
    have := heap_alloc_new (w.alloc (.cells #[.int .i64 0, .int .i64 0, .int .i64 0, .int .i64 0, .int .i64 0, .int .i64 0] 93)) (.cells #[.int .i64 19, .int .i64 0, .int .i64 0, .int .i64 0, .int .i64 0, .int .i64 0] 93)
    rwa [show (w.alloc (.cells #[.int .i64 0, .int .i64 0, .int .i64 0, .int .i64 0, .int .i64 0, .int .i64 0] 93)).heap.size = w.heap.size + 1 by simp] at this
  have hod : at_ + 1 + 3 ≤ 4100 := by omega
  have d1 : ¬ (en : Int) < (at_ : Int) + 1 + 3 := by omega
  have d2 : decide ((en : Int) < (at_ : Int) + 1 + 3) = false := decide_eq_false d1
  have hod2 : (at_ : Int) + 1 + 3 ≤ (C.ws.length : Int) := by omega
  have hcwi : (C.ws.length : Int) ≤ (cw : Int) := by omega
  clear hm
  go_enter Tryd.func42, Tryd.ntmps42
  go_wp2_with (first
    | (go_at_call 44; refine (HSH.out _ F2.out).mono ?_; rintro e w1 ⟨rfl, f1⟩
       have q1 := f1.hb Q1.out
       have q2 := f1.hb Q2.out
       have y0 : w1.cell? ⟨w.heap.size + 1, 0, none⟩ = some (.int .i64 19) := by rw [cell_in q2]; rfl
       have y3 : w1.cell? ⟨w.heap.size + 1, 3, none⟩ = some (.int .i64 0) := by rw [cell_in q2]; rfl
       have z3 := frozen_in q2 3
       have L1 := lt_of_heap q1
       have L2 := lt_of_heap q2
       have G1 := mkHid q1
       have G2 := mkHid q2
       have F1 := mkHid (F2.out.tr0 f1)
       clear f1 q1 q2)
    | (go_at_call 62; refine (HMS.out _ (by first | exact (F1.out.st (by omega) _ _).al _ | exact F1.out.al _)).mono ?_; rintro e w2 ⟨rfl, hw2⟩; rw [hw2]; clear hw2 w2))
  obtain ⟨V, hV⟩ : ∃ V, (w1.setCell ⟨w.heap.size + 1, 3, none⟩ (.int .i64 ((at_ : Int) + 1 + 3))).alloc (.cells #[.int .i64 2, .int .i64 3, .int .i64 0, .int .i64 1, .int .i64 0] 99) = V := ⟨_, rfl⟩
  rw [hV]
  have FV : Hid (Fr [] w V) := by rw [← hV]; exact (F1.out.st (by omega) _ _).al _
  have GV1 : Hid (V.heap[w.heap.size]? = some (.cells #[.int .i64 0, .int .i64 0, .int .i64 0, .int .i64 0, .int .i64 0, .int .i64 0] 93 (0, 0))) := by rw [← hV]; exact al_old (set_other G1.out (by omega) _ _) _
  have GV2 : Hid (V.heap[w.heap.size + 1]? = some (.cells #[.int .i64 19, .int .i64 0, .int .i64 0, .int .i64 ((at_ : Int) + 1 + 3), .int .i64 0, .int .i64 0] 93 (0, 0))) := by rw [← hV]; exact al_old ((set_in G2.out 3 _).trans rfl) _
  have u0 : V.cell? ⟨w.heap.size + 1, 0, none⟩ = some (.int .i64 19) := by rw [cell_in GV2.out]; rfl
  have u1 : V.cell? ⟨w.heap.size + 1, 1, none⟩ = some (.int .i64 0) := by rw [cell_in GV2.out]; rfl
  have u2 : V.cell? ⟨w.heap.size + 1, 2, none⟩ = some (.int .i64 0) := by rw [cell_in GV2.out]; rfl
  have u3 : V.cell? ⟨w.heap.size + 1, 3, none⟩ = some (.int .i64 ((at_ : Int) + 1 + 3)) := by rw [cell_in GV2.out]; rfl
  have u4 : V.cell? ⟨w.heap.size + 1, 4, none⟩ = some (.int .i64 0) := by rw [cell_in GV2.out]; rfl
  have u5 : V.cell? ⟨w.heap.size + 1, 5, none⟩ = some (.int .i64 0) := by rw [cell_in GV2.out]; rfl
  have v2 := frozen_in GV2.out 2
  have v4 := frozen_in GV2.out 4
  have c0 := FV.out.cl c0
  have LV1 := lt_of_heap GV1.out
  have LV2 := lt_of_heap GV2.out
  clear hV y0 y3 z3 L1 L2 G1 G2 F1 F2 Q1 Q2 HSH HMS x0
  go_quiet (fail)
  rw [show at_ + 1 + 3 - (at_ + 1) = 3 by omega]
  have HOp : Hid (∀ U, Fr [] w U → OpdAt U (Value.slice (some ⟨gw, ow + (at_ + 1), none⟩) 3 (cw - (at_ + 1))) 3 (C.w (at_ + 1)) (C.w (at_ + 2)) (C.w (at_ + 3))) := fun U hU h1 =>
    ⟨gw, ow + (at_ + 1), cw - (at_ + 1), rfl, hU.cl (HWC.out (at_ + 1) (by omega)), fun h2 => hU.cl (HWC.out (at_ + 2) (by omega)), fun h3 => hU.cl (HWC.out (at_ + 3) (by omega))⟩
  have xo := FV.out.cl (HWC.out (at_ + 3) (by omega))
  rw [show ow + (at_ + 3) = ow + (at_ + 1) + 2 by omega] at xo
  have lgv := World.block_lt_of_cell? V _ xo
  have lgv : gw < V.heap.size := lgv
  have gne : gw ≠ w.heap.size + 1 := by omega
  go_wp2_with fail
  obtain ⟨U, hU⟩ : ∃ U, (V.drewN nq).setCell ⟨w.heap.size + 1, 4, none⟩ (.int .i64 ((at_ : Int) + 1 + 3)) = U := ⟨_, rfl⟩
  rw [hU]
  have FU : Hid (Fr [] w U) := by rw [← hU]; exact (FV.out.dn _).st (by omega) _ _
  have GU1 : Hid (U.heap[w.heap.size]? = some (.cells #[.int .i64 0, .int .i64 0, .int .i64 0, .int .i64 0, .int .i64 0, .int .i64 0] 93 (0, 0))) := by rw [← hU]; exact set_other GV1.out (by omega) _ _
  have GU2 : Hid (U.heap[w.heap.size + 1]? = some (.cells #[.int .i64 19, .int .i64 0, .int .i64 0, .int .i64 ((at_ : Int) + 1 + 3), .int .i64 ((at_ : Int) + 1 + 3), .int .i64 0] 93 (0, 0))) := by rw [← hU]; exact (set_in (w := V.drewN nq) GV2.out 4 _).trans rfl
  have u0 : U.cell? ⟨w.heap.size + 1, 0, none⟩ = some (.int .i64 19) := by rw [cell_in GU2.out]; rfl
  have u1 : U.cell? ⟨w.heap.size + 1, 1, none⟩ = some (.int .i64 0) := by rw [cell_in GU2.out]; rfl
  have u2 : U.cell? ⟨w.heap.size + 1, 2, none⟩ = some (.int .i64 0) := by rw [cell_in GU2.out]; rfl
  have u3 : U.cell? ⟨w.heap.size + 1, 3, none⟩ = some (.int .i64 ((at_ : Int) + 1 + 3)) := by rw [cell_in GU2.out]; rfl
  have u4 : U.cell? ⟨w.heap.size + 1, 4, none⟩ = some (.int .i64 ((at_ : Int) + 1 + 3)) := by rw [cell_in GU2.out]; rfl
  have u5 : U.cell? ⟨w.heap.size + 1, 5, none⟩ = some (.int .i64 0) := by rw [cell_in GU2.out]; rfl
  have v4 := frozen_in GU2.out 4
  have xo := FU.out.cl (HWC.out (at_ + 3) (by omega))
  rw [show ow + (at_ + 3) = ow + (at_ + 1) + 2 by omega] at xo
  have lgv := World.block_lt_of_cell? U _ xo
  have lgv : gw < U.heap.size := lgv
  have LU1 := lt_of_heap GU1.out
  have LU2 := lt_of_heap GU2.out
  clear hU FV GV1 GV2 v2 LV1 LV2
  obtain ⟨zz, hzz⟩ : ∃ zz, C.w (at_ + 3) = zz := ⟨_, rfl⟩
  rw [hzz] at xo HOp hz
  try rw [hzz] at hz0
  have HA := mkHid hzz
  clear hzz
  go_quiet (fail)
  have hz1 : (at_ : Int) + 1 + 3 + zz ≤ (C.ws.length : Int) := by omega
  go_wp2_with fail
  go_region
  go_wp2_with (go_at_call 63; fail)
  rw [HA.out] at HFit
  obtain ⟨U2, hU2⟩ : ∃ U2, (U.drewN (nq + 1)).setCell ⟨w.heap.size + 1, 4, none⟩ (.int .i64 ((at_ : Int) + 1 + 3 + zz)) = U2 := ⟨_, rfl⟩
  have FW : Hid (Fr [] w U2) := by rw [← hU2]; exact Fr.st (FU.out.dn (nq + 1)) (by omega) 4 _
  have GW1 : Hid (U2.heap[w.heap.size]? = some (.cells #[.int .i64 0, .int .i64 0, .int .i64 0, .int .i64 0, .int .i64 0, .int .i64 0] 93 (0, 0))) := by rw [← hU2]; exact set_other (w := U.drewN (nq + 1)) GU1.out (by omega) _ _
  have GW2 : Hid (U2.heap[w.heap.size + 1]? = some (.cells #[.int .i64 19, .int .i64 0, .int .i64 0, .int .i64 ((at_ : Int) + 1 + 3), .int .i64 ((at_ : Int) + 1 + 3 + zz), .int .i64 0] 93 (0, 0))) := by rw [← hU2]; exact (set_in (w := U.drewN (nq + 1)) GU2.out 4 _).trans rfl
  rw [hU2]
  have u0 : U2.cell? ⟨w.heap.size + 1, 0, none⟩ = some (.int .i64 19) := by rw [cell_in GW2.out]; rfl
  have u1 : U2.cell? ⟨w.heap.size + 1, 1, none⟩ = some (.int .i64 0) := by rw [cell_in GW2.out]; rfl
  have u2 : U2.cell? ⟨w.heap.size + 1, 2, none⟩ = some (.int .i64 0) := by rw [cell_in GW2.out]; rfl
  have u3 : U2.cell? ⟨w.heap.size + 1, 3, none⟩ = some (.int .i64 ((at_ : Int) + 1 + 3)) := by rw [cell_in GW2.out]; rfl
  have u4 : U2.cell? ⟨w.heap.size + 1, 4, none⟩ = some (.int .i64 ((at_ : Int) + 1 + 3 + zz)) := by rw [cell_in GW2.out]; rfl
  have u5 : U2.cell? ⟨w.heap.size + 1, 5, none⟩ = some (.int .i64 0) := by rw [cell_in GW2.out]; rfl
  clear hU2 v4 FU GU1 GU2 xo
  refine (HFit.out _ _ FW.out (HOp.out _ FW.out)).mono ?_
  rintro e w2 ⟨rfl, m, rfl⟩
  go_wp2_with (refine wpList_store_row rfl 93 _ _ rfl w.heap.size #[.int .i64 0, .int .i64 0, .int .i64 0, .int .i64 0, .int .i64 0, .int .i64 0] rfl rfl 93 #[.int .i64 0, .int .i64 0, .int .i64 0, .int .i64 0, .int .i64 0, .int .i64 0] GW1.out (by kernel_rfl) rfl (by kernel_rfl) ?_)
  refine ret93 Tryd.results42 (B := w.heap.size) (setRow_heap _ _ #[.int .i64 0, .int .i64 0, .int .i64 0, .int .i64 0, .int .i64 0, .int .i64 0] _ 93 (0, 0) GW1.out) rfl rfl ⟨by first | rfl | (rw [HA.out]; rfl), (FW.out.dn _).sr (by omega) _⟩
end
end Go.Proofs.YtdflpoldlokijaaDoor
namespace Go.Proofs.YtdflpoldlokijaaDoor
open Go.RowKit
set_option linter.unusedVariables false
set_option linter.unusedSimpArgs false
attribute [local go_sem ↓] Go.wp_at_zero Go.wp_at_succ
section
variable {w : World} {B a : Nat} {C : Cx} {wv : Value} {sc : List Nat} {ps : Option Addr} {cs : Nat} {pls : List Pl} {pp : Option Addr} {k : Nat}
set_option maxRecDepth 100000 in
set_option maxHeartbeats 8000000 in
theorem ins_yes19 (h : RR w B a C wv sc ps cs pls pp k) (at_ en : Nat) (hat : at_ < en) (hto : en ≤ C.ws.length) (hop : C.w at_ = ((19 : Nat) : Int)) (hfin : at_ + 1 + 3 ≤ en) (hz : ¬ (en : Int) - ((at_ : Int) + 1 + 3) < C.w (at_ + 3)) (hz0 : -9223372036854775808 ≤ C.w (at_ + 3)) (hf : fitP C.b C.lits sc 19 (C.w (at_ + 1)) (C.w (at_ + 2)) (C.w (at_ + 3)) = true) (hm : mayP sc 19 = true) : Calls Tryd.prog 42 #[.pointer (some ⟨a, 0, none⟩), .int .i64 at_, .int .i64 en] w fun e w' => e = .returned (.tuple #[.agg #[.int .i64 19, .int .i64 0, .int .i64 0, .int .i64 ((at_ : Int) + 1 + 3), .int .i64 ((at_ : Int) + 1 + 3 + C.w (at_ + 3)), .int .i64 0], .int .i64 0]) ∧ Fr [] w w' := by
  have hS : shp ((19 : Nat) : Int) = ⟨2, 3, 0, 1, 0⟩ := rfl
  have HFit : Hid (∀ V xv, Fr [] w V → OpdAt V xv 3 (C.w (at_ + 1)) (C.w (at_ + 2)) (C.w (at_ + 3)) → Calls Tryd.prog 63 #[.pointer (some ⟨a, 0, none⟩), .int .i64 19, xv] V fun e w' => e = .returned (.bool true) ∧ ∃ m, w' = V.drewN m) := fun V xv hV hx => by
    have := fit_ok (h.idle hV) 19 xv (C.w (at_ + 1)) (C.w (at_ + 2)) (C.w (at_ + 3)) (by decide) (by decide) (by have e : (shp ((19 : Nat) : Int)).opd = 3 := (congrArg Sh.opd hS); rw [e]; exact hx)
    rw [hf] at this
    exact this
  have HMS : Hid (∀ V, Fr [] w V → Calls Tryd.prog 62 #[.pointer (some ⟨a, 0, none⟩), .int .i64 19] V fun e w' => e = .returned (.bool true) ∧ w' = V) := fun V hV => by rw [← hm]; exact mayStand_ok (h.idle hV) 19
  have hsh := h.short
  have hwcap := h.wcap
  obtain ⟨pw, cw, rfl, hw⟩ := h.word
  have hcw := hwcap _ _ _ rfl
  obtain ⟨gw, ow, rfl, hgB, hwc⟩ := hw (by omega)
  have ha1 : (0 : Int) ≤ (at_ : Int) := by omega
  have ha2 : (at_ : Int) < (C.ws.length : Int) := by omega
  obtain ⟨c0, -⟩ := h.cells
  have x0 := hwc at_ (by omega)
  have HH := mkHid h
  have HSH : Hid (∀ V, Fr [] w V → Calls Tryd.prog 44 #[.int .i64 19] V fun e w' => e = .returned (shv (shp ((19 : Nat) : Int))) ∧ Fr [] V w') := fun V hV => shapeOf_ok _ V (h.tb.idle hV)
  have HWC := mkHid hwc
  have hlw := lt_of_heap h.top
  have hlg : gw < w.heap.size := World.block_lt_of_cell? w _ x0
  rw [hop] at x0
  have hsl := sh_le ((19 : Nat) : Int)
  rw [hS] at hsl HSH
  clear hsl
  clear h hwc hop hS hwcap hw
  simp only [shv, I] at HSH
  have F2 : Hid (Fr [] w ((w.alloc (.cells #[.int .i64 0, .int .i64 0, .int .i64 0, .int .i64 0, .int .i64 0, .int .i64 0] 93)).alloc (.cells #[.int .i64 19, .int .i64 0, .int .i64 0, .int .i64 0, .int .i64 0, .int .i64 0] 93))) := ((Fr.refl [] w).al _).al _
  have Q1 : Hid (((w.alloc (.cells #[.int .i64 0, .int .i64 0, .int .i64 0, .int .i64 0, .int .i64 0, .int .i64 0] 93)).alloc (.cells #[.int .i64 19, .int .i64 0, .int .i64 0, .int .i64 0, .int .i64 0, .int .i64 0] 93)).heap[w.heap.size]? = some (.cells #[.int .i64 0, .int .i64 0, .int .i64 0, .int .i64 0, .int .i64 0, .int .i64 0] 93 (0, 0))) := al_old (heap_alloc_new w _) _
  have Q2 : Hid (((w.alloc (.cells #[.int .i64 0, .int .i64 0, .int .i64 0, .int .i64 0, .int .i64 0, .int .i64 0] 93)).alloc (.cells #[.int .i64 19, .int .i64 0, .int .i64 0, .int .i64 0, .int .i64 0, .int .i64 0] 93)).heap[w.heap.size + 1]? = some (.cells #[.int .i64 19, .int .i64 0, .int .i64 0, .int .i64 0, .int .i64 0, .int .i64 0] 93 (0, 0))) := by
    have := heap_alloc_new (w.alloc (.cells #[.int .i64 0, .int .i64 0, .int .i64 0, .int .i64 0, .int .i64 0, .int .i64 0] 93)) (.cells #[.int .i64 19, .int .i64 0, .int .i64 0, .int .i64 0, .int .i64 0, .int .i64 0] 93)
    rwa [show (w.alloc (.cells #[.int .i64 0, .int .i64 0, .int .i64 0, .int .i64 0, .int .i64 0, .int .i64 0] 93)).heap.size = w.heap.size + 1 by simp] at this
  have hod : at_ + 1 + 3 ≤ 4100 := by omega
  have d1 : ¬ (en : Int) < (at_ : Int) + 1 + 3 := by omega
  have d2 : decide ((en : Int) < (at_ : Int) + 1 + 3) = false := decide_eq_false d1
  have hod2 : (at_ : Int) + 1 + 3 ≤ (C.ws.length : Int) := by omega
  have hcwi : (C.ws.length : Int) ≤ (cw : Int) := by omega
  clear hm
  go_enter Tryd.func42, Tryd.ntmps42
  go_wp2_with (first
    | (go_at_call 44; refine (HSH.out _ F2.out).mono ?_; rintro e w1 ⟨rfl, f1⟩
       have q1 := f1.hb Q1.out
       have q2 := f1.hb Q2.out
       have y0 : w1.cell? ⟨w.heap.size + 1, 0, none⟩ = some (.int .i64 19) := by rw [cell_in q2]; rfl
       have y3 : w1.cell? ⟨w.heap.size + 1, 3, none⟩ = some (.int .i64 0) := by rw [cell_in q2]; rfl
       have z3 := frozen_in q2 3
       have L1 := lt_of_heap q1
       have L2 := lt_of_heap q2
       have G1 := mkHid q1
       have G2 := mkHid q2
       have F1 := mkHid (F2.out.tr0 f1)
       clear f1 q1 q2)
    | (go_at_call 62; refine (HMS.out _ (by first | exact (F1.out.st (by omega) _ _).al _ | exact F1.out.al _)).mono ?_; rintro e w2 ⟨rfl, hw2⟩; rw [hw2]; clear hw2 w2))
  obtain ⟨V, hV⟩ : ∃ V, (w1.setCell ⟨w.heap.size + 1, 3, none⟩ (.int .i64 ((at_ : Int) + 1 + 3))).alloc (.cells #[.int .i64 2, .int .i64 3, .int .i64 0, .int .i64 1, .int .i64 0] 99) = V := ⟨_, rfl⟩
  rw [hV]
  have FV : Hid (Fr [] w V) := by rw [← hV]; exact (F1.out.st (by omega) _ _).al _
  have GV1 : Hid (V.heap[w.heap.size]? = some (.cells #[.int .i64 0, .int .i64 0, .int .i64 0, .int .i64 0, .int .i64 0, .int .i64 0] 93 (0, 0))) := by rw [← hV]; exact al_old (set_other G1.out (by omega) _ _) _
  have GV2 : Hid (V.heap[w.heap.size + 1]? = some (.cells #[.int .i64 19, .int .i64 0, .int .i64 0, .int .i64 ((at_ : Int) + 1 + 3), .int .i64 0, .int .i64 0] 93 (0, 0))) := by rw [← hV]; exact al_old ((set_in G2.out 3 _).trans rfl) _
  have u0 : V.cell? ⟨w.heap.size + 1, 0, none⟩ = some (.int .i64 19) := by rw [cell_in GV2.out]; rfl
  have u1 : V.cell? ⟨w.heap.size + 1, 1, none⟩ = some (.int .i64 0) := by rw [cell_in GV2.out]; rfl
  have u2 : V.cell? ⟨w.heap.size + 1, 2, none⟩ = some (.int .i64 0) := by rw [cell_in GV2.out]; rfl
  have u3 : V.cell? ⟨w.heap.size + 1, 3, none⟩ = some (.int .i64 ((at_ : Int) + 1 + 3)) := by rw [cell_in GV2.out]; rfl
  have u4 : V.cell? ⟨w.heap.size + 1, 4, none⟩ = some (.int .i64 0) := by rw [cell_in GV2.out]; rfl
  have u5 : V.cell? ⟨w.heap.size + 1, 5, none⟩ = some (.int .i64 0) := by rw [cell_in GV2.out]; rfl
  have v2 := frozen_in GV2.out 2
  have v4 := frozen_in GV2.out 4
  have c0 := FV.out.cl c0
  have LV1 := lt_of_heap GV1.out
  have LV2 := lt_of_heap GV2.out
  clear hV y0 y3 z3 L1 L2 G1 G2 F1 F2 Q1 Q2 HSH HMS x0
  go_quiet (fail)
  rw [show at_ + 1 + 3 - (at_ + 1) = 3 by omega]
  have HOp : Hid (∀ U, Fr [] w U → OpdAt U (Value.slice (some ⟨gw, ow + (at_ + 1), none⟩) 3 (cw - (at_ + 1))) 3 (C.w (at_ + 1)) (C.w (at_ + 2)) (C.w (at_ + 3))) := fun U hU h1 =>
    ⟨gw, ow + (at_ + 1), cw - (at_ + 1), rfl, hU.cl (HWC.out (at_ + 1) (by omega)), fun h2 => hU.cl (HWC.out (at_ + 2) (by omega)), fun h3 => hU.cl (HWC.out (at_ + 3) (by omega))⟩
  have xo := FV.out.cl (HWC.out (at_ + 3) (by omega))
  rw [show ow + (at_ + 3) = ow + (at_ + 1) + 2 by omega] at xo
  have lgv := World.block_lt_of_cell? V _ xo
  have lgv : gw < V.heap.size := lgv
  have gne : gw ≠ w.heap.size + 1 := by omega
  go_wp2_with fail
  obtain ⟨U, hU⟩ : ∃ U, (V.drewN nq).setCell ⟨w.heap.size + 1, 4, none⟩ (.int .i64 ((at_ : Int) + 1 + 3)) = U := ⟨_, rfl⟩
  rw [hU]
  have FU : Hid (Fr [] w U) := by rw [← hU]; exact (FV.out.dn _).st (by omega) _ _
  have GU1 : Hid (U.heap[w.heap.size]? = some (.cells #[.int .i64 0, .int .i64 0, .int .i64 0, .int .i64 0, .int .i64 0, .int .i64 0] 93 (0, 0))) := by rw [← hU]; exact set_other GV1.out (by omega) _ _
  have GU2 : Hid (U.heap[w.heap.size + 1]? = some (.cells #[.int .i64 19, .int .i64 0, .int .i64 0, .int .i64 ((at_ : Int) + 1 + 3), .int .i64 ((at_ : Int) + 1 + 3), .int .i64 0] 93 (0, 0))) := by rw [← hU]; exact (set_in (w := V.drewN nq) GV2.out 4 _).trans rfl
  have u0 : U.cell? ⟨w.heap.size + 1, 0, none⟩ = some (.int .i64 19) := by rw [cell_in GU2.out]; rfl
  have u1 : U.cell? ⟨w.heap.size + 1, 1, none⟩ = some (.int .i64 0) := by rw [cell_in GU2.out]; rfl
  have u2 : U.cell? ⟨w.heap.size + 1, 2, none⟩ = some (.int .i64 0) := by rw [cell_in GU2.out]; rfl
  have u3 : U.cell? ⟨w.heap.size + 1, 3, none⟩ = some (.int .i64 ((at_ : Int) + 1 + 3)) := by rw [cell_in GU2.out]; rfl
  have u4 : U.cell? ⟨w.heap.size + 1, 4, none⟩ = some (.int .i64 ((at_ : Int) + 1 + 3)) := by rw [cell_in GU2.out]; rfl
  have u5 : U.cell? ⟨w.heap.size + 1, 5, none⟩ = some (.int .i64 0) := by rw [cell_in GU2.out]; rfl
  have v4 := frozen_in GU2.out 4
  have xo := FU.out.cl (HWC.out (at_ + 3) (by omega))
  rw [show ow + (at_ + 3) = ow + (at_ + 1) + 2 by omega] at xo
  have lgv := World.block_lt_of_cell? U _ xo
  have lgv : gw < U.heap.size := lgv
  have LU1 := lt_of_heap GU1.out
  have LU2 := lt_of_heap GU2.out
  clear hU FV GV1 GV2 v2 LV1 LV2
  obtain ⟨zz, hzz⟩ : ∃ zz, C.w (at_ + 3) = zz := ⟨_, rfl⟩
  rw [hzz] at xo HOp hz
  try rw [hzz] at hz0
  have HA := mkHid hzz
  clear hzz
  go_quiet (fail)
  have hz1 : (at_ : Int) + 1 + 3 + zz ≤ (C.ws.length : Int) := by omega
  go_wp2_with fail
  go_region
  go_wp2_with (go_at_call 63; fail)
  rw [HA.out] at HFit
  obtain ⟨U2, hU2⟩ : ∃ U2, (U.drewN (nq + 1)).setCell ⟨w.heap.size + 1, 4, none⟩ (.int .i64 ((at_ : Int) + 1 + 3 + zz)) = U2 := ⟨_, rfl⟩
  have FW : Hid (Fr [] w U2) := by rw [← hU2]; exact Fr.st (FU.out.dn (nq + 1)) (by omega) 4 _
  have GW1 : Hid (U2.heap[w.heap.size]? = some (.cells #[.int .i64 0, .int .i64 0, .int .i64 0, .int .i64 0, .int .i64 0, .int .i64 0] 93 (0, 0))) := by rw [← hU2]; exact set_other (w := U.drewN (nq + 1)) GU1.out (by omega) _ _
  have GW2 : Hid (U2.heap[w.heap.size + 1]? = some (.cells #[.int .i64 19, .int .i64 0, .int .i64 0, .int .i64 ((at_ : Int) + 1 + 3), .int .i64 ((at_ : Int) + 1 + 3 + zz), .int .i64 0] 93 (0, 0))) := by rw [← hU2]; exact (set_in (w := U.drewN (nq + 1)) GU2.out 4 _).trans rfl
  rw [hU2]
  have u0 : U2.cell? ⟨w.heap.size + 1, 0, none⟩ = some (.int .i64 19) := by rw [cell_in GW2.out]; rfl
  have u1 : U2.cell? ⟨w.heap.size + 1, 1, none⟩ = some (.int .i64 0) := by rw [cell_in GW2.out]; rfl
  have u2 : U2.cell? ⟨w.heap.size + 1, 2, none⟩ = some (.int .i64 0) := by rw [cell_in GW2.out]; rfl
  have u3 : U2.cell? ⟨w.heap.size + 1, 3, none⟩ = some (.int .i64 ((at_ : Int) + 1 + 3)) := by rw [cell_in GW2.out]; rfl
  have u4 : U2.cell? ⟨w.heap.size + 1, 4, none⟩ = some (.int .i64 ((at_ : Int) + 1 + 3 + zz)) := by rw [cell_in GW2.out]; rfl
  have u5 : U2.cell? ⟨w.heap.size + 1, 5, none⟩ = some (.int .i64 0) := by rw [cell_in GW2.out]; rfl
  clear hU2 v4 FU GU1 GU2 xo
  refine (HFit.out _ _ FW.out (HOp.out _ FW.out)).mono ?_
  rintro e w2 ⟨rfl, m, rfl⟩
  go_wp2_with (refine wpList_store_row rfl 93 _ _ rfl w.heap.size #[.int .i64 19, .int .i64 0, .int .i64 0, .int .i64 ((at_ : Int) + 1 + 3), .int .i64 ((at_ : Int) + 1 + 3 + zz), .int .i64 0] rfl rfl 93 #[.int .i64 0, .int .i64 0, .int .i64 0, .int .i64 0, .int .i64 0, .int .i64 0] GW1.out (by kernel_rfl) rfl (by kernel_rfl) ?_)
  refine ret93 Tryd.results42 (B := w.heap.size) (setRow_heap _ _ #[.int .i64 0, .int .i64 0, .int .i64 0, .int .i64 0, .int .i64 0, .int .i64 0] _ 93 (0, 0) GW1.out) rfl rfl ⟨by first | rfl | (rw [HA.out]; rfl), (FW.out.dn _).sr (by omega) _⟩
end
end Go.Proofs.YtdflpoldlokijaaDoor
namespace Go.Proofs.YtdflpoldlokijaaDoor
open Go.RowKit
set_option linter.unusedVariables false
set_option linter.unusedSimpArgs false
theorem plc_arr (p : Pl) : (plc p).toArray = #[I p.op, I p.body, I p.args, I p.fin, I p.nxt, I p.to] := rfl
/-- the instruction at a word, as the program reads it -/
theorem instr_ok {w : World} {B a : Nat} {C : Cx} {wv : Value} {sc : List Nat} {ps : Option Addr} {cs : Nat} {pls : List Pl} {pp : Option Addr} {k : Nat} (h : RR w B a C wv sc ps cs pls pp k) (at_ en : Nat) (hat : at_ < en) (hto : en ≤ C.ws.length) :
    Calls Tryd.prog 42 #[.pointer (some ⟨a, 0, none⟩), .int .i64 at_, .int .i64 en] w fun e w' => e = .returned (.tuple #[.agg (plc (instrP C sc at_ en).2).toArray, .int .i64 (instrP C sc at_ en).1]) ∧ Fr [] w w' := by
  have hrng := h.rng (at_ + 3)
  unfold instrP
  simp only
  by_cases k0 : (shp (C.w at_)).kind = 0
  · rw [if_pos (.inl k0), plc_arr]
    generalize hS : shp (C.w at_) = s at *
    obtain ⟨kd, od, tk, on, jp⟩ := s
    simp only at k0
    subst k0
    exact ins_c1 h at_ en hat hto _ rfl od tk on jp hS
  obtain ⟨o1, o2⟩ := shp_kind _ k0
  by_cases k1 : en < at_ + 1 + (shp (C.w at_)).opd
  · rw [if_pos (.inr (.inl k1)), plc_arr]
    generalize hS : shp (C.w at_) = s at *
    obtain ⟨kd, od, tk, on, jp⟩ := s
    exact ins_c2 h at_ en hat hto _ rfl kd od tk on jp hS k0 k1
  generalize hop : C.w at_ = op at *
  obtain ⟨n, rfl⟩ := Int.eq_ofNat_of_zero_le (show 0 ≤ op by omega)
  simp only [Int.toNat_natCast]
  generalize hS : shp (n : Int) = s at *
  obtain ⟨kd, od, tk, on, jp⟩ := s
  simp only at k0 k1 ⊢
  by_cases k2 : mayP sc n = false
  · rw [if_pos (.inr (.inr k2)), plc_arr]
    exact ins_c3 h at_ en hat hto n hop kd od tk on jp hS k0 (by omega) k2
  rw [if_neg (by simp only [not_or]; exact ⟨k0, k1, k2⟩)]
  have k2 : mayP sc n = true := by simpa using k2
  by_cases h19 : n = 19
  · subst h19
    have e : shp ((19 : Nat) : Int) = ⟨2, 3, 0, 1, 0⟩ := rfl
    rw [e] at hS
    injection hS with e1 e2 e3 e4 e5
    subst e1 e2 e3 e4 e5
    by_cases kz : (en : Int) - ((at_ + 1 + 3 : Nat) : Int) < C.w (at_ + 3)
    · rw [if_pos ⟨rfl, kz⟩, plc_arr]
      exact ins_c4 h at_ en hat hto hop (by omega) (by push_cast at kz; exact kz) k2
    rw [if_neg (fun hh => kz hh.2)]
    have kz' : ¬ (en : Int) - ((at_ : Int) + 1 + 3) < C.w (at_ + 3) := by push_cast at kz; exact kz
    by_cases kf : fitP C.b C.lits sc 19 (C.w (at_ + 1)) (C.w (at_ + 2)) (C.w (at_ + 3)) = false
    · rw [if_pos kf, plc_arr]
      exact ins_no19 h at_ en hat hto hop (by omega) kz' hrng.1 kf k2
    · rw [if_neg kf, plc_arr]
      have kf' : fitP C.b C.lits sc 19 (C.w (at_ + 1)) (C.w (at_ + 2)) (C.w (at_ + 3)) = true := by simpa using kf
      have hz : 0 < C.w (at_ + 3) := by
        have := kf'
        unfold fitP at this
        simp at this
        exact this.1.2
      have := ins_yes19 h at_ en hat hto hop (by omega) kz' hrng.1 kf' k2
      have e3 : (at_ : Int) + 1 + 3 + C.w (at_ + 3) = ((at_ + 1 + 3 + (C.w (at_ + 3)).toNat : Nat) : Int) := by push_cast; omega
      rw [e3] at this
      exact this
  · have n19 : ¬ (n : Int) = 19 := by omega
    rw [if_neg (fun hh => n19 hh.1)]
    by_cases h17 : n = 17 ∨ n = 18
    · have e17 : (n : Int) = 17 ∨ (n : Int) = 18 := by omega
      have e : shp (n : Int) = ⟨1, 2, 1, 1, 0⟩ := by rcases h17 with rfl | rfl <;> rfl
      rw [e] at hS
      injection hS with e1 e2 e3 e4 e5
      subst e1 e2 e3 e4 e5
      by_cases kf : fitP C.b C.lits sc n (C.w (at_ + 1)) (C.w (at_ + 2)) (C.w (at_ + 3)) = false
      · rw [if_pos kf, plc_arr]
        rcases h17 with rfl | rfl
        · exact ins_no17 h at_ en hat hto hop (by omega) kf k2
        · exact ins_no18 h at_ en hat hto hop (by omega) kf k2
      · rw [if_neg kf, plc_arr]
        have kf' : fitP C.b C.lits sc n (C.w (at_ + 1)) (C.w (at_ + 2)) (C.w (at_ + 3)) = true := by simpa using kf
        simp only [if_pos e17, if_neg n19]
        have hy : 0 ≤ C.w (at_ + 2) := by
          have := kf'
          unfold fitP at this
          rcases h17 with rfl | rfl
          all_goals simp [inR] at this
          all_goals exact this.2.1
        have e3 : C.w (at_ + 2) = (((C.w (at_ + 2)).toNat : Nat) : Int) := by omega
        have e4 : (at_ : Int) + 1 + 2 = ((at_ + 1 + 2 : Nat) : Int) := by push_cast; omega
        rcases h17 with rfl | rfl
        · have := ins_yes17 h at_ en hat hto hop (by omega) kf' k2
          rw [e4] at this
          rw [e3] at this
          exact this
        · have := ins_yes18 h at_ en hat hto hop (by omega) kf' k2
          rw [e4] at this
          rw [e3] at this
          exact this
    · have e17 : ¬ ((n : Int) = 17 ∨ (n : Int) = 18) := by omega
      by_cases kf : fitP C.b C.lits sc n (C.w (at_ + 1)) (C.w (at_ + 2)) (C.w (at_ + 3)) = false
      · rw [if_pos kf, plc_arr]
        exact ins_no h at_ en hat hto n hop kd od tk on jp hS k0 (by omega) (by omega) (by omega) (by omega) (by omega) h19 kf k2
      · rw [if_neg kf, plc_arr]
        have kf' : fitP C.b C.lits sc n (C.w (at_ + 1)) (C.w (at_ + 2)) (C.w (at_ + 3)) = true := by simpa using kf
        simp only [if_neg e17, if_neg n19]
        have := ins_yes h at_ en hat hto n hop kd od tk on jp hS k0 (by omega) (by omega) (by omega) (by omega) (by omega) h19 kf' k2
        have e4 : (at_ : Int) + 1 + od = ((at_ + 1 + od : Nat) : Int) := by push_cast; omega
        rw [e4] at this
        exact this
end Go.Proofs.YtdflpoldlokijaaDoor
