import Derived.Test.YtdflpoldlokijaaDoorCFit
namespace Go.Proofs.YtdflpoldlokijaaDoor
open Go.RowKit
set_option linter.unusedVariables false
set_option linter.unusedSimpArgs false
attribute [local go_sem ↓] Go.wp_at_zero Go.wp_at_succ
section
variable {w : World} {B a : Nat} {C : Cx} {wv : Value} {sc : List Nat} {ps : Option Addr} {cs : Nat} {pls : List Pl} {pp : Option Addr} {k : Nat}
set_option maxRecDepth 100000 in
set_option maxHeartbeats 4000000 in
theorem ins_c3 (h : RR w B a C wv sc ps cs pls pp k) (at_ en : Nat) (hat : at_ < en) (hto : en ≤ C.ws.length) (n : Nat) (hop : C.w at_ = n) (kd od tk on jp : Nat) (hS : shp n = ⟨kd, od, tk, on, jp⟩) (hk : kd ≠ 0) (hfin : at_ + 1 + od ≤ en) (hm : mayP sc n = false) : Calls Tryd.prog 42 #[.pointer (some ⟨a, 0, none⟩), .int .i64 at_, .int .i64 en] w fun e w' => e = .returned (.tuple #[.agg #[.int .i64 0, .int .i64 0, .int .i64 0, .int .i64 0, .int .i64 0, .int .i64 0], .int .i64 110]) ∧ Fr [] w w' := by
  have HMS : Hid (∀ V, Fr [] w V → Calls Tryd.prog 62 #[.pointer (some ⟨a, 0, none⟩), .int .i64 n] V fun e w' => e = .returned (.bool false) ∧ w' = V) := fun V hV => by rw [← hm]; exact mayStand_ok (h.idle hV) n
  have hsh := h.short
  have hwcap := h.wcap
  obtain ⟨pw, cw, rfl, hw⟩ := h.word
  have hcw := hwcap _ _ _ rfl
  obtain ⟨gw, ow, rfl, hgB, hwc⟩ := hw (by omega)
  have ha1 : (0 : Int) ≤ (at_ : Int) := by omega
  have ha2 : (at_ : Int) < (C.ws.length : Int) := by omega
  obtain ⟨c0, -⟩ := h.cells
  have x0 := hwc at_ (by omega)
  have HH := mkHid h
  have HSH : Hid (∀ V, Fr [] w V → Calls Tryd.prog 44 #[.int .i64 n] V fun e w' => e = .returned (shv (shp n)) ∧ Fr [] V w') := fun V hV => shapeOf_ok _ V (h.tb.idle hV)
  have HWC := mkHid hwc
  have hlw := lt_of_heap h.top
  have hlg : gw < w.heap.size := World.block_lt_of_cell? w _ x0
  rw [hop] at x0
  have hsl := sh_le n
  rw [hS] at hsl HSH
  simp only at hsl
  obtain ⟨-, -, -, hk7, ho3⟩ := hsl
  clear h hwc hop hS hwcap hw
  simp only [shv, I] at HSH
  have F2 : Hid (Fr [] w ((w.alloc (.cells #[.int .i64 0, .int .i64 0, .int .i64 0, .int .i64 0, .int .i64 0, .int .i64 0] 93)).alloc (.cells #[.int .i64 n, .int .i64 0, .int .i64 0, .int .i64 0, .int .i64 0, .int .i64 0] 93))) := ((Fr.refl [] w).al _).al _
  have Q1 : Hid (((w.alloc (.cells #[.int .i64 0, .int .i64 0, .int .i64 0, .int .i64 0, .int .i64 0, .int .i64 0] 93)).alloc (.cells #[.int .i64 n, .int .i64 0, .int .i64 0, .int .i64 0, .int .i64 0, .int .i64 0] 93)).heap[w.heap.size]? = some (.cells #[.int .i64 0, .int .i64 0, .int .i64 0, .int .i64 0, .int .i64 0, .int .i64 0] 93 (0, 0))) := al_old (heap_alloc_new w _) _
  have Q2 : Hid (((w.alloc (.cells #[.int .i64 0, .int .i64 0, .int .i64 0, .int .i64 0, .int .i64 0, .int .i64 0] 93)).alloc (.cells #[.int .i64 n, .int .i64 0, .int .i64 0, .int .i64 0, .int .i64 0, .int .i64 0] 93)).heap[w.heap.size + 1]? = some (.cells #[.int .i64 n, .int .i64 0, .int .i64 0, .int .i64 0, .int .i64 0, .int .i64 0] 93 (0, 0))) := by
    have := heap_alloc_new (w.alloc (.cells #[.int .i64 0, .int .i64 0, .int .i64 0, .int .i64 0, .int .i64 0, .int .i64 0] 93)) (.cells #[.int .i64 n, .int .i64 0, .int .i64 0, .int .i64 0, .int .i64 0, .int .i64 0] 93)
    rwa [show (w.alloc (.cells #[.int .i64 0, .int .i64 0, .int .i64 0, .int .i64 0, .int .i64 0, .int .i64 0] 93)).heap.size = w.heap.size + 1 by simp] at this
  have hod : at_ + 1 + od ≤ 4100 := by omega
  have d0 : ((kd : Int) == 0) = false := beq_eq_false_iff_ne.2 (by omega)
  have d1 : ¬ (en : Int) < (at_ : Int) + 1 + (od : Int) := by omega
  have d2 : decide ((en : Int) < (at_ : Int) + 1 + (od : Int)) = false := decide_eq_false d1
  clear hk hfin hm
  go_enter Tryd.func42, Tryd.ntmps42
  go_wp2_with (first
    | (go_at_call 44; refine (HSH.out _ F2.out).mono ?_; rintro e w1 ⟨rfl, f1⟩
       have q1 := f1.hb Q1.out
       have q2 := f1.hb Q2.out
       have y0 : w1.cell? ⟨w.heap.size + 1, 0, none⟩ = some (.int .i64 n) := by rw [cell_in q2]; rfl
       have y3 : w1.cell? ⟨w.heap.size + 1, 3, none⟩ = some (.int .i64 0) := by rw [cell_in q2]; rfl
       have z3 := frozen_in q2 3
       have L1 := lt_of_heap q1
       have L2 := lt_of_heap q2
       have G1 := mkHid q1
       have G2 := mkHid q2
       have F1 := mkHid (F2.out.tr0 f1)
       clear f1 q1 q2)
    | (go_at_call 62; refine (HMS.out _ (by first | exact (F1.out.st (by omega) _ _).al _ | exact F1.out.al _)).mono ?_; rintro e w2 ⟨rfl, hw2⟩; rw [hw2]; clear hw2 w2)
    | (refine wpList_store_row rfl 93 _ _ rfl w.heap.size #[.int .i64 0, .int .i64 0, .int .i64 0, .int .i64 0, .int .i64 0, .int .i64 0] rfl rfl 93 _ (by first | exact al_old (set_other G1.out (by omega) _ _) _ | exact al_old G1.out _) (by kernel_rfl) rfl (by kernel_rfl) ?_))
  refine ret93 Tryd.results42 (B := w.heap.size) (setRow_heap _ _ #[.int .i64 0, .int .i64 0, .int .i64 0, .int .i64 0, .int .i64 0, .int .i64 0] _ 93 (0, 0) ?_) rfl rfl ⟨rfl, ?_⟩
  · first | exact al_old (set_other G1.out (by omega) _ _) _ | exact al_old G1.out _
  · first | exact ((F1.out.st (by omega) _ _).al _).sr (by omega) _ | exact (F1.out.al _).sr (by omega) _
end
end Go.Proofs.YtdflpoldlokijaaDoor
