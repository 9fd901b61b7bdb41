import Derived.Test.YtdflpoldlokijaaDoorG24CLv0
namespace Go.Proofs.YtdflpoldlokijaaDoor
open Go.RowKit
set_option linter.unusedVariables false
set_option linter.unusedSimpArgs false
attribute [local go_sem ↓] Go.wp_at_zero Go.wp_at_succ
section
variable {w : World} {B x : Nat} {pls : List Pl} {pp pd : Option Addr} {s : Wk} {pc : Option Addr} {cc : Nat}
set_option maxRecDepth 100000 in
set_option maxHeartbeats 4000000 in
theorem leave_ok (h : FW w B x pls pp pd s pc cc) (hB : B ≤ w.heap.size) (at_ : Nat) (hat : at_ < pls.length) (hcl : s.come.length ≤ 90000) (hd : -1 ≤ depD s.dep at_ ∧ depD s.dep at_ ≤ 100000) (p : Pl) (hp : plD pls at_ = p) (ha : p.args ≤ 8)
    (hn : p.nxt ≤ pls.length) (hb : (shp p.op).kind = 2 → p.fin < pls.length) (hj : 4 ≤ (shp p.op).kind → p.to < pls.length) :
    Calls Tryd.prog 49 #[.pointer (some ⟨x, 0, none⟩), .int .i64 at_] w fun e w' => e = .returned (.tuple #[]) ∧ Kw B w w' ∧ ∃ pc' cc', FW w' B x pls pp pd (leaveP pls s at_) pc' cc' := by
  have HL : Hid (leaveP pls s at_ = _) := mkHid (leaveP_tail pls s at_)
  rw [hp] at HL
  have hsh := h.short
  have hre : restP s p at_ = depD s.dep at_ - (shp p.op).takes - p.args := rfl
  rw [hre] at HL
  obtain ⟨c0, c1, -, -, -⟩ := h.cells
  obtain ⟨gp, rfl, hgB, hgl, b0, b1, b2, b3, b4, b5⟩ := h.pl at_ hat
  obtain ⟨gd, rfl, hdB, y0, z0⟩ := h.depth at_ hat
  rw [hp] at b0 b1 b2 b3 b4 b5
  simp only [I] at b0 b1 b2 b3 b4 b5
  have a0 : (0 : Int) ≤ (at_ : Int) := by omega
  have a1 : (at_ : Int) < (pls.length : Int) := by omega
  have HT : Hid (∀ (l : List Pl) (s : Wk) (r : Int), tailP l s p r = if (shp p.op).kind = 2 then meetP (if (shp p.op).kind = 1 ∨ (shp p.op).kind = 2 ∨ (shp p.op).kind = 5 ∨ (shp p.op).kind = 7 then goOnP l s p (r + (shp p.op).on) else s) p.fin 0 else if 4 ≤ (shp p.op).kind then meetP (if (shp p.op).kind = 1 ∨ (shp p.op).kind = 2 ∨ (shp p.op).kind = 5 ∨ (shp p.op).kind = 7 then goOnP l s p (r + (shp p.op).on) else s) p.to (r + (shp p.op).jump) else (if (shp p.op).kind = 1 ∨ (shp p.op).kind = 2 ∨ (shp p.op).kind = 5 ∨ (shp p.op).kind = 7 then goOnP l s p (r + (shp p.op).on) else s)) := mkHid (fun l s r => rfl)
  have hsl := sh_le p.op
  have HSH : Hid (∀ V, Fr [] w V → Calls Tryd.prog 44 #[.int .i64 p.op] V fun e w' => e = .returned (shv (shp p.op)) ∧ Fr [] V w') := fun V hV => shapeOf_ok _ V (h.tb.idle hV)
  generalize hS : shp p.op = sh at *
  obtain ⟨kd, od, tk, on, jp⟩ := sh
  simp only [shv, I] at HSH
  simp only at hsl hb hj HL HT
  obtain ⟨s1, s2, s3, s4, s5⟩ := hsl
  obtain ⟨d, hdd⟩ : ∃ d, depD s.dep at_ = d := ⟨_, rfl⟩
  rw [hdd] at y0 hd HL
  have HH := mkHid h
  have F1 : Hid (Fr [] w (w.alloc (.cells #[.int .i64 p.op, .int .i64 p.body, .int .i64 p.args, .int .i64 p.fin, .int .i64 p.nxt, .int .i64 p.to] 93))) := Fr.alloc [] w _
  have Q1 : Hid ((w.alloc (.cells #[.int .i64 p.op, .int .i64 p.body, .int .i64 p.args, .int .i64 p.fin, .int .i64 p.nxt, .int .i64 p.to] 93)).heap[w.heap.size]? = some (.cells #[.int .i64 p.op, .int .i64 p.body, .int .i64 p.args, .int .i64 p.fin, .int .i64 p.nxt, .int .i64 p.to] 93 (0, 0))) := heap_alloc_new w _
  obtain ⟨d1, d2⟩ := hd
  clear h hp hS hre hdd
  go_enter Tryd.func49, Tryd.ntmps49
  go_wp2_with (go_at_call 44; refine (HSH.out _ F1.out).mono ?_; rintro e w1 ⟨rfl, f1⟩; have F2 := mkHid (F1.out.tr0 f1); have Q2 := mkHid (f1.hb Q1.out); clear f1)
  obtain ⟨V, hV⟩ : ∃ V, w1.alloc (.cells #[.int .i64 kd, .int .i64 od, .int .i64 tk, .int .i64 on, .int .i64 jp] 99) = V := ⟨_, rfl⟩
  try rw [hV]
  have FV : Hid (Fr [] w V) := by rw [← hV]; exact F2.out.al _
  have G1 : Hid (V.heap[w.heap.size]? = some (.cells #[.int .i64 p.op, .int .i64 p.body, .int .i64 p.args, .int .i64 p.fin, .int .i64 p.nxt, .int .i64 p.to] 93 (0, 0))) := by rw [← hV]; exact al_old Q2.out _
  have G2 : Hid (V.heap[w1.heap.size]? = some (.cells #[.int .i64 kd, .int .i64 od, .int .i64 tk, .int .i64 on, .int .i64 jp] 99 (0, 0))) := by rw [← hV]; exact heap_alloc_new w1 _
  have hBV : B ≤ V.heap.size := Nat.le_trans hB FV.out.size
  have HV := mkHid (HH.out.idle hB FV.out)
  obtain ⟨-, c1, -, -, c4⟩ := HV.out.cells
  have y0 := FV.out.cl y0
  have l2 : V.cell? ⟨w.heap.size, 2, none⟩ = some (.int .i64 p.args) := by rw [cell_in G1.out]; rfl
  have m2 : V.cell? ⟨w1.heap.size, 2, none⟩ = some (.int .i64 tk) := by rw [cell_in G2.out]; rfl
  have fz4 := frozen_in HV.out.top 4
  have hPB : B ≤ w.heap.size := hB
  have hSB : w.heap.size < w1.heap.size := by have := lt_of_heap Q2.out; exact this
  have hxV := lt_of_heap HV.out.top
  have hx1 : x ≠ w.heap.size := by have := lt_of_heap HH.out.top; omega
  have hx2 : x ≠ w1.heap.size := by have := lt_of_heap HH.out.top; omega
  clear hV F1 Q1 Q2 F2 HSH b0 b1 b2 b3 b4 b5 c0
  have HPf : Hid (w.heap.size ∉ foot x (some ⟨gd, 0, none⟩) pc) := fun hm => by have := HH.out.footL _ hm; omega
  have HSf : Hid (w1.heap.size ∉ foot x (some ⟨gd, 0, none⟩) pc) := fun hm => by have := HH.out.footL _ hm; omega
  have m0 : V.cell? ⟨w1.heap.size, 0, none⟩ = some (.int .i64 kd) := by rw [cell_in G2.out]; rfl
  have m3 : V.cell? ⟨w1.heap.size, 3, none⟩ = some (.int .i64 on) := by rw [cell_in G2.out]; rfl
  have m4 : V.cell? ⟨w1.heap.size, 4, none⟩ = some (.int .i64 jp) := by rw [cell_in G2.out]; rfl
  have l0 : V.cell? ⟨w.heap.size, 0, none⟩ = some (.int .i64 p.op) := by rw [cell_in G1.out]; rfl
  have l1 : V.cell? ⟨w.heap.size, 1, none⟩ = some (.int .i64 p.body) := by rw [cell_in G1.out]; rfl
  have l3 : V.cell? ⟨w.heap.size, 3, none⟩ = some (.int .i64 p.fin) := by rw [cell_in G1.out]; rfl
  have l4 : V.cell? ⟨w.heap.size, 4, none⟩ = some (.int .i64 p.nxt) := by rw [cell_in G1.out]; rfl
  have l5 : V.cell? ⟨w.heap.size, 5, none⟩ = some (.int .i64 p.to) := by rw [cell_in G1.out]; rfl
  go_quiet (fail)
  by_cases hr : d - (tk : Int) - (p.args : Int) < 0
  · have r1 : d - (tk : Int) - (p.args : Int) < 0 := hr
    have HL2 : Hid (leaveP pls s at_ = tailP pls { s with uneven := true } p 0) := by
      show leaveP pls s at_ = _
      rw [HL.out, if_pos r1, if_pos r1]
    have dr : decide (d - (tk : Int) - (p.args : Int) < 0) = true := decide_eq_true r1
    have FWW : Hid (FW ((V.drewN nq).setCell ⟨x, 4, none⟩ (.bool true)) B x pls (some ⟨gp, 0, none⟩) (some ⟨gd, 0, none⟩) { s with uneven := true } pc cc) := ((HV.out.idle hBV (Fr.drewN [] V nq)).flag hBV 4 { s with uneven := true } rfl rfl rfl).1
    have HKW : Hid (Kw B w ((V.drewN nq).setCell ⟨x, 4, none⟩ (.bool true))) := ((FV.out.dn nq).kw hB (by simp)).trans ((HV.out.idle hBV (Fr.drewN [] V nq)).flag hBV 4 { s with uneven := true } rfl rfl rfl).2
    have GP : Hid (((V.drewN nq).setCell ⟨x, 4, none⟩ (.bool true)).heap[w.heap.size]? = some (.cells #[.int .i64 p.op, .int .i64 p.body, .int .i64 p.args, .int .i64 p.fin, .int .i64 p.nxt, .int .i64 p.to] 93 (0, 0))) := set_other (w := V.drewN nq) G1.out (Ne.symm hx1) _ _
    have GS : Hid (((V.drewN nq).setCell ⟨x, 4, none⟩ (.bool true)).heap[w1.heap.size]? = some (.cells #[.int .i64 kd, .int .i64 od, .int .i64 tk, .int .i64 on, .int .i64 jp] 99 (0, 0))) := set_other (w := V.drewN nq) G2.out (Ne.symm hx2) _ _
    have hcl1 : ({ s with uneven := true } : Wk).come.length ≤ 100000 := by show s.come.length ≤ 100000; omega
    have hBW : B ≤ ((V.drewN nq).setCell ⟨x, 4, none⟩ (.bool true)).heap.size := Nat.le_trans hB HKW.out.size
    rcases (show kd = 1 ∨ kd = 2 ∨ kd = 4 ∨ kd = 5 ∨ kd = 6 ∨ kd = 7 ∨ (kd = 0 ∨ kd = 3) by omega) with rfl | rfl | rfl | rfl | rfl | rfl | k0
    · have HTl : Hid (leaveP pls s at_ = (goOnP pls ({ s with uneven := true } : Wk) p (on : Int))) := by
        show leaveP pls s at_ = (goOnP pls ({ s with uneven := true } : Wk) p (on : Int))
        rw [HL2.out, HT.out]
        first | rfl | (simp; done) | (simp [Int.zero_add])
      have HGo : Hid (Calls Tryd.prog 67 #[.pointer (some ⟨x, 0, none⟩), .agg #[.int .i64 p.op, .int .i64 p.body, .int .i64 p.args, .int .i64 p.fin, .int .i64 p.nxt, .int .i64 p.to], .int .i64 (on : Int)] ((V.drewN nq).setCell ⟨x, 4, none⟩ (.bool true)) fun e w' => e = .returned (.tuple #[]) ∧ Fr (foot x (some ⟨gd, 0, none⟩) pc) ((V.drewN nq).setCell ⟨x, 4, none⟩ (.bool true)) w' ∧ ∃ pc' cc', FW w' B x pls (some ⟨gp, 0, none⟩) (some ⟨gd, 0, none⟩) (goOnP pls ({ s with uneven := true } : Wk) p (on : Int)) pc' cc' ∧ Nw ((V.drewN nq).setCell ⟨x, 4, none⟩ (.bool true)) pc pc') := goOn_ok FWW.out hBW p (on : Int) hn hcl1
      go_wp2_with (first
          | (go_at_call 67; refine HGo.out.mono ?_; rintro e w5 ⟨rfl, k5, pc5, cc5, h5, n5⟩
             have p5 := (k5.block _ (lt_of_heap GP.out) HPf.out).trans GP.out
             have q5 := (k5.block _ (lt_of_heap GS.out) HSf.out).trans GS.out
             have r0 : w5.cell? ⟨w1.heap.size, 0, none⟩ = some (.int .i64 1) := by rw [cell_in q5]; rfl
             have r4 : w5.cell? ⟨w1.heap.size, 4, none⟩ = some (.int .i64 jp) := by rw [cell_in q5]; rfl
             have t3 : w5.cell? ⟨w.heap.size, 3, none⟩ = some (.int .i64 p.fin) := by rw [cell_in p5]; rfl
             have t5 : w5.cell? ⟨w.heap.size, 5, none⟩ = some (.int .i64 p.to) := by rw [cell_in p5]; rfl
             have hBw5 : B ≤ w5.heap.size := Nat.le_trans hBW k5.size
             have G5 := mkHid h5
             have K5 := mkHid (FWW.out.kw hBW k5)
             clear k5 h5 n5 p5 q5))
      go_end0
      exact ⟨rfl, HKW.out.trans K5.out, _, _, by rw [HTl.out]; exact G5.out⟩
    · have HTl : Hid (leaveP pls s at_ = (meetP (goOnP pls ({ s with uneven := true } : Wk) p (on : Int)) p.fin 0)) := by
        show leaveP pls s at_ = (meetP (goOnP pls ({ s with uneven := true } : Wk) p (on : Int)) p.fin 0)
        rw [HL2.out, HT.out]
        first | rfl | (simp; done) | (simp [Int.zero_add])
      have HGo : Hid (Calls Tryd.prog 67 #[.pointer (some ⟨x, 0, none⟩), .agg #[.int .i64 p.op, .int .i64 p.body, .int .i64 p.args, .int .i64 p.fin, .int .i64 p.nxt, .int .i64 p.to], .int .i64 (on : Int)] ((V.drewN nq).setCell ⟨x, 4, none⟩ (.bool true)) fun e w' => e = .returned (.tuple #[]) ∧ Fr (foot x (some ⟨gd, 0, none⟩) pc) ((V.drewN nq).setCell ⟨x, 4, none⟩ (.bool true)) w' ∧ ∃ pc' cc', FW w' B x pls (some ⟨gp, 0, none⟩) (some ⟨gd, 0, none⟩) (goOnP pls ({ s with uneven := true } : Wk) p (on : Int)) pc' cc' ∧ Nw ((V.drewN nq).setCell ⟨x, 4, none⟩ (.bool true)) pc pc') := goOn_ok FWW.out hBW p (on : Int) hn hcl1
      have HMe : Hid (∀ U pc2 cc2, FW U B x pls (some ⟨gp, 0, none⟩) (some ⟨gd, 0, none⟩) (goOnP pls ({ s with uneven := true } : Wk) p (on : Int)) pc2 cc2 → B ≤ U.heap.size → Calls Tryd.prog 48 #[.pointer (some ⟨x, 0, none⟩), .int .i64 p.fin, .int .i64 0] U fun e w' => e = .returned (.tuple #[]) ∧ Fr (foot x (some ⟨gd, 0, none⟩) pc2) U w' ∧ ∃ pc' cc', FW w' B x pls (some ⟨gp, 0, none⟩) (some ⟨gd, 0, none⟩) (meetP (goOnP pls ({ s with uneven := true } : Wk) p (on : Int)) p.fin 0) pc' cc' ∧ Nw U pc2 pc') := fun U pc2 cc2 hU hBU => meet_ok hU hBU p.fin 0 (hb rfl) (Nat.le_trans (goOn_come _ _ _ _) (by show s.come.length + 1 ≤ 100000; omega))
      go_wp2_with (first
          | (go_at_call 48; refine (HMe.out w5 pc5 cc5 G5.out hBw5).mono ?_; rintro e w6 ⟨rfl, k6, pc6, cc6, h6, n6⟩; have G6 := mkHid h6; have K6 := mkHid (K5.out.trans (G5.out.kw hBw5 k6)); clear h6 k6 n6)
          | (go_at_call 67; refine HGo.out.mono ?_; rintro e w5 ⟨rfl, k5, pc5, cc5, h5, n5⟩
             have p5 := (k5.block _ (lt_of_heap GP.out) HPf.out).trans GP.out
             have q5 := (k5.block _ (lt_of_heap GS.out) HSf.out).trans GS.out
             have r0 : w5.cell? ⟨w1.heap.size, 0, none⟩ = some (.int .i64 2) := by rw [cell_in q5]; rfl
             have r4 : w5.cell? ⟨w1.heap.size, 4, none⟩ = some (.int .i64 jp) := by rw [cell_in q5]; rfl
             have t3 : w5.cell? ⟨w.heap.size, 3, none⟩ = some (.int .i64 p.fin) := by rw [cell_in p5]; rfl
             have t5 : w5.cell? ⟨w.heap.size, 5, none⟩ = some (.int .i64 p.to) := by rw [cell_in p5]; rfl
             have hBw5 : B ≤ w5.heap.size := Nat.le_trans hBW k5.size
             have G5 := mkHid h5
             have K5 := mkHid (FWW.out.kw hBW k5)
             clear k5 h5 n5 p5 q5))
      go_end0
      exact ⟨rfl, HKW.out.trans K6.out, _, _, by rw [HTl.out]; exact G6.out⟩
    · have HTl : Hid (leaveP pls s at_ = (meetP ({ s with uneven := true } : Wk) p.to (jp : Int))) := by
        show leaveP pls s at_ = (meetP ({ s with uneven := true } : Wk) p.to (jp : Int))
        rw [HL2.out, HT.out]
        first | rfl | (simp; done) | (simp [Int.zero_add])
      have HMe : Hid (Calls Tryd.prog 48 #[.pointer (some ⟨x, 0, none⟩), .int .i64 p.to, .int .i64 (jp : Int)] ((V.drewN nq).setCell ⟨x, 4, none⟩ (.bool true)) fun e w' => e = .returned (.tuple #[]) ∧ Fr (foot x (some ⟨gd, 0, none⟩) pc) ((V.drewN nq).setCell ⟨x, 4, none⟩ (.bool true)) w' ∧ ∃ pc' cc', FW w' B x pls (some ⟨gp, 0, none⟩) (some ⟨gd, 0, none⟩) (meetP ({ s with uneven := true } : Wk) p.to (jp : Int)) pc' cc' ∧ Nw ((V.drewN nq).setCell ⟨x, 4, none⟩ (.bool true)) pc pc') := meet_ok FWW.out hBW p.to (jp : Int) (hj (by decide)) hcl1
      go_wp2_with (first
          | (go_at_call 48; refine HMe.out.mono ?_; rintro e w6 ⟨rfl, k6, pc6, cc6, h6, n6⟩; have G6 := mkHid h6; have K6 := mkHid (FWW.out.kw hBW k6); clear h6 k6 n6))
      go_end0
      exact ⟨rfl, HKW.out.trans K6.out, _, _, by rw [HTl.out]; exact G6.out⟩
    · have HTl : Hid (leaveP pls s at_ = (meetP (goOnP pls ({ s with uneven := true } : Wk) p (on : Int)) p.to (jp : Int))) := by
        show leaveP pls s at_ = (meetP (goOnP pls ({ s with uneven := true } : Wk) p (on : Int)) p.to (jp : Int))
        rw [HL2.out, HT.out]
        first | rfl | (simp; done) | (simp [Int.zero_add])
      have HGo : Hid (Calls Tryd.prog 67 #[.pointer (some ⟨x, 0, none⟩), .agg #[.int .i64 p.op, .int .i64 p.body, .int .i64 p.args, .int .i64 p.fin, .int .i64 p.nxt, .int .i64 p.to], .int .i64 (on : Int)] ((V.drewN nq).setCell ⟨x, 4, none⟩ (.bool true)) fun e w' => e = .returned (.tuple #[]) ∧ Fr (foot x (some ⟨gd, 0, none⟩) pc) ((V.drewN nq).setCell ⟨x, 4, none⟩ (.bool true)) w' ∧ ∃ pc' cc', FW w' B x pls (some ⟨gp, 0, none⟩) (some ⟨gd, 0, none⟩) (goOnP pls ({ s with uneven := true } : Wk) p (on : Int)) pc' cc' ∧ Nw ((V.drewN nq).setCell ⟨x, 4, none⟩ (.bool true)) pc pc') := goOn_ok FWW.out hBW p (on : Int) hn hcl1
      have HMe : Hid (∀ U pc2 cc2, FW U B x pls (some ⟨gp, 0, none⟩) (some ⟨gd, 0, none⟩) (goOnP pls ({ s with uneven := true } : Wk) p (on : Int)) pc2 cc2 → B ≤ U.heap.size → Calls Tryd.prog 48 #[.pointer (some ⟨x, 0, none⟩), .int .i64 p.to, .int .i64 (jp : Int)] U fun e w' => e = .returned (.tuple #[]) ∧ Fr (foot x (some ⟨gd, 0, none⟩) pc2) U w' ∧ ∃ pc' cc', FW w' B x pls (some ⟨gp, 0, none⟩) (some ⟨gd, 0, none⟩) (meetP (goOnP pls ({ s with uneven := true } : Wk) p (on : Int)) p.to (jp : Int)) pc' cc' ∧ Nw U pc2 pc') := fun U pc2 cc2 hU hBU => meet_ok hU hBU p.to (jp : Int) (hj (by decide)) (Nat.le_trans (goOn_come _ _ _ _) (by show s.come.length + 1 ≤ 100000; omega))
      go_wp2_with (first
          | (go_at_call 48; refine (HMe.out w5 pc5 cc5 G5.out hBw5).mono ?_; rintro e w6 ⟨rfl, k6, pc6, cc6, h6, n6⟩; have G6 := mkHid h6; have K6 := mkHid (K5.out.trans (G5.out.kw hBw5 k6)); clear h6 k6 n6)
          | (go_at_call 67; refine HGo.out.mono ?_; rintro e w5 ⟨rfl, k5, pc5, cc5, h5, n5⟩
             have p5 := (k5.block _ (lt_of_heap GP.out) HPf.out).trans GP.out
             have q5 := (k5.block _ (lt_of_heap GS.out) HSf.out).trans GS.out
             have r0 : w5.cell? ⟨w1.heap.size, 0, none⟩ = some (.int .i64 5) := by rw [cell_in q5]; rfl
             have r4 : w5.cell? ⟨w1.heap.size, 4, none⟩ = some (.int .i64 jp) := by rw [cell_in q5]; rfl
             have t3 : w5.cell? ⟨w.heap.size, 3, none⟩ = some (.int .i64 p.fin) := by rw [cell_in p5]; rfl
             have t5 : w5.cell? ⟨w.heap.size, 5, none⟩ = some (.int .i64 p.to) := by rw [cell_in p5]; rfl
             have hBw5 : B ≤ w5.heap.size := Nat.le_trans hBW k5.size
             have G5 := mkHid h5
             have K5 := mkHid (FWW.out.kw hBW k5)
             clear k5 h5 n5 p5 q5))
      go_end0
      exact ⟨rfl, HKW.out.trans K6.out, _, _, by rw [HTl.out]; exact G6.out⟩
    · have HTl : Hid (leaveP pls s at_ = (meetP ({ s with uneven := true } : Wk) p.to (jp : Int))) := by
        show leaveP pls s at_ = (meetP ({ s with uneven := true } : Wk) p.to (jp : Int))
        rw [HL2.out, HT.out]
        first | rfl | (simp; done) | (simp [Int.zero_add])
      have HMe : Hid (Calls Tryd.prog 48 #[.pointer (some ⟨x, 0, none⟩), .int .i64 p.to, .int .i64 (jp : Int)] ((V.drewN nq).setCell ⟨x, 4, none⟩ (.bool true)) fun e w' => e = .returned (.tuple #[]) ∧ Fr (foot x (some ⟨gd, 0, none⟩) pc) ((V.drewN nq).setCell ⟨x, 4, none⟩ (.bool true)) w' ∧ ∃ pc' cc', FW w' B x pls (some ⟨gp, 0, none⟩) (some ⟨gd, 0, none⟩) (meetP ({ s with uneven := true } : Wk) p.to (jp : Int)) pc' cc' ∧ Nw ((V.drewN nq).setCell ⟨x, 4, none⟩ (.bool true)) pc pc') := meet_ok FWW.out hBW p.to (jp : Int) (hj (by decide)) hcl1
      go_wp2_with (first
          | (go_at_call 48; refine HMe.out.mono ?_; rintro e w6 ⟨rfl, k6, pc6, cc6, h6, n6⟩; have G6 := mkHid h6; have K6 := mkHid (FWW.out.kw hBW k6); clear h6 k6 n6))
      go_end0
      exact ⟨rfl, HKW.out.trans K6.out, _, _, by rw [HTl.out]; exact G6.out⟩
    · have HTl : Hid (leaveP pls s at_ = (meetP (goOnP pls ({ s with uneven := true } : Wk) p (on : Int)) p.to (jp : Int))) := by
        show leaveP pls s at_ = (meetP (goOnP pls ({ s with uneven := true } : Wk) p (on : Int)) p.to (jp : Int))
        rw [HL2.out, HT.out]
        first | rfl | (simp; done) | (simp [Int.zero_add])
      have HGo : Hid (Calls Tryd.prog 67 #[.pointer (some ⟨x, 0, none⟩), .agg #[.int .i64 p.op, .int .i64 p.body, .int .i64 p.args, .int .i64 p.fin, .int .i64 p.nxt, .int .i64 p.to], .int .i64 (on : Int)] ((V.drewN nq).setCell ⟨x, 4, none⟩ (.bool true)) fun e w' => e = .returned (.tuple #[]) ∧ Fr (foot x (some ⟨gd, 0, none⟩) pc) ((V.drewN nq).setCell ⟨x, 4, none⟩ (.bool true)) w' ∧ ∃ pc' cc', FW w' B x pls (some ⟨gp, 0, none⟩) (some ⟨gd, 0, none⟩) (goOnP pls ({ s with uneven := true } : Wk) p (on : Int)) pc' cc' ∧ Nw ((V.drewN nq).setCell ⟨x, 4, none⟩ (.bool true)) pc pc') := goOn_ok FWW.out hBW p (on : Int) hn hcl1
      have HMe : Hid (∀ U pc2 cc2, FW U B x pls (some ⟨gp, 0, none⟩) (some ⟨gd, 0, none⟩) (goOnP pls ({ s with uneven := true } : Wk) p (on : Int)) pc2 cc2 → B ≤ U.heap.size → Calls Tryd.prog 48 #[.pointer (some ⟨x, 0, none⟩), .int .i64 p.to, .int .i64 (jp : Int)] U fun e w' => e = .returned (.tuple #[]) ∧ Fr (foot x (some ⟨gd, 0, none⟩) pc2) U w' ∧ ∃ pc' cc', FW w' B x pls (some ⟨gp, 0, none⟩) (some ⟨gd, 0, none⟩) (meetP (goOnP pls ({ s with uneven := true } : Wk) p (on : Int)) p.to (jp : Int)) pc' cc' ∧ Nw U pc2 pc') := fun U pc2 cc2 hU hBU => meet_ok hU hBU p.to (jp : Int) (hj (by decide)) (Nat.le_trans (goOn_come _ _ _ _) (by show s.come.length + 1 ≤ 100000; omega))
      go_wp2_with (first
          | (go_at_call 48; refine (HMe.out w5 pc5 cc5 G5.out hBw5).mono ?_; rintro e w6 ⟨rfl, k6, pc6, cc6, h6, n6⟩; have G6 := mkHid h6; have K6 := mkHid (K5.out.trans (G5.out.kw hBw5 k6)); clear h6 k6 n6)
          | (go_at_call 67; refine HGo.out.mono ?_; rintro e w5 ⟨rfl, k5, pc5, cc5, h5, n5⟩
             have p5 := (k5.block _ (lt_of_heap GP.out) HPf.out).trans GP.out
             have q5 := (k5.block _ (lt_of_heap GS.out) HSf.out).trans GS.out
             have r0 : w5.cell? ⟨w1.heap.size, 0, none⟩ = some (.int .i64 7) := by rw [cell_in q5]; rfl
             have r4 : w5.cell? ⟨w1.heap.size, 4, none⟩ = some (.int .i64 jp) := by rw [cell_in q5]; rfl
             have t3 : w5.cell? ⟨w.heap.size, 3, none⟩ = some (.int .i64 p.fin) := by rw [cell_in p5]; rfl
             have t5 : w5.cell? ⟨w.heap.size, 5, none⟩ = some (.int .i64 p.to) := by rw [cell_in p5]; rfl
             have hBw5 : B ≤ w5.heap.size := Nat.le_trans hBW k5.size
             have G5 := mkHid h5
             have K5 := mkHid (FWW.out.kw hBW k5)
             clear k5 h5 n5 p5 q5))
      go_end0
      exact ⟨rfl, HKW.out.trans K6.out, _, _, by rw [HTl.out]; exact G6.out⟩
    · rcases k0 with rfl | rfl
      · have HTl : Hid (leaveP pls s at_ = ({ s with uneven := true } : Wk)) := by
          show leaveP pls s at_ = ({ s with uneven := true } : Wk)
          rw [HL2.out, HT.out]
          first | rfl | (simp; done) | (simp [Int.zero_add])
        go_wp2_with fail
        go_end0
        exact ⟨rfl, HKW.out.trans (Kw.refl _ _), _, _, by rw [HTl.out]; exact FWW.out⟩
      · have HTl : Hid (leaveP pls s at_ = ({ s with uneven := true } : Wk)) := by
          show leaveP pls s at_ = ({ s with uneven := true } : Wk)
          rw [HL2.out, HT.out]
          first | rfl | (simp; done) | (simp [Int.zero_add])
        go_wp2_with fail
        go_end0
        exact ⟨rfl, HKW.out.trans (Kw.refl _ _), _, _, by rw [HTl.out]; exact FWW.out⟩
  · have r1 : ¬ d - (tk : Int) - (p.args : Int) < 0 := hr
    have HL2 : Hid (leaveP pls s at_ = tailP pls s p (d - (tk : Int) - (p.args : Int))) := by
      show leaveP pls s at_ = _
      rw [HL.out, if_neg r1, if_neg r1]
    have dr : decide (d - (tk : Int) - (p.args : Int) < 0) = false := decide_eq_false r1
    have FWW : Hid (FW (V.drewN nq) B x pls (some ⟨gp, 0, none⟩) (some ⟨gd, 0, none⟩) s pc cc) := HV.out.idle hBV (Fr.drewN [] V nq)
    have HKW : Hid (Kw B w (V.drewN nq)) := (FV.out.dn nq).kw hB (by simp)
    have GP : Hid ((V.drewN nq).heap[w.heap.size]? = some (.cells #[.int .i64 p.op, .int .i64 p.body, .int .i64 p.args, .int .i64 p.fin, .int .i64 p.nxt, .int .i64 p.to] 93 (0, 0))) := G1.out
    have GS : Hid ((V.drewN nq).heap[w1.heap.size]? = some (.cells #[.int .i64 kd, .int .i64 od, .int .i64 tk, .int .i64 on, .int .i64 jp] 99 (0, 0))) := G2.out
    have hcl1 : (s : Wk).come.length ≤ 100000 := by show s.come.length ≤ 100000; omega
    have hBW : B ≤ (V.drewN nq).heap.size := Nat.le_trans hB HKW.out.size
    rcases (show kd = 1 ∨ kd = 2 ∨ kd = 4 ∨ kd = 5 ∨ kd = 6 ∨ kd = 7 ∨ (kd = 0 ∨ kd = 3) by omega) with rfl | rfl | rfl | rfl | rfl | rfl | k0
    · have HTl : Hid (leaveP pls s at_ = (goOnP pls (s : Wk) p ((d - (tk : Int) - (p.args : Int)) + (on : Int)))) := by
        show leaveP pls s at_ = (goOnP pls (s : Wk) p ((d - (tk : Int) - (p.args : Int)) + (on : Int)))
        rw [HL2.out, HT.out]
        first | rfl | (simp; done) | (simp [Int.zero_add])
      have HGo : Hid (Calls Tryd.prog 67 #[.pointer (some ⟨x, 0, none⟩), .agg #[.int .i64 p.op, .int .i64 p.body, .int .i64 p.args, .int .i64 p.fin, .int .i64 p.nxt, .int .i64 p.to], .int .i64 ((d - (tk : Int) - (p.args : Int)) + (on : Int))] (V.drewN nq) fun e w' => e = .returned (.tuple #[]) ∧ Fr (foot x (some ⟨gd, 0, none⟩) pc) (V.drewN nq) w' ∧ ∃ pc' cc', FW w' B x pls (some ⟨gp, 0, none⟩) (some ⟨gd, 0, none⟩) (goOnP pls (s : Wk) p ((d - (tk : Int) - (p.args : Int)) + (on : Int))) pc' cc' ∧ Nw (V.drewN nq) pc pc') := goOn_ok FWW.out hBW p ((d - (tk : Int) - (p.args : Int)) + (on : Int)) hn hcl1
      go_wp2_with (first
          | (go_at_call 67; refine HGo.out.mono ?_; rintro e w5 ⟨rfl, k5, pc5, cc5, h5, n5⟩
             have p5 := (k5.block _ (lt_of_heap GP.out) HPf.out).trans GP.out
             have q5 := (k5.block _ (lt_of_heap GS.out) HSf.out).trans GS.out
             have r0 : w5.cell? ⟨w1.heap.size, 0, none⟩ = some (.int .i64 1) := by rw [cell_in q5]; rfl
             have r4 : w5.cell? ⟨w1.heap.size, 4, none⟩ = some (.int .i64 jp) := by rw [cell_in q5]; rfl
             have t3 : w5.cell? ⟨w.heap.size, 3, none⟩ = some (.int .i64 p.fin) := by rw [cell_in p5]; rfl
             have t5 : w5.cell? ⟨w.heap.size, 5, none⟩ = some (.int .i64 p.to) := by rw [cell_in p5]; rfl
             have hBw5 : B ≤ w5.heap.size := Nat.le_trans hBW k5.size
             have G5 := mkHid h5
             have K5 := mkHid (FWW.out.kw hBW k5)
             clear k5 h5 n5 p5 q5))
      go_end0
      exact ⟨rfl, HKW.out.trans K5.out, _, _, by rw [HTl.out]; exact G5.out⟩
    · have HTl : Hid (leaveP pls s at_ = (meetP (goOnP pls (s : Wk) p ((d - (tk : Int) - (p.args : Int)) + (on : Int))) p.fin 0)) := by
        show leaveP pls s at_ = (meetP (goOnP pls (s : Wk) p ((d - (tk : Int) - (p.args : Int)) + (on : Int))) p.fin 0)
        rw [HL2.out, HT.out]
        first | rfl | (simp; done) | (simp [Int.zero_add])
      have HGo : Hid (Calls Tryd.prog 67 #[.pointer (some ⟨x, 0, none⟩), .agg #[.int .i64 p.op, .int .i64 p.body, .int .i64 p.args, .int .i64 p.fin, .int .i64 p.nxt, .int .i64 p.to], .int .i64 ((d - (tk : Int) - (p.args : Int)) + (on : Int))] (V.drewN nq) fun e w' => e = .returned (.tuple #[]) ∧ Fr (foot x (some ⟨gd, 0, none⟩) pc) (V.drewN nq) w' ∧ ∃ pc' cc', FW w' B x pls (some ⟨gp, 0, none⟩) (some ⟨gd, 0, none⟩) (goOnP pls (s : Wk) p ((d - (tk : Int) - (p.args : Int)) + (on : Int))) pc' cc' ∧ Nw (V.drewN nq) pc pc') := goOn_ok FWW.out hBW p ((d - (tk : Int) - (p.args : Int)) + (on : Int)) hn hcl1
      have HMe : Hid (∀ U pc2 cc2, FW U B x pls (some ⟨gp, 0, none⟩) (some ⟨gd, 0, none⟩) (goOnP pls (s : Wk) p ((d - (tk : Int) - (p.args : Int)) + (on : Int))) pc2 cc2 → B ≤ U.heap.size → Calls Tryd.prog 48 #[.pointer (some ⟨x, 0, none⟩), .int .i64 p.fin, .int .i64 0] U fun e w' => e = .returned (.tuple #[]) ∧ Fr (foot x (some ⟨gd, 0, none⟩) pc2) U w' ∧ ∃ pc' cc', FW w' B x pls (some ⟨gp, 0, none⟩) (some ⟨gd, 0, none⟩) (meetP (goOnP pls (s : Wk) p ((d - (tk : Int) - (p.args : Int)) + (on : Int))) p.fin 0) pc' cc' ∧ Nw U pc2 pc') := fun U pc2 cc2 hU hBU => meet_ok hU hBU p.fin 0 (hb rfl) (Nat.le_trans (goOn_come _ _ _ _) (by show s.come.length + 1 ≤ 100000; omega))
      go_wp2_with (first
          | (go_at_call 48; refine (HMe.out w5 pc5 cc5 G5.out hBw5).mono ?_; rintro e w6 ⟨rfl, k6, pc6, cc6, h6, n6⟩; have G6 := mkHid h6; have K6 := mkHid (K5.out.trans (G5.out.kw hBw5 k6)); clear h6 k6 n6)
          | (go_at_call 67; refine HGo.out.mono ?_; rintro e w5 ⟨rfl, k5, pc5, cc5, h5, n5⟩
             have p5 := (k5.block _ (lt_of_heap GP.out) HPf.out).trans GP.out
             have q5 := (k5.block _ (lt_of_heap GS.out) HSf.out).trans GS.out
             have r0 : w5.cell? ⟨w1.heap.size, 0, none⟩ = some (.int .i64 2) := by rw [cell_in q5]; rfl
             have r4 : w5.cell? ⟨w1.heap.size, 4, none⟩ = some (.int .i64 jp) := by rw [cell_in q5]; rfl
             have t3 : w5.cell? ⟨w.heap.size, 3, none⟩ = some (.int .i64 p.fin) := by rw [cell_in p5]; rfl
             have t5 : w5.cell? ⟨w.heap.size, 5, none⟩ = some (.int .i64 p.to) := by rw [cell_in p5]; rfl
             have hBw5 : B ≤ w5.heap.size := Nat.le_trans hBW k5.size
             have G5 := mkHid h5
             have K5 := mkHid (FWW.out.kw hBW k5)
             clear k5 h5 n5 p5 q5))
      go_end0
      exact ⟨rfl, HKW.out.trans K6.out, _, _, by rw [HTl.out]; exact G6.out⟩
    · have HTl : Hid (leaveP pls s at_ = (meetP (s : Wk) p.to ((d - (tk : Int) - (p.args : Int)) + (jp : Int)))) := by
        show leaveP pls s at_ = (meetP (s : Wk) p.to ((d - (tk : Int) - (p.args : Int)) + (jp : Int)))
        rw [HL2.out, HT.out]
        first | rfl | (simp; done) | (simp [Int.zero_add])
      have HMe : Hid (Calls Tryd.prog 48 #[.pointer (some ⟨x, 0, none⟩), .int .i64 p.to, .int .i64 ((d - (tk : Int) - (p.args : Int)) + (jp : Int))] (V.drewN nq) fun e w' => e = .returned (.tuple #[]) ∧ Fr (foot x (some ⟨gd, 0, none⟩) pc) (V.drewN nq) w' ∧ ∃ pc' cc', FW w' B x pls (some ⟨gp, 0, none⟩) (some ⟨gd, 0, none⟩) (meetP (s : Wk) p.to ((d - (tk : Int) - (p.args : Int)) + (jp : Int))) pc' cc' ∧ Nw (V.drewN nq) pc pc') := meet_ok FWW.out hBW p.to ((d - (tk : Int) - (p.args : Int)) + (jp : Int)) (hj (by decide)) hcl1
      go_wp2_with (first
          | (go_at_call 48; refine HMe.out.mono ?_; rintro e w6 ⟨rfl, k6, pc6, cc6, h6, n6⟩; have G6 := mkHid h6; have K6 := mkHid (FWW.out.kw hBW k6); clear h6 k6 n6))
      go_end0
      exact ⟨rfl, HKW.out.trans K6.out, _, _, by rw [HTl.out]; exact G6.out⟩
    · have HTl : Hid (leaveP pls s at_ = (meetP (goOnP pls (s : Wk) p ((d - (tk : Int) - (p.args : Int)) + (on : Int))) p.to ((d - (tk : Int) - (p.args : Int)) + (jp : Int)))) := by
        show leaveP pls s at_ = (meetP (goOnP pls (s : Wk) p ((d - (tk : Int) - (p.args : Int)) + (on : Int))) p.to ((d - (tk : Int) - (p.args : Int)) + (jp : Int)))
        rw [HL2.out, HT.out]
        first | rfl | (simp; done) | (simp [Int.zero_add])
      have HGo : Hid (Calls Tryd.prog 67 #[.pointer (some ⟨x, 0, none⟩), .agg #[.int .i64 p.op, .int .i64 p.body, .int .i64 p.args, .int .i64 p.fin, .int .i64 p.nxt, .int .i64 p.to], .int .i64 ((d - (tk : Int) - (p.args : Int)) + (on : Int))] (V.drewN nq) fun e w' => e = .returned (.tuple #[]) ∧ Fr (foot x (some ⟨gd, 0, none⟩) pc) (V.drewN nq) w' ∧ ∃ pc' cc', FW w' B x pls (some ⟨gp, 0, none⟩) (some ⟨gd, 0, none⟩) (goOnP pls (s : Wk) p ((d - (tk : Int) - (p.args : Int)) + (on : Int))) pc' cc' ∧ Nw (V.drewN nq) pc pc') := goOn_ok FWW.out hBW p ((d - (tk : Int) - (p.args : Int)) + (on : Int)) hn hcl1
      have HMe : Hid (∀ U pc2 cc2, FW U B x pls (some ⟨gp, 0, none⟩) (some ⟨gd, 0, none⟩) (goOnP pls (s : Wk) p ((d - (tk : Int) - (p.args : Int)) + (on : Int))) pc2 cc2 → B ≤ U.heap.size → Calls Tryd.prog 48 #[.pointer (some ⟨x, 0, none⟩), .int .i64 p.to, .int .i64 ((d - (tk : Int) - (p.args : Int)) + (jp : Int))] U fun e w' => e = .returned (.tuple #[]) ∧ Fr (foot x (some ⟨gd, 0, none⟩) pc2) U w' ∧ ∃ pc' cc', FW w' B x pls (some ⟨gp, 0, none⟩) (some ⟨gd, 0, none⟩) (meetP (goOnP pls (s : Wk) p ((d - (tk : Int) - (p.args : Int)) + (on : Int))) p.to ((d - (tk : Int) - (p.args : Int)) + (jp : Int))) pc' cc' ∧ Nw U pc2 pc') := fun U pc2 cc2 hU hBU => meet_ok hU hBU p.to ((d - (tk : Int) - (p.args : Int)) + (jp : Int)) (hj (by decide)) (Nat.le_trans (goOn_come _ _ _ _) (by show s.come.length + 1 ≤ 100000; omega))
      go_wp2_with (first
          | (go_at_call 48; refine (HMe.out w5 pc5 cc5 G5.out hBw5).mono ?_; rintro e w6 ⟨rfl, k6, pc6, cc6, h6, n6⟩; have G6 := mkHid h6; have K6 := mkHid (K5.out.trans (G5.out.kw hBw5 k6)); clear h6 k6 n6)
          | (go_at_call 67; refine HGo.out.mono ?_; rintro e w5 ⟨rfl, k5, pc5, cc5, h5, n5⟩
             have p5 := (k5.block _ (lt_of_heap GP.out) HPf.out).trans GP.out
             have q5 := (k5.block _ (lt_of_heap GS.out) HSf.out).trans GS.out
             have r0 : w5.cell? ⟨w1.heap.size, 0, none⟩ = some (.int .i64 5) := by rw [cell_in q5]; rfl
             have r4 : w5.cell? ⟨w1.heap.size, 4, none⟩ = some (.int .i64 jp) := by rw [cell_in q5]; rfl
             have t3 : w5.cell? ⟨w.heap.size, 3, none⟩ = some (.int .i64 p.fin) := by rw [cell_in p5]; rfl
             have t5 : w5.cell? ⟨w.heap.size, 5, none⟩ = some (.int .i64 p.to) := by rw [cell_in p5]; rfl
             have hBw5 : B ≤ w5.heap.size := Nat.le_trans hBW k5.size
             have G5 := mkHid h5
             have K5 := mkHid (FWW.out.kw hBW k5)
             clear k5 h5 n5 p5 q5))
      go_end0
      exact ⟨rfl, HKW.out.trans K6.out, _, _, by rw [HTl.out]; exact G6.out⟩
    · have HTl : Hid (leaveP pls s at_ = (meetP (s : Wk) p.to ((d - (tk : Int) - (p.args : Int)) + (jp : Int)))) := by
        show leaveP pls s at_ = (meetP (s : Wk) p.to ((d - (tk : Int) - (p.args : Int)) + (jp : Int)))
        rw [HL2.out, HT.out]
        first | rfl | (simp; done) | (simp [Int.zero_add])
      have HMe : Hid (Calls Tryd.prog 48 #[.pointer (some ⟨x, 0, none⟩), .int .i64 p.to, .int .i64 ((d - (tk : Int) - (p.args : Int)) + (jp : Int))] (V.drewN nq) fun e w' => e = .returned (.tuple #[]) ∧ Fr (foot x (some ⟨gd, 0, none⟩) pc) (V.drewN nq) w' ∧ ∃ pc' cc', FW w' B x pls (some ⟨gp, 0, none⟩) (some ⟨gd, 0, none⟩) (meetP (s : Wk) p.to ((d - (tk : Int) - (p.args : Int)) + (jp : Int))) pc' cc' ∧ Nw (V.drewN nq) pc pc') := meet_ok FWW.out hBW p.to ((d - (tk : Int) - (p.args : Int)) + (jp : Int)) (hj (by decide)) hcl1
      go_wp2_with (first
          | (go_at_call 48; refine HMe.out.mono ?_; rintro e w6 ⟨rfl, k6, pc6, cc6, h6, n6⟩; have G6 := mkHid h6; have K6 := mkHid (FWW.out.kw hBW k6); clear h6 k6 n6))
      go_end0
      exact ⟨rfl, HKW.out.trans K6.out, _, _, by rw [HTl.out]; exact G6.out⟩
    · have HTl : Hid (leaveP pls s at_ = (meetP (goOnP pls (s : Wk) p ((d - (tk : Int) - (p.args : Int)) + (on : Int))) p.to ((d - (tk : Int) - (p.args : Int)) + (jp : Int)))) := by
        show leaveP pls s at_ = (meetP (goOnP pls (s : Wk) p ((d - (tk : Int) - (p.args : Int)) + (on : Int))) p.to ((d - (tk : Int) - (p.args : Int)) + (jp : Int)))
        rw [HL2.out, HT.out]
        first | rfl | (simp; done) | (simp [Int.zero_add])
      have HGo : Hid (Calls Tryd.prog 67 #[.pointer (some ⟨x, 0, none⟩), .agg #[.int .i64 p.op, .int .i64 p.body, .int .i64 p.args, .int .i64 p.fin, .int .i64 p.nxt, .int .i64 p.to], .int .i64 ((d - (tk : Int) - (p.args : Int)) + (on : Int))] (V.drewN nq) fun e w' => e = .returned (.tuple #[]) ∧ Fr (foot x (some ⟨gd, 0, none⟩) pc) (V.drewN nq) w' ∧ ∃ pc' cc', FW w' B x pls (some ⟨gp, 0, none⟩) (some ⟨gd, 0, none⟩) (goOnP pls (s : Wk) p ((d - (tk : Int) - (p.args : Int)) + (on : Int))) pc' cc' ∧ Nw (V.drewN nq) pc pc') := goOn_ok FWW.out hBW p ((d - (tk : Int) - (p.args : Int)) + (on : Int)) hn hcl1
      have HMe : Hid (∀ U pc2 cc2, FW U B x pls (some ⟨gp, 0, none⟩) (some ⟨gd, 0, none⟩) (goOnP pls (s : Wk) p ((d - (tk : Int) - (p.args : Int)) + (on : Int))) pc2 cc2 → B ≤ U.heap.size → Calls Tryd.prog 48 #[.pointer (some ⟨x, 0, none⟩), .int .i64 p.to, .int .i64 ((d - (tk : Int) - (p.args : Int)) + (jp : Int))] U fun e w' => e = .returned (.tuple #[]) ∧ Fr (foot x (some ⟨gd, 0, none⟩) pc2) U w' ∧ ∃ pc' cc', FW w' B x pls (some ⟨gp, 0, none⟩) (some ⟨gd, 0, none⟩) (meetP (goOnP pls (s : Wk) p ((d - (tk : Int) - (p.args : Int)) + (on : Int))) p.to ((d - (tk : Int) - (p.args : Int)) + (jp : Int))) pc' cc' ∧ Nw U pc2 pc') := fun U pc2 cc2 hU hBU => meet_ok hU hBU p.to ((d - (tk : Int) - (p.args : Int)) + (jp : Int)) (hj (by decide)) (Nat.le_trans (goOn_come _ _ _ _) (by show s.come.length + 1 ≤ 100000; omega))
      go_wp2_with (first
          | (go_at_call 48; refine (HMe.out w5 pc5 cc5 G5.out hBw5).mono ?_; rintro e w6 ⟨rfl, k6, pc6, cc6, h6, n6⟩; have G6 := mkHid h6; have K6 := mkHid (K5.out.trans (G5.out.kw hBw5 k6)); clear h6 k6 n6)
          | (go_at_call 67; refine HGo.out.mono ?_; rintro e w5 ⟨rfl, k5, pc5, cc5, h5, n5⟩
             have p5 := (k5.block _ (lt_of_heap GP.out) HPf.out).trans GP.out
             have q5 := (k5.block _ (lt_of_heap GS.out) HSf.out).trans GS.out
             have r0 : w5.cell? ⟨w1.heap.size, 0, none⟩ = some (.int .i64 7) := by rw [cell_in q5]; rfl
             have r4 : w5.cell? ⟨w1.heap.size, 4, none⟩ = some (.int .i64 jp) := by rw [cell_in q5]; rfl
             have t3 : w5.cell? ⟨w.heap.size, 3, none⟩ = some (.int .i64 p.fin) := by rw [cell_in p5]; rfl
             have t5 : w5.cell? ⟨w.heap.size, 5, none⟩ = some (.int .i64 p.to) := by rw [cell_in p5]; rfl
             have hBw5 : B ≤ w5.heap.size := Nat.le_trans hBW k5.size
             have G5 := mkHid h5
             have K5 := mkHid (FWW.out.kw hBW k5)
             clear k5 h5 n5 p5 q5))
      go_end0
      exact ⟨rfl, HKW.out.trans K6.out, _, _, by rw [HTl.out]; exact G6.out⟩
    · rcases k0 with rfl | rfl
      · have HTl : Hid (leaveP pls s at_ = (s : Wk)) := by
          show leaveP pls s at_ = (s : Wk)
          rw [HL2.out, HT.out]
          first | rfl | (simp; done) | (simp [Int.zero_add])
        go_wp2_with fail
        go_end0
        exact ⟨rfl, HKW.out.trans (Kw.refl _ _), _, _, by rw [HTl.out]; exact FWW.out⟩
      · have HTl : Hid (leaveP pls s at_ = (s : Wk)) := by
          show leaveP pls s at_ = (s : Wk)
          rw [HL2.out, HT.out]
          first | rfl | (simp; done) | (simp [Int.zero_add])
        go_wp2_with fail
        go_end0
        exact ⟨rfl, HKW.out.trans (Kw.refl _ _), _, _, by rw [HTl.out]; exact FWW.out⟩
end
end Go.Proofs.YtdflpoldlokijaaDoor
