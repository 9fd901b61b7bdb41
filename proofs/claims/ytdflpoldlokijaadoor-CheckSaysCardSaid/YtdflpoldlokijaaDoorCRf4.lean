import Derived.Test.YtdflpoldlokijaaDoorCRf1
namespace Go.Proofs.YtdflpoldlokijaaDoor
open Go.RowKit
set_option linter.unusedVariables false
set_option linter.unusedSimpArgs false
attribute [local go_sem ↓] Go.wp_at_zero Go.wp_at_succ
/-- what the document says of a code's head -/
def headR (C : Cx) (h : Hd) : Int := if 4096 < C.ws.length ∨ 64 < C.lits then 73 else if scopeB h.args h.temps = false ∨ inR h.stack 0 256 = false then 111 else 0
section
variable {w : World} {B x : Nat} {F : WFx}
set_option maxRecDepth 100000 in
set_option maxHeartbeats 4000000 in
theorem heads_ok (h : WR w B x F [] none 0 [] none 0 0 0) (hn : F.C.ws.length ≤ 17592186043904) (hl : F.C.lits ≤ 2513169434916) : Calls Tryd.prog 35 #[.pointer (some ⟨x, 0, none⟩)] w fun e w' => e = .returned (.tuple #[]) ∧ Fr [x] w w' ∧ WR w' B x F [] none 0 [] none 0 0 (headR F.C F.h) := by
  have c0 : w.cell? ⟨x, 0, none⟩ = some (.int .i64 F.h.args) := h.cell 0
  have c1 : w.cell? ⟨x, 1, none⟩ = some (.int .i64 F.h.temps) := h.cell 1
  have c2 : w.cell? ⟨x, 2, none⟩ = some (.int .i64 F.h.stack) := h.cell 2
  have c3 : w.cell? ⟨x, 3, none⟩ = some (.slice F.lp F.C.lits F.lc) := h.cell 3
  have c4 : w.cell? ⟨x, 4, none⟩ = some (.slice F.pw F.C.ws.length F.cw) := h.cell 4
  have HAl : Hid (∀ V, Fr [] w V → WR V B x F [] none 0 [] none 0 0 0) := fun V hV => h.idle hV
  have HFl : Hid (∀ (V : World) (e : Int), WR V B x F [] none 0 [] none 0 0 0 → Calls Tryd.prog 53 #[.pointer (some ⟨x, 0, none⟩), .int .i64 e] V fun en w' => en = .returned (.tuple #[]) ∧ Fr [x] V w' ∧ WR w' B x F [] none 0 [] none 0 0 e) := fun V e hV => fails_ok hV e
  have HFn : Hid (∀ (V : World) (e er : Int), er ≠ 0 → WR V B x F [] none 0 [] none 0 0 er → Calls Tryd.prog 53 #[.pointer (some ⟨x, 0, none⟩), .int .i64 e] V fun en w' => en = .returned (.tuple #[]) ∧ w' = V) := fun V e er he hV => fails_no hV he e
  have hxw := lt_of_heap h.top
  have HLc : Hid (∀ V, Fr [x] (w.alloc (.cells #[.int .i64 F.h.args, .int .i64 F.h.temps, .int .i64 F.h.stack, .slice F.lp F.C.lits F.lc, .slice F.pw F.C.ws.length F.cw] 25)) V → V.cell? ⟨w.heap.size, 0, none⟩ = some (.int .i64 F.h.args) ∧ V.cell? ⟨w.heap.size, 1, none⟩ = some (.int .i64 F.h.temps) ∧ V.cell? ⟨w.heap.size, 2, none⟩ = some (.int .i64 F.h.stack)) := fun V hV => by
    have h0 := heap_alloc_new w (.cells #[.int .i64 F.h.args, .int .i64 F.h.temps, .int .i64 F.h.stack, .slice F.lp F.C.lits F.lc, .slice F.pw F.C.ws.length F.cw] 25)
    have hb := (hV.block _ (lt_of_heap h0) (by simp; omega)).trans h0
    exact ⟨cell_in hb 0, cell_in hb 1, cell_in hb 2⟩
  obtain ⟨E, hE⟩ : ∃ E, headR F.C F.h = E := ⟨_, rfl⟩
  rw [hE]
  have HE := mkHid hE
  clear h hE

  by_cases k1 : 4096 < F.C.ws.length ∨ 64 < F.C.lits
  · by_cases k2 : 4096 < F.C.ws.length
    · have d1 : (4096 : Int) < (F.C.ws.length : Int) := by omega
      by_cases m0 : F.h.args < 0
      · skip
        have HEe : Hid (E = 73) := by show E = _; rw [← HE.out]; unfold headR; rw [if_pos k1]
        clear HE k1
        generalize F.C.ws.length = nn at *
        generalize F.C.lits = ll at *
        go_enter Tryd.func35, Tryd.ntmps35
        go_wp2_with (first
          | (go_at_call 53; refine (HFl.out _ 73 (HAl.out _ (Fr.alloc [] w _))).mono ?_; rintro e w6 ⟨rfl, f6, k6⟩; obtain ⟨b0, b1, b2⟩ := HLc.out w6 f6; have F6 := mkHid ((Fr.alloc [x] w _).trans f6 (fun b hb => .inl hb)); have K6 := mkHid k6; clear f6 k6 HFl)
          | (go_at_call 53; refine (HFn.out _ 111 73 (by decide) K6.out).mono ?_; rintro e w' ⟨rfl, hw'⟩; rw [hw']; clear hw' w'))
        go_end0
        exact ⟨rfl, F6.out, by rw [HEe.out]; exact K6.out⟩
      have e0 : decide (F.h.args < 0) = false := decide_eq_false m0
      by_cases m1 : 8 < F.h.args
      · skip
        have HEe : Hid (E = 73) := by show E = _; rw [← HE.out]; unfold headR; rw [if_pos k1]
        clear HE k1
        generalize F.C.ws.length = nn at *
        generalize F.C.lits = ll at *
        go_enter Tryd.func35, Tryd.ntmps35
        go_wp2_with (first
          | (go_at_call 53; refine (HFl.out _ 73 (HAl.out _ (Fr.alloc [] w _))).mono ?_; rintro e w6 ⟨rfl, f6, k6⟩; obtain ⟨b0, b1, b2⟩ := HLc.out w6 f6; have F6 := mkHid ((Fr.alloc [x] w _).trans f6 (fun b hb => .inl hb)); have K6 := mkHid k6; clear f6 k6 HFl)
          | (go_at_call 53; refine (HFn.out _ 111 73 (by decide) K6.out).mono ?_; rintro e w' ⟨rfl, hw'⟩; rw [hw']; clear hw' w'))
        go_end0
        exact ⟨rfl, F6.out, by rw [HEe.out]; exact K6.out⟩
      have e1 : decide (8 < F.h.args) = false := decide_eq_false m1
      by_cases m2 : F.h.temps < F.h.args
      · skip
        have HEe : Hid (E = 73) := by show E = _; rw [← HE.out]; unfold headR; rw [if_pos k1]
        clear HE k1
        generalize F.C.ws.length = nn at *
        generalize F.C.lits = ll at *
        go_enter Tryd.func35, Tryd.ntmps35
        go_wp2_with (first
          | (go_at_call 53; refine (HFl.out _ 73 (HAl.out _ (Fr.alloc [] w _))).mono ?_; rintro e w6 ⟨rfl, f6, k6⟩; obtain ⟨b0, b1, b2⟩ := HLc.out w6 f6; have F6 := mkHid ((Fr.alloc [x] w _).trans f6 (fun b hb => .inl hb)); have K6 := mkHid k6; clear f6 k6 HFl)
          | (go_at_call 53; refine (HFn.out _ 111 73 (by decide) K6.out).mono ?_; rintro e w' ⟨rfl, hw'⟩; rw [hw']; clear hw' w'))
        go_end0
        exact ⟨rfl, F6.out, by rw [HEe.out]; exact K6.out⟩
      have e2 : decide (F.h.temps < F.h.args) = false := decide_eq_false m2
      by_cases m3 : 32 < F.h.temps
      · skip
        have HEe : Hid (E = 73) := by show E = _; rw [← HE.out]; unfold headR; rw [if_pos k1]
        clear HE k1
        generalize F.C.ws.length = nn at *
        generalize F.C.lits = ll at *
        go_enter Tryd.func35, Tryd.ntmps35
        go_wp2_with (first
          | (go_at_call 53; refine (HFl.out _ 73 (HAl.out _ (Fr.alloc [] w _))).mono ?_; rintro e w6 ⟨rfl, f6, k6⟩; obtain ⟨b0, b1, b2⟩ := HLc.out w6 f6; have F6 := mkHid ((Fr.alloc [x] w _).trans f6 (fun b hb => .inl hb)); have K6 := mkHid k6; clear f6 k6 HFl)
          | (go_at_call 53; refine (HFn.out _ 111 73 (by decide) K6.out).mono ?_; rintro e w' ⟨rfl, hw'⟩; rw [hw']; clear hw' w'))
        go_end0
        exact ⟨rfl, F6.out, by rw [HEe.out]; exact K6.out⟩
      have e3 : decide (32 < F.h.temps) = false := decide_eq_false m3
      by_cases m4 : F.h.stack < 0
      · skip
        have HEe : Hid (E = 73) := by show E = _; rw [← HE.out]; unfold headR; rw [if_pos k1]
        clear HE k1
        generalize F.C.ws.length = nn at *
        generalize F.C.lits = ll at *
        go_enter Tryd.func35, Tryd.ntmps35
        go_wp2_with (first
          | (go_at_call 53; refine (HFl.out _ 73 (HAl.out _ (Fr.alloc [] w _))).mono ?_; rintro e w6 ⟨rfl, f6, k6⟩; obtain ⟨b0, b1, b2⟩ := HLc.out w6 f6; have F6 := mkHid ((Fr.alloc [x] w _).trans f6 (fun b hb => .inl hb)); have K6 := mkHid k6; clear f6 k6 HFl)
          | (go_at_call 53; refine (HFn.out _ 111 73 (by decide) K6.out).mono ?_; rintro e w' ⟨rfl, hw'⟩; rw [hw']; clear hw' w'))
        go_end0
        exact ⟨rfl, F6.out, by rw [HEe.out]; exact K6.out⟩
      have e4 : decide (F.h.stack < 0) = false := decide_eq_false m4
      by_cases m5 : 256 < F.h.stack
      · skip
        have HEe : Hid (E = 73) := by show E = _; rw [← HE.out]; unfold headR; rw [if_pos k1]
        clear HE k1
        generalize F.C.ws.length = nn at *
        generalize F.C.lits = ll at *
        go_enter Tryd.func35, Tryd.ntmps35
        go_wp2_with (first
          | (go_at_call 53; refine (HFl.out _ 73 (HAl.out _ (Fr.alloc [] w _))).mono ?_; rintro e w6 ⟨rfl, f6, k6⟩; obtain ⟨b0, b1, b2⟩ := HLc.out w6 f6; have F6 := mkHid ((Fr.alloc [x] w _).trans f6 (fun b hb => .inl hb)); have K6 := mkHid k6; clear f6 k6 HFl)
          | (go_at_call 53; refine (HFn.out _ 111 73 (by decide) K6.out).mono ?_; rintro e w' ⟨rfl, hw'⟩; rw [hw']; clear hw' w'))
        go_end0
        exact ⟨rfl, F6.out, by rw [HEe.out]; exact K6.out⟩
      have e5 : decide (256 < F.h.stack) = false := decide_eq_false m5
      have HEe : Hid (E = 73) := by show E = _; rw [← HE.out]; unfold headR; rw [if_pos k1]
      clear HE k1
      generalize F.C.ws.length = nn at *
      generalize F.C.lits = ll at *
      go_enter Tryd.func35, Tryd.ntmps35
      go_wp2_with (first
        | (go_at_call 53; refine (HFl.out _ 73 (HAl.out _ (Fr.alloc [] w _))).mono ?_; rintro e w6 ⟨rfl, f6, k6⟩; obtain ⟨b0, b1, b2⟩ := HLc.out w6 f6; have F6 := mkHid ((Fr.alloc [x] w _).trans f6 (fun b hb => .inl hb)); have K6 := mkHid k6; clear f6 k6 HFl)
        | (go_at_call 53; refine (HFn.out _ 111 73 (by decide) K6.out).mono ?_; rintro e w' ⟨rfl, hw'⟩; rw [hw']; clear hw' w'))
      go_end0
      exact ⟨rfl, F6.out, by rw [HEe.out]; exact K6.out⟩
    · have d1 : decide ((4096 : Int) < (F.C.ws.length : Int)) = false := decide_eq_false (by omega)
      have d2 : (64 : Int) < (F.C.lits : Int) := by omega
      by_cases m0 : F.h.args < 0
      · skip
        have HEe : Hid (E = 73) := by show E = _; rw [← HE.out]; unfold headR; rw [if_pos k1]
        clear HE k1
        generalize F.C.ws.length = nn at *
        generalize F.C.lits = ll at *
        go_enter Tryd.func35, Tryd.ntmps35
        go_wp2_with (first
          | (go_at_call 53; refine (HFl.out _ 73 (HAl.out _ (Fr.alloc [] w _))).mono ?_; rintro e w6 ⟨rfl, f6, k6⟩; obtain ⟨b0, b1, b2⟩ := HLc.out w6 f6; have F6 := mkHid ((Fr.alloc [x] w _).trans f6 (fun b hb => .inl hb)); have K6 := mkHid k6; clear f6 k6 HFl)
          | (go_at_call 53; refine (HFn.out _ 111 73 (by decide) K6.out).mono ?_; rintro e w' ⟨rfl, hw'⟩; rw [hw']; clear hw' w'))
        go_end0
        exact ⟨rfl, F6.out, by rw [HEe.out]; exact K6.out⟩
      have e0 : decide (F.h.args < 0) = false := decide_eq_false m0
      by_cases m1 : 8 < F.h.args
      · skip
        have HEe : Hid (E = 73) := by show E = _; rw [← HE.out]; unfold headR; rw [if_pos k1]
        clear HE k1
        generalize F.C.ws.length = nn at *
        generalize F.C.lits = ll at *
        go_enter Tryd.func35, Tryd.ntmps35
        go_wp2_with (first
          | (go_at_call 53; refine (HFl.out _ 73 (HAl.out _ (Fr.alloc [] w _))).mono ?_; rintro e w6 ⟨rfl, f6, k6⟩; obtain ⟨b0, b1, b2⟩ := HLc.out w6 f6; have F6 := mkHid ((Fr.alloc [x] w _).trans f6 (fun b hb => .inl hb)); have K6 := mkHid k6; clear f6 k6 HFl)
          | (go_at_call 53; refine (HFn.out _ 111 73 (by decide) K6.out).mono ?_; rintro e w' ⟨rfl, hw'⟩; rw [hw']; clear hw' w'))
        go_end0
        exact ⟨rfl, F6.out, by rw [HEe.out]; exact K6.out⟩
      have e1 : decide (8 < F.h.args) = false := decide_eq_false m1
      by_cases m2 : F.h.temps < F.h.args
      · skip
        have HEe : Hid (E = 73) := by show E = _; rw [← HE.out]; unfold headR; rw [if_pos k1]
        clear HE k1
        generalize F.C.ws.length = nn at *
        generalize F.C.lits = ll at *
        go_enter Tryd.func35, Tryd.ntmps35
        go_wp2_with (first
          | (go_at_call 53; refine (HFl.out _ 73 (HAl.out _ (Fr.alloc [] w _))).mono ?_; rintro e w6 ⟨rfl, f6, k6⟩; obtain ⟨b0, b1, b2⟩ := HLc.out w6 f6; have F6 := mkHid ((Fr.alloc [x] w _).trans f6 (fun b hb => .inl hb)); have K6 := mkHid k6; clear f6 k6 HFl)
          | (go_at_call 53; refine (HFn.out _ 111 73 (by decide) K6.out).mono ?_; rintro e w' ⟨rfl, hw'⟩; rw [hw']; clear hw' w'))
        go_end0
        exact ⟨rfl, F6.out, by rw [HEe.out]; exact K6.out⟩
      have e2 : decide (F.h.temps < F.h.args) = false := decide_eq_false m2
      by_cases m3 : 32 < F.h.temps
      · skip
        have HEe : Hid (E = 73) := by show E = _; rw [← HE.out]; unfold headR; rw [if_pos k1]
        clear HE k1
        generalize F.C.ws.length = nn at *
        generalize F.C.lits = ll at *
        go_enter Tryd.func35, Tryd.ntmps35
        go_wp2_with (first
          | (go_at_call 53; refine (HFl.out _ 73 (HAl.out _ (Fr.alloc [] w _))).mono ?_; rintro e w6 ⟨rfl, f6, k6⟩; obtain ⟨b0, b1, b2⟩ := HLc.out w6 f6; have F6 := mkHid ((Fr.alloc [x] w _).trans f6 (fun b hb => .inl hb)); have K6 := mkHid k6; clear f6 k6 HFl)
          | (go_at_call 53; refine (HFn.out _ 111 73 (by decide) K6.out).mono ?_; rintro e w' ⟨rfl, hw'⟩; rw [hw']; clear hw' w'))
        go_end0
        exact ⟨rfl, F6.out, by rw [HEe.out]; exact K6.out⟩
      have e3 : decide (32 < F.h.temps) = false := decide_eq_false m3
      by_cases m4 : F.h.stack < 0
      · skip
        have HEe : Hid (E = 73) := by show E = _; rw [← HE.out]; unfold headR; rw [if_pos k1]
        clear HE k1
        generalize F.C.ws.length = nn at *
        generalize F.C.lits = ll at *
        go_enter Tryd.func35, Tryd.ntmps35
        go_wp2_with (first
          | (go_at_call 53; refine (HFl.out _ 73 (HAl.out _ (Fr.alloc [] w _))).mono ?_; rintro e w6 ⟨rfl, f6, k6⟩; obtain ⟨b0, b1, b2⟩ := HLc.out w6 f6; have F6 := mkHid ((Fr.alloc [x] w _).trans f6 (fun b hb => .inl hb)); have K6 := mkHid k6; clear f6 k6 HFl)
          | (go_at_call 53; refine (HFn.out _ 111 73 (by decide) K6.out).mono ?_; rintro e w' ⟨rfl, hw'⟩; rw [hw']; clear hw' w'))
        go_end0
        exact ⟨rfl, F6.out, by rw [HEe.out]; exact K6.out⟩
      have e4 : decide (F.h.stack < 0) = false := decide_eq_false m4
      by_cases m5 : 256 < F.h.stack
      · skip
        have HEe : Hid (E = 73) := by show E = _; rw [← HE.out]; unfold headR; rw [if_pos k1]
        clear HE k1
        generalize F.C.ws.length = nn at *
        generalize F.C.lits = ll at *
        go_enter Tryd.func35, Tryd.ntmps35
        go_wp2_with (first
          | (go_at_call 53; refine (HFl.out _ 73 (HAl.out _ (Fr.alloc [] w _))).mono ?_; rintro e w6 ⟨rfl, f6, k6⟩; obtain ⟨b0, b1, b2⟩ := HLc.out w6 f6; have F6 := mkHid ((Fr.alloc [x] w _).trans f6 (fun b hb => .inl hb)); have K6 := mkHid k6; clear f6 k6 HFl)
          | (go_at_call 53; refine (HFn.out _ 111 73 (by decide) K6.out).mono ?_; rintro e w' ⟨rfl, hw'⟩; rw [hw']; clear hw' w'))
        go_end0
        exact ⟨rfl, F6.out, by rw [HEe.out]; exact K6.out⟩
      have e5 : decide (256 < F.h.stack) = false := decide_eq_false m5
      have HEe : Hid (E = 73) := by show E = _; rw [← HE.out]; unfold headR; rw [if_pos k1]
      clear HE k1
      generalize F.C.ws.length = nn at *
      generalize F.C.lits = ll at *
      go_enter Tryd.func35, Tryd.ntmps35
      go_wp2_with (first
        | (go_at_call 53; refine (HFl.out _ 73 (HAl.out _ (Fr.alloc [] w _))).mono ?_; rintro e w6 ⟨rfl, f6, k6⟩; obtain ⟨b0, b1, b2⟩ := HLc.out w6 f6; have F6 := mkHid ((Fr.alloc [x] w _).trans f6 (fun b hb => .inl hb)); have K6 := mkHid k6; clear f6 k6 HFl)
        | (go_at_call 53; refine (HFn.out _ 111 73 (by decide) K6.out).mono ?_; rintro e w' ⟨rfl, hw'⟩; rw [hw']; clear hw' w'))
      go_end0
      exact ⟨rfl, F6.out, by rw [HEe.out]; exact K6.out⟩
  · have d1 : decide ((4096 : Int) < (F.C.ws.length : Int)) = false := decide_eq_false (by omega)
    have d2 : decide ((64 : Int) < (F.C.lits : Int)) = false := decide_eq_false (by omega)
    by_cases m0 : F.h.args < 0
    · skip
      have HEe : Hid (E = 111) := by show E = _; rw [← HE.out]; unfold headR; rw [if_neg k1, if_pos (by simp [scopeB, inR]; omega)]
      clear HE k1
      generalize F.C.ws.length = nn at *
      generalize F.C.lits = ll at *
      go_enter Tryd.func35, Tryd.ntmps35
      go_wp2_with (go_at_call 53; refine (HFl.out _ 111 (HAl.out _ (Fr.alloc [] w _))).mono ?_; rintro e w6 ⟨rfl, f6, k6⟩; have F6 := mkHid ((Fr.alloc [x] w _).trans f6 (fun b hb => .inl hb)); have K6 := mkHid k6; clear f6 k6)
      go_end0
      exact ⟨rfl, F6.out, by rw [HEe.out]; exact K6.out⟩
    have e0 : decide (F.h.args < 0) = false := decide_eq_false m0
    by_cases m1 : 8 < F.h.args
    · skip
      have HEe : Hid (E = 111) := by show E = _; rw [← HE.out]; unfold headR; rw [if_neg k1, if_pos (by simp [scopeB, inR]; omega)]
      clear HE k1
      generalize F.C.ws.length = nn at *
      generalize F.C.lits = ll at *
      go_enter Tryd.func35, Tryd.ntmps35
      go_wp2_with (go_at_call 53; refine (HFl.out _ 111 (HAl.out _ (Fr.alloc [] w _))).mono ?_; rintro e w6 ⟨rfl, f6, k6⟩; have F6 := mkHid ((Fr.alloc [x] w _).trans f6 (fun b hb => .inl hb)); have K6 := mkHid k6; clear f6 k6)
      go_end0
      exact ⟨rfl, F6.out, by rw [HEe.out]; exact K6.out⟩
    have e1 : decide (8 < F.h.args) = false := decide_eq_false m1
    by_cases m2 : F.h.temps < F.h.args
    · skip
      have HEe : Hid (E = 111) := by show E = _; rw [← HE.out]; unfold headR; rw [if_neg k1, if_pos (by simp [scopeB, inR]; omega)]
      clear HE k1
      generalize F.C.ws.length = nn at *
      generalize F.C.lits = ll at *
      go_enter Tryd.func35, Tryd.ntmps35
      go_wp2_with (go_at_call 53; refine (HFl.out _ 111 (HAl.out _ (Fr.alloc [] w _))).mono ?_; rintro e w6 ⟨rfl, f6, k6⟩; have F6 := mkHid ((Fr.alloc [x] w _).trans f6 (fun b hb => .inl hb)); have K6 := mkHid k6; clear f6 k6)
      go_end0
      exact ⟨rfl, F6.out, by rw [HEe.out]; exact K6.out⟩
    have e2 : decide (F.h.temps < F.h.args) = false := decide_eq_false m2
    by_cases m3 : 32 < F.h.temps
    · skip
      have HEe : Hid (E = 111) := by show E = _; rw [← HE.out]; unfold headR; rw [if_neg k1, if_pos (by simp [scopeB, inR]; omega)]
      clear HE k1
      generalize F.C.ws.length = nn at *
      generalize F.C.lits = ll at *
      go_enter Tryd.func35, Tryd.ntmps35
      go_wp2_with (go_at_call 53; refine (HFl.out _ 111 (HAl.out _ (Fr.alloc [] w _))).mono ?_; rintro e w6 ⟨rfl, f6, k6⟩; have F6 := mkHid ((Fr.alloc [x] w _).trans f6 (fun b hb => .inl hb)); have K6 := mkHid k6; clear f6 k6)
      go_end0
      exact ⟨rfl, F6.out, by rw [HEe.out]; exact K6.out⟩
    have e3 : decide (32 < F.h.temps) = false := decide_eq_false m3
    by_cases m4 : F.h.stack < 0
    · skip
      have HEe : Hid (E = 111) := by show E = _; rw [← HE.out]; unfold headR; rw [if_neg k1, if_pos (by simp [scopeB, inR]; omega)]
      clear HE k1
      generalize F.C.ws.length = nn at *
      generalize F.C.lits = ll at *
      go_enter Tryd.func35, Tryd.ntmps35
      go_wp2_with (go_at_call 53; refine (HFl.out _ 111 (HAl.out _ (Fr.alloc [] w _))).mono ?_; rintro e w6 ⟨rfl, f6, k6⟩; have F6 := mkHid ((Fr.alloc [x] w _).trans f6 (fun b hb => .inl hb)); have K6 := mkHid k6; clear f6 k6)
      go_end0
      exact ⟨rfl, F6.out, by rw [HEe.out]; exact K6.out⟩
    have e4 : decide (F.h.stack < 0) = false := decide_eq_false m4
    by_cases m5 : 256 < F.h.stack
    · skip
      have HEe : Hid (E = 111) := by show E = _; rw [← HE.out]; unfold headR; rw [if_neg k1, if_pos (by simp [scopeB, inR]; omega)]
      clear HE k1
      generalize F.C.ws.length = nn at *
      generalize F.C.lits = ll at *
      go_enter Tryd.func35, Tryd.ntmps35
      go_wp2_with (go_at_call 53; refine (HFl.out _ 111 (HAl.out _ (Fr.alloc [] w _))).mono ?_; rintro e w6 ⟨rfl, f6, k6⟩; have F6 := mkHid ((Fr.alloc [x] w _).trans f6 (fun b hb => .inl hb)); have K6 := mkHid k6; clear f6 k6)
      go_end0
      exact ⟨rfl, F6.out, by rw [HEe.out]; exact K6.out⟩
    have e5 : decide (256 < F.h.stack) = false := decide_eq_false m5
    have HEe : Hid (E = 0) := by show E = _; rw [← HE.out]; unfold headR; rw [if_neg k1, if_neg (by simp [scopeB, inR]; omega)]
    clear HE k1
    generalize F.C.ws.length = nn at *
    generalize F.C.lits = ll at *
    go_enter Tryd.func35, Tryd.ntmps35
    go_wp2_with fail
    go_end0
    exact ⟨rfl, Fr.alloc [x] w _, by rw [HEe.out]; exact HAl.out _ (Fr.alloc [] w _)⟩
end
end Go.Proofs.YtdflpoldlokijaaDoor
