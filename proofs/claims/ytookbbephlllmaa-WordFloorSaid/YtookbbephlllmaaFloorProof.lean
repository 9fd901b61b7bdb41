import Derived.Test.YtookbbephlllmaaRows
import Derived.Test.YtookbbephlllmaaBase
import Derived.WalkKit
import Derived.ProofKit
import Derived.OpenShut
namespace Go.Proofs.Ytookbbephlllmaa.wordFloor
open Go.ChangeShapes Go.WideShapes Go.ChangeAt Go.RowKit
set_option linter.unusedVariables false      -- a walk need not use every 'w<i>' (that an integer argument fits its kind)

theorem own : ownKnob Try.prog.godebug = none := by kernel_rfl

set_option maxHeartbeats 4000000 in
theorem walk (a0 : Int) (a1 : Int) (w0 : (Lit.int .i64 a0).wf = true) (w1 : (Lit.int .i64 a1).wf = true) (w : World) :
    Calls Try.prog 3 #[.int .i64 a0, .int .i64 a1] w fun e w' => e = .returned (.bool true) ∧ Grown w w' := by
  have ⟨x0, x1⟩ := bounds_i64 w0
  have ⟨y0, y1⟩ := bounds_i64 w1
  clear w0 w1
  go_enter Try.func3, Try.ntmps3
  go_wp2_with fail
  refine (ranged_any _ _ x0 x1).mono ?_
  rintro e w' ⟨⟨a, rfl, ha0, ha1⟩, rfl⟩
  go_wp2_with fail
  refine (ranged_any _ _ y0 y1).mono ?_
  rintro e w' ⟨⟨b, rfl, hb0, hb1⟩, rfl⟩
  clear x0 x1 y0 y1
  by_cases hb : b = 0
  · subst hb
    go_wp2_with (first | (go_at_call 9; refine (div_zero _ _ ha0 ha1).mono ?_; rintro e w' ⟨rfl, rfl⟩) | (go_at_call 10; refine (mod_zero _ _ ha0 ha1).mono ?_; rintro e w' ⟨rfl, rfl⟩) | (go_at_call 11; refine (num_any _ _ (by omega) (by omega)).mono ?_; rintro e w' ⟨rfl, rfl⟩))
    go_ret
    exact ⟨rfl, Grown.refl _⟩
  · go_wp2_with fail
    refine (div_in _ _ _ ha0 ha1 hb0 hb1 hb).mono ?_
    rintro e w' ⟨rfl, k, rfl⟩
    go_wp2_with fail
    refine (mod_in _ _ _ ha0 ha1 hb0 hb1 hb).mono ?_
    rintro e w' ⟨rfl, k', rfl⟩
    by_cases hx : a = -1073741824 ∧ b = -1
    · obtain ⟨rfl, rfl⟩ := hx
      have e1 : wr ((-1073741824 : Int).fdiv (-1)) = -1073741824 := by decide
      have e2 : (-1073741824 : Int).fmod (-1) = 0 := by decide
      rw [e1, e2]
      clear e1 e2 ha0 ha1 hb hb0 hb1
      go_wp2_with (first | (go_at_call 11; refine (num_any _ _ (by omega) (by omega)).mono ?_; rintro e w' ⟨rfl, rfl⟩) | (go_at_call 12; refine (wrap_any _ _).mono ?_; rintro e w' ⟨rfl, rfl⟩))
      all_goals go_ret
      all_goals exact ⟨rfl, by repeat (first | exact Grown.refl _ | apply grown_drewN)⟩
    · have q0 := wr_lo (a.fdiv b)
      have q1 := wr_hi (a.fdiv b)
      have fb := floor_back a b ha0 ha1
      have ff : wr (a.fdiv b) * b + a.fmod b = a := by
        have h := fd_range a b ha0 ha1 hb hx
        have h' := fd_eq a b
        rw [wr_of _ h.1 h.2, Int.mul_comm]; exact h'
      have rp := fm_pos a b
      have rn := fm_neg a b
      have mb := mul_bd (wr (a.fdiv b)) b q0 q1 hb0 hb1
      clear hx
      generalize wr (a.fdiv b) = q at *
      generalize a.fmod b = r at *
      obtain ⟨m0, m1⟩ := mb
      have hfb : (wr (q * b + r) == a) = true := by simpa using fb
      have hin : (q * b + r == a) = true := by simpa using ff
      have hsgn : (0 < b ∧ 0 ≤ r ∧ r < b) ∨ (b < 0 ∧ b < r ∧ r ≤ 0) := by
        by_cases c : 0 < b
        · have := rp c; omega
        · have := rn (by omega); omega
      have hbz : (b == 0) = false := by simpa using hb
      clear rp rn fb ff hb
      by_cases hr : r = 0
      · subst hr
        simp only [Int.add_zero] at hfb hin
        rcases hsgn with ⟨s0, s1, s2⟩ | ⟨s0, s1, s2⟩
        all_goals
          go_wp2_with (first | (go_at_call 11; refine (num_any _ _ (by omega) (by omega)).mono ?_; rintro e w' ⟨rfl, rfl⟩) | (go_at_call 12; refine (wrap_any _ _).mono ?_; rintro e w' ⟨rfl, rfl⟩))
          all_goals go_ret
          all_goals exact ⟨rfl, by repeat (first | exact Grown.refl _ | apply grown_drewN)⟩
      · have hrz : (r != 0) = true := by simpa using hr
        have hsgn : (0 < b ∧ 0 < r ∧ r < b) ∨ (b < 0 ∧ b < r ∧ r < 0) := by omega
        clear hr
        rcases hsgn with ⟨s0, s1, s2⟩ | ⟨s0, s1, s2⟩
        all_goals
          go_wp2_with (first | (go_at_call 11; refine (num_any _ _ (by omega) (by omega)).mono ?_; rintro e w' ⟨rfl, rfl⟩) | (go_at_call 12; refine (wrap_any _ _).mono ?_; rintro e w' ⟨rfl, rfl⟩))
          all_goals go_ret
          all_goals exact ⟨rfl, by repeat (first | exact Grown.refl _ | apply grown_drewN)⟩

/-! ### THE ROW's STEP: WRITTEN OUT: LEAVE IT -/
set_option maxRecDepth 100000 in
theorem lifted (os : Os) (started : os.Started) (H : Type) (enc : TypeId × Value → H) :
    ReturnsInHanded {} Try.checked os 3 .any (Rows.wordFloorSpec.pre6 enc Try.prog Try.f3 Rows.wordFloorRow.domain false) (Rows.wordFloorSpec.post enc Try.prog Try.f3 false true false false) := by
  refine returnsInHanded_of_change (C := Try.checked) own started (by kernel_rfl) Try.func3
    (ChangeSpec.witness6 (enc := enc) (C := Try.checked) false ⟨#[], #[.int .i64 0, .int .i64 0], []⟩ 8 (by kernel_rfl) (by kernel_rfl) (by kernel_rfl) (by kernel_rfl)) ?_
  intro W base args ds gs before hval0 hW hcnd _
  have hval : ∀ (j : Nat) t v, Try.f3.params[j]? = some t → args[j]? = some v → Value.okWide Try.prog W .any base t v := hval0
  have hW' := hW
  obtain ⟨p, q, hA0, hV, rfl, hfz, hnd⟩ := hW
  have hA : DataW.TrodAll enc Try.prog W 0 (fun _ => true) true Try.f3.params.toList args.toList ds p := hA0
  rw [Try.params3] at hA hval
  obtain ⟨v0, vs0, d0, ds0, p0, q0, hargs, rfl, rfl, h0, r0⟩ := trodAll_cons hA
  obtain ⟨v1, vs1, d1, ds1, p1, q1, rfl, rfl, rfl, h1, r1⟩ := trodAll_cons r0
  obtain ⟨rfl, rfl, rfl⟩ := trodAll_nil r1
  obtain rfl : args = #[v0, v1] := by cases args; simp_all
  obtain ⟨rfl, rfl⟩ := trodVars_none hV
  obtain ⟨a0, rfl, rfl, rfl, w0⟩ := open_int Try.underlying3 (hval 0 3 v0 rfl rfl) h0
  obtain ⟨a1, rfl, rfl, rfl, w1⟩ := open_int Try.underlying3 (hval 1 3 v1 rfl rfl) h1
  clear hA0 hval0
  simp only [List.append_nil] at hW'
  refine (walk a0 a1 w0 w1 W).mono fun e W' ⟨he, hg⟩ => ?_
  subst he
  exact ⟨_, rfl, post_of_same (pa := []) (pv := []) hW' (fun _ _ _ => (trodAll_cons_mk (shut_bool Try.underlying4 _) trodAll_mk0)) (fun sp _ => (trodAll_cons_mk (shut_int Try.underlying3 w0) (trodAll_cons_mk (shut_int Try.underlying3 w1) trodAll_mk0))) (fun _ _ => rfl) rfl
    (hg.frame _) hg.2.1 (ok_one (by kernel_rfl) rfl (okWide_bool_mk Try.underlying4 _))⟩

theorem over : Rows.wordFloorRow.holds Try.pinned (OpenSpec.ofChange Rows.wordFloorSpec) :=
  OpenClaim.holds_of_wide 3 Try.f3 rfl rfl rfl rfl rfl rfl rfl ⟨rfl, rfl, rfl, rfl, rfl⟩ rfl rfl rfl rfl rfl (by kernel_rfl) Try.func3 (by kernel_rfl)
    (of_decide_eq_true (by kernel_rfl)) (by unfold Func.isWrapper; first | (rw [if_pos (by decide +kernel)]; kernel_rfl) | (rw [if_neg (by decide +kernel)]; exact ⟨rfl, rfl⟩))
    (fun os started H enc _ => lifted os started H enc)

/-- ████ THE STATEMENT ████ -/
theorem proved : Rows.WordFloorSaid :=
  over
#print axioms proved
end Go.Proofs.Ytookbbephlllmaa.wordFloor
namespace Go.Proofs.Ytookbbephlllmaa
theorem wordFloor_holds : Rows.WordFloorSaid := wordFloor.proved
end Go.Proofs.Ytookbbephlllmaa
