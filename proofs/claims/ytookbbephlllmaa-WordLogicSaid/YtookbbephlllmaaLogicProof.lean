import Derived.Test.YtookbbephlllmaaRows
import Derived.Test.YtookbbephlllmaaLogicMath
import Derived.WalkKit
import Derived.ProofKit
import Derived.OpenShut
namespace Go.Proofs.Ytookbbephlllmaa.wordLogic
open Go.ChangeShapes Go.WideShapes Go.ChangeAt Go.RowKit
set_option linter.unusedVariables false      -- a walk need not use every 'w<i>' (that an integer argument fits its kind)

theorem own : ownKnob Try.prog.godebug = none := by kernel_rfl

set_option maxRecDepth 100000 in
set_option maxHeartbeats 4000000 in
theorem walk (a0 : Int) (a1 : Int) (a2 : Int) (w0 : (Lit.int .i64 a0).wf = true) (w1 : (Lit.int .i64 a1).wf = true) (w2 : (Lit.int .i64 a2).wf = true) (w : World) :
    Calls Try.prog 5 #[.int .i64 a0, .int .i64 a1, .int .i64 a2] w fun e w' => e = .returned (.bool true) ∧ Grown w w' := by
  have ⟨x0, x1⟩ := bounds_i64 w0
  have ⟨y0, y1⟩ := bounds_i64 w1
  have ⟨z0, z1⟩ := bounds_i64 w2
  clear w0 w1 w2
  go_enter Try.func5, Try.ntmps5
  go_wp2_with fail
  refine (ranged_any _ _ x0 x1).mono ?_
  rintro e w' ⟨⟨a, rfl, ha0, ha1⟩, rfl⟩
  go_wp2_with fail
  refine (ranged_any _ _ y0 y1).mono ?_
  rintro e w' ⟨⟨b, rfl, hb0, hb1⟩, rfl⟩
  clear x0 x1 y0 y1
  have hs := bits_sums a b ha0 ha1 hb0 hb1
  have hx := xor_back a b ha0 ha1
  have ⟨p0, p1⟩ := and_range a b ha0 ha1 hb0 hb1
  have ⟨q0, q1⟩ := xor_range a b ha0 ha1 hb0 hb1
  have ⟨s0, s1⟩ := or_range a b ha0 ha1 hb0 hb1
  have HX : Hid (bits .xor .i64 (bits .xor .i64 a b) b = a) := hx
  have HS : Hid (bits .and .i64 a b + bits .xor .i64 a b = bits .or .i64 a b ∧ 2 * bits .and .i64 a b + bits .xor .i64 a b = a + b) := hs
  clear hx hs
  go_wp2_with fail
  refine (and_in _ _ _ ha0 ha1 hb0 hb1).mono ?_
  rintro e w' ⟨rfl, rfl⟩
  go_wp2_with fail
  refine (xor_in _ _ _ ha0 ha1 hb0 hb1).mono ?_
  rintro e w' ⟨rfl, rfl⟩
  go_wp2_with fail
  refine (or_in _ _ _ ha0 ha1 hb0 hb1).mono ?_
  rintro e w' ⟨rfl, rfl⟩
  go_wp2_with fail
  refine (xor_in _ _ _ q0 q1 hb0 hb1).mono ?_
  rintro e w' ⟨rfl, rfl⟩
  rw [HX.out]
  generalize bits .and .i64 a b = p at *
  generalize bits .xor .i64 a b = q at *
  generalize bits .or .i64 a b = s at *
  have t1 : (wr (2 * p + q) != wr (a + b)) = false := by rw [HS.out.2]; simp
  have t2 : (p + q != s) = false := by simpa using HS.out.1
  clear HX HS
  go_wp2_with (first
    | (go_at_call 11; refine (num_any _ _ (by omega) (by omega)).mono ?_; rintro e w' ⟨rfl, rfl⟩)
    | (go_at_call 12; refine (wrap_any _ _).mono ?_; rintro e w' ⟨rfl, rfl⟩))
  refine (clipped_any _ _ _ _ z0 z1 (by omega) (by omega) (by omega)).mono ?_
  rintro e w' ⟨⟨n, rfl, hn0, hn1⟩, rfl⟩
  clear z0 z1 t1 t2
  go_wp2_with fail
  have ⟨d0, d1⟩ := shn_range a n ha0 ha1
  refine (shift_dn _ _ _ ha0 ha1 hn0 hn1).mono ?_
  rintro e w' ⟨rfl, rfl⟩
  go_wp2_with fail
  refine (shift_up _ _ _ d0 d1 hn0 (by omega)).mono ?_
  rintro e w' ⟨rfl, rfl⟩
  go_wp2_with fail
  refine (shift_up _ _ _ (by omega) (by omega) hn0 (by omega)).mono ?_
  rintro e w' ⟨rfl, rfl⟩
  by_cases hn : 30 < n
  · by_cases ha : a < 0
    · rw [great_neg a n ha0 ha hn, great_up _ n hn, great_up _ n hn]
      clear d0 d1 p0 p1 q0 q1 s0 s1
      go_wp2_with (first
        | (go_at_call 11; refine (num_any _ _ (by omega) (by omega)).mono ?_; rintro e w' ⟨rfl, rfl⟩))
      go_ret
      exact ⟨rfl, Grown.refl _⟩
    · rw [great_pos a n (by omega) ha1 hn, great_up _ n hn, great_up _ n hn]
      clear d0 d1 p0 p1 q0 q1 s0 s1
      go_wp2_with (first
        | (go_at_call 11; refine (num_any _ _ (by omega) (by omega)).mono ?_; rintro e w' ⟨rfl, rfl⟩))
      go_ret
      exact ⟨ret_bool (by simp; omega), Grown.refl _⟩
  · have ⟨e0, e1⟩ := shu_range 1 n
    have ⟨f0, f1⟩ := shu_range (shn a n) n
    have hpb := pow_bd n.toNat (by omega)
    have m0 := Int.emod_nonneg a (b := 2 ^ n.toNat) (by omega)
    have m1 : a % 2 ^ n.toNat < 1073741824 := by
      have := Int.emod_lt_of_pos a (b := 2 ^ n.toNat) (by omega)
      omega
    have l1 := small_low a n hn0 (by omega)
    have l2 := small_back a n ha0 ha1 hn0 (by omega)
    have l3 := small_times a n hn0 (by omega)
    clear hpb d0 d1 p0 p1 q0 q1 s0 s1
    generalize a % 2 ^ n.toNat = m at *
    generalize shu (shn a n) n = u at *
    generalize shn a n = d at *
    generalize shu 1 n = pw at *
    have hfin : (wr (u + m) == a) = true := by simpa using l2
    have L1 : Hid (bits .and .i64 a (wr (pw - 1)) = m) := l1
    have L3 : Hid (wr (a * pw) = shu a n) := l3
    clear l1 l2 l3
    go_wp2_with (first
      | (go_at_call 11; refine (num_any _ _ (by omega) (by omega)).mono ?_; rintro e w' ⟨rfl, rfl⟩)
      | (go_at_call 12; refine (wrap_any _ _).mono ?_; rintro e w' ⟨rfl, rfl⟩))
    refine (and_in _ _ _ ha0 ha1 (wr_lo _) (wr_hi _)).mono ?_
    rintro e w' ⟨rfl, rfl⟩
    rw [L1.out]
    go_wp2_with fail
    refine (mul_in _ _ _ ha0 ha1 e0 e1).mono ?_
    rintro e w' ⟨rfl, rfl⟩
    rw [L3.out]
    go_wp2_with fail
    refine (shift_up _ _ _ ha0 ha1 hn0 (by omega)).mono ?_
    rintro e w' ⟨rfl, rfl⟩
    clear L1 L3
    generalize shu a n = h at *
    go_wp2_with (first
      | (go_at_call 11; refine (num_any _ _ (by omega) (by omega)).mono ?_; rintro e w' ⟨rfl, rfl⟩)
      | (go_at_call 12; refine (wrap_any _ _).mono ?_; rintro e w' ⟨rfl, rfl⟩))
    go_ret
    exact ⟨rfl, Grown.refl _⟩

/-! ### THE ROW's STEP: WRITTEN OUT: LEAVE IT -/
set_option maxRecDepth 100000 in
theorem lifted (os : Os) (started : os.Started) (H : Type) (enc : TypeId × Value → H) :
    ReturnsInHanded {} Try.checked os 5 .any (Rows.wordLogicSpec.pre6 enc Try.prog Try.f5 Rows.wordLogicRow.domain false) (Rows.wordLogicSpec.post enc Try.prog Try.f5 false true false false) := by
  refine returnsInHanded_of_change (C := Try.checked) own started (by kernel_rfl) Try.func5
    (ChangeSpec.witness6 (enc := enc) (C := Try.checked) false ⟨#[], #[.int .i64 0, .int .i64 0, .int .i64 0], []⟩ 8 (by kernel_rfl) (by kernel_rfl) (by kernel_rfl) (by kernel_rfl)) ?_
  intro W base args ds gs before hval0 hW hcnd _
  have hval : ∀ (j : Nat) t v, Try.f5.params[j]? = some t → args[j]? = some v → Value.okWide Try.prog W .any base t v := hval0
  have hW' := hW
  obtain ⟨p, q, hA0, hV, rfl, hfz, hnd⟩ := hW
  have hA : DataW.TrodAll enc Try.prog W 0 (fun _ => true) true Try.f5.params.toList args.toList ds p := hA0
  rw [Try.params5] at hA hval
  obtain ⟨v0, vs0, d0, ds0, p0, q0, hargs, rfl, rfl, h0, r0⟩ := trodAll_cons hA
  obtain ⟨v1, vs1, d1, ds1, p1, q1, rfl, rfl, rfl, h1, r1⟩ := trodAll_cons r0
  obtain ⟨v2, vs2, d2, ds2, p2, q2, rfl, rfl, rfl, h2, r2⟩ := trodAll_cons r1
  obtain ⟨rfl, rfl, rfl⟩ := trodAll_nil r2
  obtain rfl : args = #[v0, v1, v2] := by cases args; simp_all
  obtain ⟨rfl, rfl⟩ := trodVars_none hV
  obtain ⟨a0, rfl, rfl, rfl, w0⟩ := open_int Try.underlying3 (hval 0 3 v0 rfl rfl) h0
  obtain ⟨a1, rfl, rfl, rfl, w1⟩ := open_int Try.underlying3 (hval 1 3 v1 rfl rfl) h1
  obtain ⟨a2, rfl, rfl, rfl, w2⟩ := open_int Try.underlying3 (hval 2 3 v2 rfl rfl) h2
  clear hA0 hval0
  simp only [List.append_nil] at hW'
  refine (walk a0 a1 a2 w0 w1 w2 W).mono fun e W' ⟨he, hg⟩ => ?_
  subst he
  exact ⟨_, rfl, post_of_same (pa := []) (pv := []) hW' (fun _ _ _ => (trodAll_cons_mk (shut_bool Try.underlying4 _) trodAll_mk0)) (fun sp _ => (trodAll_cons_mk (shut_int Try.underlying3 w0) (trodAll_cons_mk (shut_int Try.underlying3 w1) (trodAll_cons_mk (shut_int Try.underlying3 w2) trodAll_mk0)))) (fun _ _ => rfl) rfl
    (hg.frame _) hg.2.1 (ok_one (by kernel_rfl) rfl (okWide_bool_mk Try.underlying4 _))⟩

theorem over : Rows.wordLogicRow.holds Try.pinned (OpenSpec.ofChange Rows.wordLogicSpec) :=
  OpenClaim.holds_of_wide 5 Try.f5 rfl rfl rfl rfl rfl rfl rfl ⟨rfl, rfl, rfl, rfl, rfl⟩ rfl rfl rfl rfl rfl (by kernel_rfl) Try.func5 (by kernel_rfl)
    (of_decide_eq_true (by kernel_rfl)) (by unfold Func.isWrapper; first | (rw [if_pos (by decide +kernel)]; kernel_rfl) | (rw [if_neg (by decide +kernel)]; exact ⟨rfl, rfl⟩))
    (fun os started H enc _ => lifted os started H enc)

/-- ████ THE STATEMENT ████ -/
theorem proved : Rows.WordLogicSaid :=
  over
#print axioms proved
end Go.Proofs.Ytookbbephlllmaa.wordLogic
namespace Go.Proofs.Ytookbbephlllmaa
theorem wordLogic_holds : Rows.WordLogicSaid := wordLogic.proved
end Go.Proofs.Ytookbbephlllmaa
