import Derived.Test.YtblbjgifhgfifaaNG00NPure
namespace Go.Proofs.Ytblbjgifhgfifaa
open Go.RowKit
set_option linter.unusedVariables false
set_option linter.unusedSimpArgs false
theorem letB_iff (n : Nat) : letB n = true ↔ (97 ≤ n ∧ n ≤ 122) ∨ (65 ≤ n ∧ n ≤ 90) := by simp [letB]
theorem alnB_iff (n : Nat) : alnB n = true ↔ ((97 ≤ n ∧ n ≤ 122) ∨ (65 ≤ n ∧ n ≤ 90)) ∨ (48 ≤ n ∧ n ≤ 57) := by simp [alnB, letB]
theorem rLetter_ok (n : Nat) (w : World) : Calls Try.prog 46 #[.int .u8 n] w fun e w' => e = .returned (.bool (letB n)) ∧ w' = w := by
  go_enter Try.func46, Try.ntmps46
  go_wp2
  all_goals (go_ret; exact ⟨congrArg (fun b => Ending.returned (Value.bool b)) (by rw [Bool.eq_iff_iff, letB_iff]; simp <;> omega), rfl⟩)
set_option maxHeartbeats 1000000 in
set_option maxRecDepth 20000 in
theorem rPlain_ok (s : ByteArray) (w : World) : Calls Try.prog 27 #[.string s] w fun e w' => e = .returned (.bool (plainB s)) ∧ w' = w := by
  by_cases h1 : 1 ≤ s.size
  rotate_left
  · have hp : plainB s = false := by simp [plainB, h1]
    have h2 : (s.size : Int) < 1 := by omega
    rw [hp]
    go_enter Try.func27, Try.ntmps27
    go_wp2
    go_ret
    exact ⟨rfl, rfl⟩
  by_cases h3 : s.size ≤ 32
  rotate_left
  · have hp : plainB s = false := by simp [plainB, h3]
    have h2 : ¬ (s.size : Int) < 1 := by omega
    have h4 : (32 : Int) < (s.size : Int) := by omega
    rw [hp]
    go_enter Try.func27, Try.ntmps27
    go_wp2
    go_ret
    exact ⟨rfl, rfl⟩
  have h2 : ¬ (s.size : Int) < 1 := by omega
  have h4 : ¬ (32 : Int) < (s.size : Int) := by omega
  have h0 : 0 < s.size := by omega
  have h0i : (0 : Int) < (s.size : Int) := by omega
  have L0 := rLetter_ok (s[0]'h0).toNat
  have e0 := bAt_eq h0
  cases hb : letB (bAt s 0) with
  | false =>
    have hp : plainB s = false := by simp [plainB, hb]
    rw [hp]
    rw [← e0, hb] at L0
    rw [e0] at L0
    go_enter Try.func27, Try.ntmps27
    go_wp2_with (go_at_call 46; refine (L0 _).mono ?_; rintro e w1 ⟨rfl, rfl⟩)
    go_ret
    exact ⟨rfl, rfl⟩
  | true =>
    have HP : Hid (plainB s = (List.range s.size).all (fun i => alnB (bAt s i))) := mkHid (by unfold plainB; rw [hb]; simp [h1, h3])
    rw [← e0, hb] at L0
    rw [e0] at L0
    clear hb
    go_enter Try.func27, Try.ntmps27
    go_wp2_with (go_at_call 46; refine (L0 _).mono ?_; rintro e w1 ⟨rfl, rfl⟩)
    go_loopw [3] (fun q wr => ∃ i : Nat, i ≤ s.size ∧ q = .int .i64 i ∧ wr = w1 ∧ Hid (∀ j, j < i → alnB (bAt s j) = true)) (fun q _ => s.size - (intOf q).toNat)
    case atStart => exact ⟨0, by omega, rfl, rfl, mkHid (fun j h => by omega)⟩
    case round =>
      obtain ⟨i, hi, rfl, rfl, hj⟩ := hrel
      by_cases hlt : i < s.size
      · have hil : (i : Int) < (s.size : Int) := by omega
        have i0 : (0 : Int) ≤ (i : Int) := by omega
        have e1 := bAt_eq hlt
        have L1 := rLetter_ok (s[i]'hlt).toNat
        have HN : Hid (alnB (bAt s i) = true → ∀ j, j < i + 1 → alnB (bAt s j) = true) := fun h j hj1 => by
          by_cases hji : j < i
          · exact hj.out j hji
          · have : j = i := by omega
            subst this; exact h
        have HB : Hid (alnB (bAt s i) = false → plainB s = false) := fun h => by
          rw [HP.out, Bool.eq_false_iff]
          intro ha
          rw [List.all_eq_true] at ha
          rw [ha i (List.mem_range.2 hlt)] at h
          cases h
        have ha : alnB (bAt s i) = (letB (bAt s i) || (decide (48 ≤ bAt s i) && decide (bAt s i ≤ 57))) := rfl
        cases hb : letB (bAt s i) with
        | true =>
          have HN2 := mkHid (HN.out (by rw [ha, hb]; rfl))
          rw [← e1, hb] at L1
          rw [e1] at L1
          clear hb HB HN ha e1 L0 e0
          go_wp2_with (go_at_call 46; refine (L1 _).mono ?_; rintro e w1 ⟨rfl, rfl⟩)
          go_roundw
          case rel => exact ⟨i + 1, by omega, by go_num, by simp, HN2⟩
          case measure => simp [intOf]; omega
        | false =>
          rw [← e1, hb] at L1
          rw [e1] at L1
          by_cases hd : 48 ≤ bAt s i ∧ bAt s i ≤ 57
          · have HN2 := mkHid (HN.out (by rw [ha, hb]; simp [hd.1, hd.2]))
            have d1 : ¬ ((s[i]'hlt).toNat : Int) < 48 := by rw [← e1]; omega
            have d2 : ¬ (57 : Int) < ((s[i]'hlt).toNat : Int) := by rw [← e1]; omega
            clear hb HB HN ha e1 L0 e0 hd
            go_wp2_with (go_at_call 46; refine (L1 _).mono ?_; rintro e w1 ⟨rfl, rfl⟩)
            go_roundw
            case rel => exact ⟨i + 1, by omega, by go_num, by simp, HN2⟩
            case measure => simp [intOf]; omega
          · have HB2 := mkHid (HB.out (by rw [ha, hb]; simp; omega))
            have d1 : ((s[i]'hlt).toNat : Int) < 48 ∨ (57 : Int) < ((s[i]'hlt).toNat : Int) := by rw [← e1]; omega
            clear hb HB HN ha e1 L0 e0 hd
            rcases d1 with d1 | d1
            · go_wp2_with (go_at_call 46; refine (L1 _).mono ?_; rintro e w1 ⟨rfl, rfl⟩)
              go_ret
              exact ⟨by rw [HB2.out]; rfl, rfl⟩
            · have d2 : ¬ ((s[i]'hlt).toNat : Int) < 48 := by omega
              go_wp2_with (go_at_call 46; refine (L1 _).mono ?_; rintro e w1 ⟨rfl, rfl⟩)
              go_ret
              exact ⟨by rw [HB2.out]; rfl, rfl⟩
      · have hie : i = s.size := by omega
        subst hie
        have HE : Hid (plainB s = true) := by
          rw [HP.out, List.all_eq_true]
          intro j hj1
          exact hj.out j (List.mem_range.1 hj1)
        clear L0 e0
        go_wp2_with fail
        go_ret
        exact ⟨by rw [HE.out]; rfl, rfl⟩
theorem ne_lit (s c : ByteArray) (L : List UInt8) (hL : c.data.toList = L) : decide (s ≠ c) = !(s.toList == L) := by
  have := tl_eq s c
  rw [toList_data c, hL] at this
  rw [this]
  by_cases e : s = c <;> simp [e]
theorem plainB_size {s : ByteArray} (h : plainB s = true) : 0 < s.size := by
  unfold plainB at h
  simp only [Bool.and_eq_true, decide_eq_true_eq] at h
  omega
set_option maxHeartbeats 1000000 in
set_option maxRecDepth 20000 in
theorem rClass_ok (s : ByteArray) (w : World) : Calls Try.prog 10 #[.string s] w fun e w' => e = .returned (.bool (classB s)) ∧ w' = w := by
  have HP := rPlain_ok s w
  cases hp : plainB s with
  | false =>
    have hc : classB s = false := by simp [classB, hp]
    rw [hp] at HP
    rw [hc]
    go_enter Try.func10, Try.ntmps10
    go_wp2_with (go_at_call 27; refine HP.mono ?_; rintro e w1 ⟨rfl, rfl⟩)
    go_ret
    exact ⟨rfl, rfl⟩
  | true =>
    have h0 := plainB_size hp
    have hc : classB s = decide ((s[0]'h0).toNat ≤ 90) := by simp [classB, hp, bAt_eq h0]
    rw [hp] at HP
    rw [hc]
    have h0i : (0 : Int) < (s.size : Int) := by omega
    go_enter Try.func10, Try.ntmps10
    go_wp2_with (go_at_call 27; refine HP.mono ?_; rintro e w1 ⟨rfl, rfl⟩)
    all_goals (go_ret; exact ⟨congrArg (fun b => Ending.returned (Value.bool b)) (by rw [Bool.eq_iff_iff]; simp <;> omega), rfl⟩)
set_option maxHeartbeats 1000000 in
set_option maxRecDepth 20000 in
theorem rField_ok (s : ByteArray) (w : World) : Calls Try.prog 8 #[.string s] w fun e w' => e = .returned (.bool (fieldB s)) ∧ w' = w := by
  have HP := rPlain_ok s w
  cases hp : plainB s with
  | false =>
    have hc : fieldB s = false := by simp [fieldB, hp]
    rw [hp] at HP
    rw [hc]
    go_enter Try.func8, Try.ntmps8
    go_wp2_with (go_at_call 27; refine HP.mono ?_; rintro e w1 ⟨rfl, rfl⟩)
    go_ret
    exact ⟨rfl, rfl⟩
  | true =>
    have h0 := plainB_size hp
    rw [hp] at HP
    have h0i : (0 : Int) < (s.size : Int) := by omega
    have e0 := bAt_eq h0
    by_cases ha : 97 ≤ bAt s 0
    rotate_left
    · have hc : fieldB s = false := by simp [fieldB, ha]
      rw [hc]
      have hb : ¬ (97 : Int) ≤ ((s[0]'h0).toNat : Int) := by rw [← e0]; omega
      clear ha e0
      go_enter Try.func8, Try.ntmps8
      go_wp2_with (go_at_call 27; refine HP.mono ?_; rintro e w1 ⟨rfl, rfl⟩)
      go_ret
      exact ⟨rfl, rfl⟩
    have hb : (97 : Int) ≤ ((s[0]'h0).toNat : Int) := by rw [← e0]; omega
    have hc : fieldB s = (decide (s ≠ sSelf) && decide (s ≠ sSuper) && decide (s ≠ sNil) && decide (s ≠ sTrue) && decide (s ≠ sFalse)) := by simp [fieldB, hp, ha]
    rw [hc, ne_lit s sSelf [115, 101, 108, 102] rfl, ne_lit s sSuper [115, 117, 112, 101, 114] rfl, ne_lit s sNil [110, 105, 108] rfl, ne_lit s sTrue [116, 114, 117, 101] rfl, ne_lit s sFalse [102, 97, 108, 115, 101] rfl]
    clear hc ha e0 hp
    go_enter Try.func8, Try.ntmps8
    go_wp2_with (go_at_call 27; refine HP.mono ?_; rintro e w1 ⟨rfl, rfl⟩)
    all_goals (go_ret; exact ⟨congrArg (fun b => Ending.returned (Value.bool b)) (by simp_all), rfl⟩)
end Go.Proofs.Ytblbjgifhgfifaa
