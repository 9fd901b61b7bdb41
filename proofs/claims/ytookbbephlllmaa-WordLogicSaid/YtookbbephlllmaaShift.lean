import Derived.Test.YtookbbephlllmaaSums
namespace Go.Proofs.Ytookbbephlllmaa
open Go.RowKit
set_option linter.unusedVariables false
/-- moved up, and down -/
def shu (a s : Int) : Int := wr (a * 2 ^ (min s.toNat 31))
def shd (a s : Int) : Int := a / 2 ^ (min (-s).toNat 31)
theorem shu_small (a s : Int) (h0 : 0 ≤ s) (h1 : s ≤ 31) : wr (wrap64 (a * 2 ^ s.toNat)) = shu a s := by
  rw [wr_w64]; unfold shu; rw [Nat.min_eq_left (by omega)]
theorem shu_great (a s : Int) (h1 : 31 ≤ s) : wr (a * 2147483648) = shu a s := by
  unfold shu; rw [Nat.min_eq_right (by omega)]; rfl
theorem shd_small (a s : Int) (h0 : s < 0) (h1 : -31 ≤ s) : a / 2 ^ (-s).toNat = shd a s := by
  unfold shd; rw [Nat.min_eq_left (by omega)]
theorem shd_great (a s : Int) (h1 : s ≤ -31) : a / 2147483648 = shd a s := by
  unfold shd; rw [Nat.min_eq_right (by omega)]; rfl
theorem pow_step (a : Int) (k : Nat) : wr (2 * wr (a * 2 ^ k)) = wr (a * 2 ^ (k + 1)) := by
  rw [Int.mul_comm 2, wr_mul, Int.pow_succ, Int.mul_assoc]
theorem div_step (a : Int) (k : Nat) : (a / 2 ^ k).fdiv 2 = a / 2 ^ (k + 1) := by
  rw [Int.fdiv_eq_ediv_of_nonneg _ (by omega), Int.ediv_ediv_of_nonneg (Int.pow_nonneg (by omega)), Int.pow_succ]
theorem div_pow_bd (a : Int) (k : Nat) (a0 : -1073741824 ≤ a) (a1 : a ≤ 1073741823) : -1073741824 ≤ a / 2 ^ k ∧ a / 2 ^ k ≤ 1073741823 := by
  induction k with
  | zero => simp; omega
  | succ k ih =>
    rw [← div_step, Int.fdiv_eq_ediv_of_nonneg _ (by omega)]
    generalize a / 2 ^ k = q at *
    omega
set_option maxHeartbeats 400000 in
theorem shift_up (a b : Int) (w : World) (a0 : -1073741824 ≤ a) (a1 : a ≤ 1073741823) (b0 : 0 ≤ b) (b1 : b ≤ 1073741823) :
    Calls Try.prog 20 #[.int .i64 a, .int .i64 b] w fun e w' => e = .returned (.tuple #[.int .i64 (shu a b), .int .i64 0]) ∧ w' = w := by
  by_cases h : b ≤ 31
  · go_enter Try.func20, Try.ntmps20
    go_wp2_with (first | (go_at_call 31; refine (inRange_yes _ _ (by omega) (by omega)).mono ?_; rintro e w' ⟨rfl, rfl⟩) | (go_at_call 31; refine (inRange_no _ _ (by omega)).mono ?_; rintro e w' ⟨rfl, rfl⟩) | (go_at_call 12; refine (wrap_any _ _).mono ?_; rintro e w' ⟨rfl, rfl⟩))
    go_ret2
    exact ⟨ret_int2 (shu_small a b b0 (by omega)), rfl⟩
  · go_enter Try.func20, Try.ntmps20
    go_wp2_with (first | (go_at_call 31; refine (inRange_yes _ _ (by omega) (by omega)).mono ?_; rintro e w' ⟨rfl, rfl⟩) | (go_at_call 31; refine (inRange_no _ _ (by omega)).mono ?_; rintro e w' ⟨rfl, rfl⟩) | (go_at_call 12; refine (wrap_any _ _).mono ?_; rintro e w' ⟨rfl, rfl⟩))
    go_ret2
    exact ⟨ret_int2 (shu_great a b (by omega)), rfl⟩
set_option maxHeartbeats 400000 in
theorem shift_down (a b : Int) (w : World) (a0 : -1073741824 ≤ a) (a1 : a ≤ 1073741823) (b0 : -1073741824 ≤ b) (b1 : b < 0) :
    Calls Try.prog 20 #[.int .i64 a, .int .i64 b] w fun e w' => e = .returned (.tuple #[.int .i64 (shd a b), .int .i64 0]) ∧ w' = w := by
  by_cases h : -31 ≤ b
  · go_enter Try.func20, Try.ntmps20
    go_wp2_with (first | (go_at_call 31; refine (inRange_yes _ _ (by omega) (by omega)).mono ?_; rintro e w' ⟨rfl, rfl⟩) | (go_at_call 31; refine (inRange_no _ _ (by omega)).mono ?_; rintro e w' ⟨rfl, rfl⟩) | (go_at_call 12; refine (wrap_any _ _).mono ?_; rintro e w' ⟨rfl, rfl⟩))
    go_ret2
    exact ⟨ret_int2 (shd_small a b b1 (by omega)), rfl⟩
  · go_enter Try.func20, Try.ntmps20
    go_wp2_with (first | (go_at_call 31; refine (inRange_yes _ _ (by omega) (by omega)).mono ?_; rintro e w' ⟨rfl, rfl⟩) | (go_at_call 31; refine (inRange_no _ _ (by omega)).mono ?_; rintro e w' ⟨rfl, rfl⟩) | (go_at_call 12; refine (wrap_any _ _).mono ?_; rintro e w' ⟨rfl, rfl⟩))
    go_ret2
    exact ⟨ret_int2 (shd_great a b (by omega)), rfl⟩
set_option maxHeartbeats 400000 in
theorem refShift_up (a b : Int) (w : World) (a0 : -1073741824 ≤ a) (a1 : a ≤ 1073741823) (b0 : 0 ≤ b) (b1 : b ≤ 1073741823) :
    Calls Try.prog 24 #[.int .i64 a, .int .i64 b] w fun e w' => e = .returned (.tuple #[.int .i64 (shu a b), .int .i64 0]) ∧ w' = w := by
  go_enter Try.func24, Try.ntmps24
  go_wp2_with (first | (go_at_call 32; refine (refIn_yes _ _ (by omega) (by omega)).mono ?_; rintro e w' ⟨rfl, rfl⟩) | (go_at_call 32; refine (refIn_no _ _ (by omega)).mono ?_; rintro e w' ⟨rfl, rfl⟩) | (go_at_call 34; refine (refWrap_any _ _).mono ?_; rintro e w' ⟨rfl, rfl⟩))
  go_loop [0, 6] (fun t i => ∃ (k : Nat) (v : Int), k ≤ 31 ∧ (k : Int) ≤ b ∧ v = wr (a * 2 ^ k) ∧ i = .int .i64 k ∧ t = .int .i64 v) (fun _ i => 31 - (intOf i).toNat)
  case atStart => exact ⟨0, a, by omega, by omega, by rw [Int.pow_zero, Int.mul_one, wr_of a a0 a1], rfl, rfl⟩
  case round =>
    obtain ⟨k, v, hk, hkb, hv, rfl, rfl⟩ := hrel
    have v0 : -1073741824 ≤ v := by rw [hv]; exact wr_lo _
    have v1 : v ≤ 1073741823 := by rw [hv]; exact wr_hi _
    have HV : Hid (v = wr (a * 2 ^ k)) := hv
    clear hv
    by_cases hlt : (k : Int) < b ∧ k < 31
    · obtain ⟨c0, c1⟩ := hlt
      go_wp2_with (go_at_call 34; refine (refWrap_any _ _).mono ?_; rintro e w' ⟨rfl, rfl⟩)
      go_round
      case rel => exact ⟨k + 1, wr (2 * v), by omega, by omega, by rw [HV.out, pow_step], by go_num, rfl⟩
      case measure => simp [intOf]; omega
    · have hkk : k = min b.toNat 31 := by omega
      have HS : Hid (v = shu a b) := by
        have h := HV.out
        rw [hkk] at h
        exact h
      clear hkk HV
      have hor : b ≤ (k : Int) ∨ ((k : Int) < b ∧ 31 ≤ (k : Int)) := by omega
      clear hlt
      rcases hor with c0 | ⟨c0, c1⟩
      all_goals
        go_wp2_with (go_at_call 34; refine (refWrap_any _ _).mono ?_; rintro e w' ⟨rfl, rfl⟩)
        go_loop [0, 7] (fun t i => i = .int .i64 0 ∧ t = .int .i64 v) (fun _ i => 0)
        case atStart => exact ⟨rfl, rfl⟩
        case round =>
          obtain ⟨rfl, rfl⟩ := hrel
          go_wp2_with (go_at_call 34; refine (refWrap_any _ _).mono ?_; rintro e w' ⟨rfl, rfl⟩)
          go_ret2
          exact ⟨ret_int2 HS.out, rfl⟩
set_option maxHeartbeats 400000 in
theorem refShift_down (a b : Int) (w : World) (a0 : -1073741824 ≤ a) (a1 : a ≤ 1073741823) (b0 : -1073741824 ≤ b) (b1 : b < 0) :
    Calls Try.prog 24 #[.int .i64 a, .int .i64 b] w fun e w' => e = .returned (.tuple #[.int .i64 (shd a b), .int .i64 0]) ∧ w' = w := by
  go_enter Try.func24, Try.ntmps24
  go_wp2_with (first | (go_at_call 32; refine (refIn_yes _ _ (by omega) (by omega)).mono ?_; rintro e w' ⟨rfl, rfl⟩) | (go_at_call 32; refine (refIn_no _ _ (by omega)).mono ?_; rintro e w' ⟨rfl, rfl⟩) | (go_at_call 34; refine (refWrap_any _ _).mono ?_; rintro e w' ⟨rfl, rfl⟩))
  go_loop [0, 6] (fun t i => i = .int .i64 0 ∧ t = .int .i64 a) (fun _ i => 0)
  case atStart => exact ⟨rfl, rfl⟩
  case round =>
    obtain ⟨rfl, rfl⟩ := hrel
    go_wp2_with (go_at_call 34; refine (refWrap_any _ _).mono ?_; rintro e w' ⟨rfl, rfl⟩)
    go_loop [0, 7] (fun t i => ∃ (k : Nat) (v : Int), k ≤ 31 ∧ (k : Int) ≤ -b ∧ v = a / 2 ^ k ∧ i = .int .i64 (-(k : Int)) ∧ t = .int .i64 v) (fun _ i => 31 - (-(intOf i)).toNat)
    case atStart => exact ⟨0, a, by omega, by omega, by simp, rfl, rfl⟩
    case round =>
      obtain ⟨k, v, hk, hkb, hv, rfl, rfl⟩ := hrel
      have v0 : -1073741824 ≤ v := by rw [hv]; exact (div_pow_bd a k a0 a1).1
      have v1 : v ≤ 1073741823 := by rw [hv]; exact (div_pow_bd a k a0 a1).2
      have HV : Hid (v = a / 2 ^ k) := hv
      clear hv
      by_cases hlt : b < -(k : Int) ∧ k < 31
      · obtain ⟨c0, c1⟩ := hlt
        go_wp2_with (go_at_call 35; refine (floored_any _ _ _ v0 v1 (by omega) (by omega) (by omega)).mono ?_; rintro e w' ⟨rfl, rfl⟩)
        go_round
        case rel => exact ⟨k + 1, v.fdiv 2, by omega, by omega, by rw [HV.out, div_step], by go_num, rfl⟩
        case measure => simp [intOf]; omega
      · have hkk : k = min (-b).toNat 31 := by omega
        have HS : Hid (v = shd a b) := by
          have h := HV.out
          rw [hkk] at h
          exact h
        clear hkk HV
        have hor : -(k : Int) ≤ b ∨ (b < -(k : Int) ∧ -(k : Int) ≤ -31) := by omega
        clear hlt
        rcases hor with c0 | ⟨c0, c1⟩
        all_goals
          go_wp2_with (go_at_call 35; refine (floored_any _ _ _ v0 v1 (by omega) (by omega) (by omega)).mono ?_; rintro e w' ⟨rfl, rfl⟩)
          go_ret2
          exact ⟨ret_int2 HS.out, rfl⟩
end Go.Proofs.Ytookbbephlllmaa
