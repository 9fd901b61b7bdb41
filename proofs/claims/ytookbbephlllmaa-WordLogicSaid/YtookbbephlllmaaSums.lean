import Derived.Test.YtookbbephlllmaaBase
namespace Go.Proofs.Ytookbbephlllmaa
open Go.RowKit
set_option linter.unusedVariables false
set_option maxHeartbeats 400000 in
theorem refIn_yes (n : Int) (w : World) (h0 : -1073741824 ≤ n) (h1 : n ≤ 1073741823) :
    Calls Try.prog 32 #[.int .i64 n] w fun e w' => e = .returned (.bool true) ∧ w' = w := by
  go_enter Try.func32, Try.ntmps32
  go_wp2
  go_ret
  exact ⟨ret_bool (by simp), rfl⟩
set_option maxHeartbeats 400000 in
theorem refIn_no (n : Int) (w : World) (h : n < -1073741824 ∨ 1073741823 < n) :
    Calls Try.prog 32 #[.int .i64 n] w fun e w' => e = .returned (.bool false) ∧ w' = w := by
  go_enter Try.func32, Try.ntmps32
  go_wp2
  · go_ret
    exact ⟨ret_bool (by simp; omega), rfl⟩
  · go_ret
    exact ⟨rfl, rfl⟩
theorem tm31_nonneg (n : Int) (h : 0 ≤ n.tmod 2147483648) : n.tmod 2147483648 = n % 2147483648 := by
  have := Int.tmod_eq_emod (a := n) (b := 2147483648)
  split at this <;> omega
theorem tm31_neg (n : Int) (h : n.tmod 2147483648 < 0) : n.tmod 2147483648 + 2147483648 = n % 2147483648 := by
  have := Int.tmod_eq_emod (a := n) (b := 2147483648)
  split at this <;> omega
set_option maxHeartbeats 400000 in
theorem low_any (n : Int) (w : World) :
    Calls Try.prog 36 #[.int .i64 n] w fun e w' => e = .returned (.int .i64 (n % 2147483648)) ∧ w' = w := by
  have t2 := tm_lt n 2147483648 (by omega)
  have t3 := tm_gt n 2147483648 (by omega)
  by_cases hn : n.tmod 2147483648 < 0
  · go_enter Try.func36, Try.ntmps36
    go_wp2
    go_ret
    exact ⟨ret_int (tm31_neg n hn), rfl⟩
  · go_enter Try.func36, Try.ntmps36
    go_wp2
    go_ret
    exact ⟨ret_int (tm31_nonneg n (by omega)), rfl⟩
theorem wr_pos (n : Int) (h : 1073741823 < n % 2147483648) : n % 2147483648 - 2147483648 = wr n := by unfold wr; omega
theorem wr_neg (n : Int) (h : ¬ 1073741823 < n % 2147483648) : n % 2147483648 = wr n := by unfold wr; omega
set_option maxHeartbeats 400000 in
theorem refWrap_any (n : Int) (w : World) :
    Calls Try.prog 34 #[.int .i64 n] w fun e w' => e = .returned (.int .i64 (wr n)) ∧ w' = w := by
  by_cases h : 1073741823 < n % 2147483648
  · go_enter Try.func34, Try.ntmps34
    go_wp2_with (go_at_call 36; refine (low_any _ _).mono ?_; rintro e w' ⟨rfl, rfl⟩)
    go_ret
    exact ⟨ret_int (wr_pos n h), rfl⟩
  · go_enter Try.func34, Try.ntmps34
    go_wp2_with (go_at_call 36; refine (low_any _ _).mono ?_; rintro e w' ⟨rfl, rfl⟩)
    go_ret
    exact ⟨ret_int (wr_neg n (by omega)), rfl⟩
set_option maxHeartbeats 400000 in
theorem floored_any (a b : Int) (w : World) (a0 : -1073741824 ≤ a) (a1 : a ≤ 1073741823) (b0 : -1073741824 ≤ b) (b1 : b ≤ 1073741823) (hb : b ≠ 0) :
    Calls Try.prog 35 #[.int .i64 a, .int .i64 b] w fun e w' => e = .returned (.int .i64 (a.fdiv b)) ∧ w' = w := by
  have t1 := td_abs a b
  have t2 := tm_lt a b hb
  have t3 := tm_gt a b hb
  have u0 := tm_sign_pos a b
  have u1 := tm_sign_neg a b
  have hb' : (b == 0) = false := by simpa using hb
  by_cases hm : a.tmod b = 0
  · have e1 := (fd_same a b (Or.inl hm)).1
    have hm' : (a.tmod b != 0) = false := by simpa using hm
    clear hm u0 u1
    go_enter Try.func35, Try.ntmps35
    go_wp2
    go_ret
    exact ⟨ret_int e1.symm, rfl⟩
  · have hm' : (a.tmod b != 0) = true := by simpa using hm
    by_cases ha : a < 0 <;> by_cases hc : b < 0
    · have hs : a.tmod b < 0 := by omega
      clear hm u0 u1
      go_enter Try.func35, Try.ntmps35
      go_wp2
      go_ret
      exact ⟨ret_int (fd_same a b (by omega)).1.symm, rfl⟩
    · have hs : a.tmod b < 0 := by omega
      clear hm u0 u1
      go_enter Try.func35, Try.ntmps35
      go_wp2
      go_ret
      exact ⟨ret_int (fd_diff a b (by omega)).1.symm, rfl⟩
    · have hs : 0 < a.tmod b := by omega
      have hm2 : (a % b != 0) = true := by rw [← Int.tmod_eq_emod_of_nonneg (by omega)]; exact hm'
      clear hm u0 u1
      go_enter Try.func35, Try.ntmps35
      go_wp2
      go_ret
      exact ⟨ret_int (fd_diff a b (by omega)).1.symm, rfl⟩
    · have hs : 0 < a.tmod b := by omega
      have hm2 : (a % b != 0) = true := by rw [← Int.tmod_eq_emod_of_nonneg (by omega)]; exact hm'
      clear hm u0 u1
      go_enter Try.func35, Try.ntmps35
      go_wp2
      go_ret
      exact ⟨ret_int (fd_same a b (by omega)).1.symm, rfl⟩
set_option maxHeartbeats 400000 in
theorem add_out (a b : Int) (w : World) (h : (a < -1073741824 ∨ 1073741823 < a) ∨ ((-1073741824 ≤ a ∧ a ≤ 1073741823) ∧ (b < -1073741824 ∨ 1073741823 < b))) :
    Calls Try.prog 13 #[.int .i64 a, .int .i64 b] w fun e w' => e = .returned (.tuple #[.int .i64 0, .int .i64 1]) ∧ w' = w := by
  rcases h with h | ⟨⟨h0, h1⟩, h⟩
  all_goals
    go_enter Try.func13, Try.ntmps13
    go_wp2_with (first | (go_at_call 31; refine (inRange_yes _ _ (by omega) (by omega)).mono ?_; rintro e w' ⟨rfl, rfl⟩) | (go_at_call 31; refine (inRange_no _ _ (by omega)).mono ?_; rintro e w' ⟨rfl, rfl⟩))
    go_ret2
    exact ⟨rfl, rfl⟩
set_option maxHeartbeats 400000 in
theorem sub_out (a b : Int) (w : World) (h : (a < -1073741824 ∨ 1073741823 < a) ∨ ((-1073741824 ≤ a ∧ a ≤ 1073741823) ∧ (b < -1073741824 ∨ 1073741823 < b))) :
    Calls Try.prog 14 #[.int .i64 a, .int .i64 b] w fun e w' => e = .returned (.tuple #[.int .i64 0, .int .i64 1]) ∧ w' = w := by
  rcases h with h | ⟨⟨h0, h1⟩, h⟩
  all_goals
    go_enter Try.func14, Try.ntmps14
    go_wp2_with (first | (go_at_call 31; refine (inRange_yes _ _ (by omega) (by omega)).mono ?_; rintro e w' ⟨rfl, rfl⟩) | (go_at_call 31; refine (inRange_no _ _ (by omega)).mono ?_; rintro e w' ⟨rfl, rfl⟩))
    go_ret2
    exact ⟨rfl, rfl⟩
set_option maxHeartbeats 400000 in
theorem mul_out (a b : Int) (w : World) (h : (a < -1073741824 ∨ 1073741823 < a) ∨ ((-1073741824 ≤ a ∧ a ≤ 1073741823) ∧ (b < -1073741824 ∨ 1073741823 < b))) :
    Calls Try.prog 15 #[.int .i64 a, .int .i64 b] w fun e w' => e = .returned (.tuple #[.int .i64 0, .int .i64 1]) ∧ w' = w := by
  rcases h with h | ⟨⟨h0, h1⟩, h⟩
  all_goals
    go_enter Try.func15, Try.ntmps15
    go_wp2_with (first | (go_at_call 31; refine (inRange_yes _ _ (by omega) (by omega)).mono ?_; rintro e w' ⟨rfl, rfl⟩) | (go_at_call 31; refine (inRange_no _ _ (by omega)).mono ?_; rintro e w' ⟨rfl, rfl⟩))
    go_ret2
    exact ⟨rfl, rfl⟩
set_option maxHeartbeats 400000 in
theorem divide_out (a b : Int) (w : World) (h : (a < -1073741824 ∨ 1073741823 < a) ∨ ((-1073741824 ≤ a ∧ a ≤ 1073741823) ∧ (b < -1073741824 ∨ 1073741823 < b))) :
    Calls Try.prog 30 #[.int .i64 a, .int .i64 b] w fun e w' => e = .returned (.tuple #[.int .i64 0, .int .i64 0, .int .i64 1]) ∧ w' = w := by
  rcases h with h | ⟨⟨h0, h1⟩, h⟩
  all_goals
    go_enter Try.func30, Try.ntmps30
    go_wp2_with (first | (go_at_call 31; refine (inRange_yes _ _ (by omega) (by omega)).mono ?_; rintro e w' ⟨rfl, rfl⟩) | (go_at_call 31; refine (inRange_no _ _ (by omega)).mono ?_; rintro e w' ⟨rfl, rfl⟩))
    go_ret3
    exact ⟨rfl, rfl⟩
set_option maxHeartbeats 400000 in
theorem div_out (a b : Int) (w : World) (h : (a < -1073741824 ∨ 1073741823 < a) ∨ ((-1073741824 ≤ a ∧ a ≤ 1073741823) ∧ (b < -1073741824 ∨ 1073741823 < b))) :
    Calls Try.prog 9 #[.int .i64 a, .int .i64 b] w fun e w' => e = .returned (.tuple #[.int .i64 0, .int .i64 1]) ∧ w' = w := by
  go_enter Try.func9, Try.ntmps9
  go_wp2_with (first | (go_at_call 30; refine (divide_out _ _ _ h).mono ?_; rintro e w' ⟨rfl, rfl⟩) | (go_at_call 12; refine (wrap_any _ _).mono ?_; rintro e w' ⟨rfl, rfl⟩))
  go_ret2
  exact ⟨rfl, rfl⟩
set_option maxHeartbeats 400000 in
theorem mod_out (a b : Int) (w : World) (h : (a < -1073741824 ∨ 1073741823 < a) ∨ ((-1073741824 ≤ a ∧ a ≤ 1073741823) ∧ (b < -1073741824 ∨ 1073741823 < b))) :
    Calls Try.prog 10 #[.int .i64 a, .int .i64 b] w fun e w' => e = .returned (.tuple #[.int .i64 0, .int .i64 1]) ∧ w' = w := by
  go_enter Try.func10, Try.ntmps10
  go_wp2_with (first | (go_at_call 30; refine (divide_out _ _ _ h).mono ?_; rintro e w' ⟨rfl, rfl⟩) | (go_at_call 12; refine (wrap_any _ _).mono ?_; rintro e w' ⟨rfl, rfl⟩))
  go_ret2
  exact ⟨rfl, rfl⟩
set_option maxHeartbeats 400000 in
theorem refAdd_out (a b : Int) (w : World) (h : (a < -1073741824 ∨ 1073741823 < a) ∨ ((-1073741824 ≤ a ∧ a ≤ 1073741823) ∧ (b < -1073741824 ∨ 1073741823 < b))) :
    Calls Try.prog 25 #[.int .i64 a, .int .i64 b] w fun e w' => e = .returned (.tuple #[.int .i64 0, .int .i64 1]) ∧ w' = w := by
  rcases h with h | ⟨⟨h0, h1⟩, h⟩
  all_goals
    go_enter Try.func25, Try.ntmps25
    go_wp2_with (first | (go_at_call 32; refine (refIn_yes _ _ (by omega) (by omega)).mono ?_; rintro e w' ⟨rfl, rfl⟩) | (go_at_call 32; refine (refIn_no _ _ (by omega)).mono ?_; rintro e w' ⟨rfl, rfl⟩))
    go_ret2
    exact ⟨rfl, rfl⟩
set_option maxHeartbeats 400000 in
theorem refSub_out (a b : Int) (w : World) (h : (a < -1073741824 ∨ 1073741823 < a) ∨ ((-1073741824 ≤ a ∧ a ≤ 1073741823) ∧ (b < -1073741824 ∨ 1073741823 < b))) :
    Calls Try.prog 26 #[.int .i64 a, .int .i64 b] w fun e w' => e = .returned (.tuple #[.int .i64 0, .int .i64 1]) ∧ w' = w := by
  rcases h with h | ⟨⟨h0, h1⟩, h⟩
  all_goals
    go_enter Try.func26, Try.ntmps26
    go_wp2_with (first | (go_at_call 32; refine (refIn_yes _ _ (by omega) (by omega)).mono ?_; rintro e w' ⟨rfl, rfl⟩) | (go_at_call 32; refine (refIn_no _ _ (by omega)).mono ?_; rintro e w' ⟨rfl, rfl⟩))
    go_ret2
    exact ⟨rfl, rfl⟩
set_option maxHeartbeats 400000 in
theorem refMul_out (a b : Int) (w : World) (h : (a < -1073741824 ∨ 1073741823 < a) ∨ ((-1073741824 ≤ a ∧ a ≤ 1073741823) ∧ (b < -1073741824 ∨ 1073741823 < b))) :
    Calls Try.prog 27 #[.int .i64 a, .int .i64 b] w fun e w' => e = .returned (.tuple #[.int .i64 0, .int .i64 1]) ∧ w' = w := by
  rcases h with h | ⟨⟨h0, h1⟩, h⟩
  all_goals
    go_enter Try.func27, Try.ntmps27
    go_wp2_with (first | (go_at_call 32; refine (refIn_yes _ _ (by omega) (by omega)).mono ?_; rintro e w' ⟨rfl, rfl⟩) | (go_at_call 32; refine (refIn_no _ _ (by omega)).mono ?_; rintro e w' ⟨rfl, rfl⟩))
    go_ret2
    exact ⟨rfl, rfl⟩
set_option maxHeartbeats 400000 in
theorem refDiv_out (a b : Int) (w : World) (h : (a < -1073741824 ∨ 1073741823 < a) ∨ ((-1073741824 ≤ a ∧ a ≤ 1073741823) ∧ (b < -1073741824 ∨ 1073741823 < b))) :
    Calls Try.prog 28 #[.int .i64 a, .int .i64 b] w fun e w' => e = .returned (.tuple #[.int .i64 0, .int .i64 1]) ∧ w' = w := by
  rcases h with h | ⟨⟨h0, h1⟩, h⟩
  all_goals
    go_enter Try.func28, Try.ntmps28
    go_wp2_with (first | (go_at_call 32; refine (refIn_yes _ _ (by omega) (by omega)).mono ?_; rintro e w' ⟨rfl, rfl⟩) | (go_at_call 32; refine (refIn_no _ _ (by omega)).mono ?_; rintro e w' ⟨rfl, rfl⟩))
    go_ret2
    exact ⟨rfl, rfl⟩
set_option maxHeartbeats 400000 in
theorem refMod_out (a b : Int) (w : World) (h : (a < -1073741824 ∨ 1073741823 < a) ∨ ((-1073741824 ≤ a ∧ a ≤ 1073741823) ∧ (b < -1073741824 ∨ 1073741823 < b))) :
    Calls Try.prog 29 #[.int .i64 a, .int .i64 b] w fun e w' => e = .returned (.tuple #[.int .i64 0, .int .i64 1]) ∧ w' = w := by
  rcases h with h | ⟨⟨h0, h1⟩, h⟩
  all_goals
    go_enter Try.func29, Try.ntmps29
    go_wp2_with (first | (go_at_call 32; refine (refIn_yes _ _ (by omega) (by omega)).mono ?_; rintro e w' ⟨rfl, rfl⟩) | (go_at_call 32; refine (refIn_no _ _ (by omega)).mono ?_; rintro e w' ⟨rfl, rfl⟩))
    go_ret2
    exact ⟨rfl, rfl⟩
set_option maxHeartbeats 400000 in
theorem refAdd_in (a b : Int) (w : World) (a0 : -1073741824 ≤ a) (a1 : a ≤ 1073741823) (b0 : -1073741824 ≤ b) (b1 : b ≤ 1073741823) :
    Calls Try.prog 25 #[.int .i64 a, .int .i64 b] w fun e w' => e = .returned (.tuple #[.int .i64 (wr (a + b)), .int .i64 0]) ∧ w' = w := by
  have ⟨m0, m1⟩ := mul_bd a b a0 a1 b0 b1
  go_enter Try.func25, Try.ntmps25
  go_wp2_with (first | (go_at_call 32; refine (refIn_yes _ _ (by omega) (by omega)).mono ?_; rintro e w' ⟨rfl, rfl⟩) | (go_at_call 32; refine (refIn_no _ _ (by omega)).mono ?_; rintro e w' ⟨rfl, rfl⟩) | (go_at_call 34; refine (refWrap_any _ _).mono ?_; rintro e w' ⟨rfl, rfl⟩))
  go_ret2
  exact ⟨rfl, rfl⟩
set_option maxHeartbeats 400000 in
theorem refSub_in (a b : Int) (w : World) (a0 : -1073741824 ≤ a) (a1 : a ≤ 1073741823) (b0 : -1073741824 ≤ b) (b1 : b ≤ 1073741823) :
    Calls Try.prog 26 #[.int .i64 a, .int .i64 b] w fun e w' => e = .returned (.tuple #[.int .i64 (wr (a - b)), .int .i64 0]) ∧ w' = w := by
  have ⟨m0, m1⟩ := mul_bd a b a0 a1 b0 b1
  go_enter Try.func26, Try.ntmps26
  go_wp2_with (first | (go_at_call 32; refine (refIn_yes _ _ (by omega) (by omega)).mono ?_; rintro e w' ⟨rfl, rfl⟩) | (go_at_call 32; refine (refIn_no _ _ (by omega)).mono ?_; rintro e w' ⟨rfl, rfl⟩) | (go_at_call 34; refine (refWrap_any _ _).mono ?_; rintro e w' ⟨rfl, rfl⟩))
  go_ret2
  exact ⟨rfl, rfl⟩
set_option maxHeartbeats 400000 in
theorem refMul_in (a b : Int) (w : World) (a0 : -1073741824 ≤ a) (a1 : a ≤ 1073741823) (b0 : -1073741824 ≤ b) (b1 : b ≤ 1073741823) :
    Calls Try.prog 27 #[.int .i64 a, .int .i64 b] w fun e w' => e = .returned (.tuple #[.int .i64 (wr (a * b)), .int .i64 0]) ∧ w' = w := by
  have ⟨m0, m1⟩ := mul_bd a b a0 a1 b0 b1
  go_enter Try.func27, Try.ntmps27
  go_wp2_with (first | (go_at_call 32; refine (refIn_yes _ _ (by omega) (by omega)).mono ?_; rintro e w' ⟨rfl, rfl⟩) | (go_at_call 32; refine (refIn_no _ _ (by omega)).mono ?_; rintro e w' ⟨rfl, rfl⟩) | (go_at_call 34; refine (refWrap_any _ _).mono ?_; rintro e w' ⟨rfl, rfl⟩))
  go_ret2
  exact ⟨rfl, rfl⟩
set_option maxHeartbeats 400000 in
theorem refDiv_in (a b : Int) (w : World) (a0 : -1073741824 ≤ a) (a1 : a ≤ 1073741823) (b0 : -1073741824 ≤ b) (b1 : b ≤ 1073741823) (hb : b ≠ 0) :
    Calls Try.prog 28 #[.int .i64 a, .int .i64 b] w fun e w' => e = .returned (.tuple #[.int .i64 (wr (a.fdiv b)), .int .i64 0]) ∧ w' = w := by
  have hb' : (b == 0) = false := by simpa using hb
  go_enter Try.func28, Try.ntmps28
  go_wp2_with (first | (go_at_call 32; refine (refIn_yes _ _ (by omega) (by omega)).mono ?_; rintro e w' ⟨rfl, rfl⟩) | (go_at_call 32; refine (refIn_no _ _ (by omega)).mono ?_; rintro e w' ⟨rfl, rfl⟩) | (go_at_call 34; refine (refWrap_any _ _).mono ?_; rintro e w' ⟨rfl, rfl⟩) | (go_at_call 35; refine (floored_any _ _ _ a0 a1 b0 b1 hb).mono ?_; rintro e w' ⟨rfl, rfl⟩))
  go_ret2
  exact ⟨rfl, rfl⟩
set_option maxHeartbeats 400000 in
theorem refMod_in (a b : Int) (w : World) (a0 : -1073741824 ≤ a) (a1 : a ≤ 1073741823) (b0 : -1073741824 ≤ b) (b1 : b ≤ 1073741823) (hb : b ≠ 0) :
    Calls Try.prog 29 #[.int .i64 a, .int .i64 b] w fun e w' => e = .returned (.tuple #[.int .i64 (a.fmod b), .int .i64 0]) ∧ w' = w := by
  have hb' : (b == 0) = false := by simpa using hb
  have h1 := fd_eq a b
  rw [Int.mul_comm] at h1
  have h2 := fd_abs a b
  have hp := fm_pos a b
  have hn := fm_neg a b
  have m0 : -1152921504606846976 ≤ a.fdiv b * b := by
    by_cases c : 0 < b
    · have := hp c; omega
    · have := hn (by omega); omega
  have m1 : a.fdiv b * b ≤ 1152921504606846976 := by
    by_cases c : 0 < b
    · have := hp c; omega
    · have := hn (by omega); omega
  have H : Hid (a.fmod b = a - a.fdiv b * b) := (by omega : a.fmod b = a - a.fdiv b * b)
  clear h1 h2 hp hn
  go_enter Try.func29, Try.ntmps29
  go_wp2_with (first | (go_at_call 32; refine (refIn_yes _ _ (by omega) (by omega)).mono ?_; rintro e w' ⟨rfl, rfl⟩) | (go_at_call 32; refine (refIn_no _ _ (by omega)).mono ?_; rintro e w' ⟨rfl, rfl⟩) | (go_at_call 35; refine (floored_any _ _ _ a0 a1 b0 b1 hb).mono ?_; rintro e w' ⟨rfl, rfl⟩))
  go_ret2
  exact ⟨ret_int2 H.out.symm, rfl⟩
set_option maxHeartbeats 400000 in
theorem refDiv_zero (a : Int) (w : World) (a0 : -1073741824 ≤ a) (a1 : a ≤ 1073741823) :
    Calls Try.prog 28 #[.int .i64 a, .int .i64 0] w fun e w' => e = .returned (.tuple #[.int .i64 0, .int .i64 11]) ∧ w' = w := by
  go_enter Try.func28, Try.ntmps28
  go_wp2_with (first | (go_at_call 32; refine (refIn_yes _ _ (by omega) (by omega)).mono ?_; rintro e w' ⟨rfl, rfl⟩) | (go_at_call 32; refine (refIn_no _ _ (by omega)).mono ?_; rintro e w' ⟨rfl, rfl⟩))
  go_ret2
  exact ⟨rfl, rfl⟩
set_option maxHeartbeats 400000 in
theorem refMod_zero (a : Int) (w : World) (a0 : -1073741824 ≤ a) (a1 : a ≤ 1073741823) :
    Calls Try.prog 29 #[.int .i64 a, .int .i64 0] w fun e w' => e = .returned (.tuple #[.int .i64 0, .int .i64 11]) ∧ w' = w := by
  go_enter Try.func29, Try.ntmps29
  go_wp2_with (first | (go_at_call 32; refine (refIn_yes _ _ (by omega) (by omega)).mono ?_; rintro e w' ⟨rfl, rfl⟩) | (go_at_call 32; refine (refIn_no _ _ (by omega)).mono ?_; rintro e w' ⟨rfl, rfl⟩))
  go_ret2
  exact ⟨rfl, rfl⟩
end Go.Proofs.Ytookbbephlllmaa
