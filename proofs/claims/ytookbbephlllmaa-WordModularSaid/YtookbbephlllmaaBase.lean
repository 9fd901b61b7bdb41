import Derived.Test.YtookbbephlllmaaChecked
import Derived.Test.YtookbbephlllmaaMath
import Derived.WalkKit
import Derived.WalkSpells
import Derived.WalkLawsBesides
import Derived.BigQuiet
import Derived.Deep.QuietTactic
namespace Go.Proofs.Ytookbbephlllmaa
open Go.RowKit
set_option linter.unusedVariables false
theorem ret_int {k : IntKind} {a b : Int} (h : a = b) : Ending.returned (.int k a) = .returned (.int k b) := by rw [h]
theorem ret_int2 {k l : IntKind} {a b c : Int} (h : a = b) : Ending.returned (.tuple #[.int k a, .int l c]) = .returned (.tuple #[.int k b, .int l c]) := by rw [h]
theorem ret_int3 {k l m : IntKind} {a b c d x : Int} (h : a = b) (h' : c = d) : Ending.returned (.tuple #[.int k a, .int l c, .int m x]) = .returned (.tuple #[.int k b, .int l d, .int m x]) := by rw [h, h']
theorem bne_yes (m b : Int) (hb : b ≠ 0) (hm : ¬ m = 0) (h : (!decide (m < 0) == decide (b < 0)) = true) : (m < 0 ∧ 0 < b) ∨ (0 < m ∧ b < 0) := by
  by_cases c : m < 0 <;> by_cases d : b < 0 <;> simp_all <;> omega
theorem bne_no (m b : Int) (hb : b ≠ 0) (hm : ¬ m = 0) (h : (!decide (m < 0) == decide (b < 0)) = false) : (m < 0 ∧ b < 0) ∨ (0 < m ∧ 0 < b) := by
  by_cases c : m < 0 <;> by_cases d : b < 0 <;> simp_all <;> omega
theorem ret_bool {a b : Bool} (h : a = b) : Ending.returned (.bool a) = .returned (.bool b) := by rw [h]
set_option maxHeartbeats 400000 in
theorem wrap_any (n : Int) (w : World) :
    Calls Try.prog 12 #[.int .i64 n] w fun e w' => e = .returned (.int .i64 (wr n)) ∧ w' = w := by
  go_enter Try.func12, Try.ntmps12
  go_wp2
  go_ret
  exact ⟨ret_int (wr_code n), rfl⟩
set_option maxHeartbeats 400000 in
theorem inRange_yes (n : Int) (w : World) (h0 : -1073741824 ≤ n) (h1 : n ≤ 1073741823) :
    Calls Try.prog 31 #[.int .i64 n] w fun e w' => e = .returned (.bool true) ∧ w' = w := by
  go_enter Try.func31, Try.ntmps31
  go_wp2
  go_ret
  exact ⟨ret_bool (by simp), rfl⟩
set_option maxHeartbeats 400000 in
theorem inRange_no (n : Int) (w : World) (h : n < -1073741824 ∨ 1073741823 < n) :
    Calls Try.prog 31 #[.int .i64 n] w fun e w' => e = .returned (.bool false) ∧ w' = w := by
  go_enter Try.func31, Try.ntmps31
  go_wp2
  · go_ret
    exact ⟨ret_bool (by simp; omega), rfl⟩
  · go_ret
    exact ⟨rfl, rfl⟩
set_option maxHeartbeats 400000 in
theorem num_any (n : Int) (w : World) (h0 : -9223372036854775808 ≤ n) (h1 : n ≤ 9223372036854775807) :
    Calls Try.prog 11 #[.int .i64 n] w fun e w' => e = .returned (.int .i64 n) ∧ w' = w := by
  go_enter Try.func11, Try.ntmps11
  go_wp2
  go_ret
  exact ⟨ret_int (by first | rfl | (unfold wrap64; omega)), rfl⟩
set_option maxHeartbeats 400000 in
theorem add_in (a b : Int) (w : World) (a0 : -1073741824 ≤ a) (a1 : a ≤ 1073741823) (b0 : -1073741824 ≤ b) (b1 : b ≤ 1073741823) :
    Calls Try.prog 13 #[.int .i64 a, .int .i64 b] w fun e w' => e = .returned (.tuple #[.int .i64 (wr (a + b)), .int .i64 0]) ∧ w' = w := by
  go_enter Try.func13, Try.ntmps13
  go_wp2_with (first | (go_at_call 31; refine (inRange_yes _ _ (by omega) (by omega)).mono ?_; rintro e w' ⟨rfl, rfl⟩) | (go_at_call 12; refine (wrap_any _ _).mono ?_; rintro e w' ⟨rfl, rfl⟩))
  go_ret2
  exact ⟨rfl, rfl⟩
set_option maxHeartbeats 400000 in
theorem sub_in (a b : Int) (w : World) (a0 : -1073741824 ≤ a) (a1 : a ≤ 1073741823) (b0 : -1073741824 ≤ b) (b1 : b ≤ 1073741823) :
    Calls Try.prog 14 #[.int .i64 a, .int .i64 b] w fun e w' => e = .returned (.tuple #[.int .i64 (wr (a - b)), .int .i64 0]) ∧ w' = w := by
  go_enter Try.func14, Try.ntmps14
  go_wp2_with (first | (go_at_call 31; refine (inRange_yes _ _ (by omega) (by omega)).mono ?_; rintro e w' ⟨rfl, rfl⟩) | (go_at_call 12; refine (wrap_any _ _).mono ?_; rintro e w' ⟨rfl, rfl⟩))
  go_ret2
  exact ⟨rfl, rfl⟩
set_option maxHeartbeats 400000 in
theorem mul_in (a b : Int) (w : World) (a0 : -1073741824 ≤ a) (a1 : a ≤ 1073741823) (b0 : -1073741824 ≤ b) (b1 : b ≤ 1073741823) :
    Calls Try.prog 15 #[.int .i64 a, .int .i64 b] w fun e w' => e = .returned (.tuple #[.int .i64 (wr (a * b)), .int .i64 0]) ∧ w' = w := by
  have ⟨m0, m1⟩ := mul_bd a b a0 a1 b0 b1
  go_enter Try.func15, Try.ntmps15
  go_wp2_with (first | (go_at_call 31; refine (inRange_yes _ _ (by omega) (by omega)).mono ?_; rintro e w' ⟨rfl, rfl⟩) | (go_at_call 12; refine (wrap_any _ _).mono ?_; rintro e w' ⟨rfl, rfl⟩))
  go_ret2
  exact ⟨rfl, rfl⟩
set_option maxHeartbeats 400000 in
theorem divide_zero (a : Int) (w : World) (a0 : -1073741824 ≤ a) (a1 : a ≤ 1073741823) :
    Calls Try.prog 30 #[.int .i64 a, .int .i64 0] w fun e w' => e = .returned (.tuple #[.int .i64 0, .int .i64 0, .int .i64 11]) ∧ w' = w := by
  go_enter Try.func30, Try.ntmps30
  go_wp2_with (go_at_call 31; refine (inRange_yes _ _ (by omega) (by omega)).mono ?_; rintro e w' ⟨rfl, rfl⟩)
  go_ret3
  exact ⟨rfl, rfl⟩
set_option maxHeartbeats 400000 in
theorem divide_in (a b : Int) (w : World) (a0 : -1073741824 ≤ a) (a1 : a ≤ 1073741823) (b0 : -1073741824 ≤ b) (b1 : b ≤ 1073741823) (hb : b ≠ 0) :
    Calls Try.prog 30 #[.int .i64 a, .int .i64 b] w fun e w' => e = .returned (.tuple #[.int .i64 (a.fdiv b), .int .i64 (a.fmod b), .int .i64 0]) ∧ ∃ k, w' = w.drewN k := by
  have t1 := td_abs a b
  have t2 := tm_lt a b hb
  have t3 := tm_gt a b hb
  have hb' : (b == 0) = false := by simpa using hb
  go_enter Try.func30, Try.ntmps30
  go_wp2_with (go_at_call 31; refine (inRange_yes _ _ (by omega) (by omega)).mono ?_; rintro e w' ⟨rfl, rfl⟩)
  go_quiet (fail)
  go_wp2
  · obtain ⟨e1, e2⟩ := fd_same a b (Or.inl (by assumption))
    go_ret3
    exact ⟨ret_int3 e1.symm (by rw [e2]; symm; assumption), _, rfl⟩
  · have hc : (!decide (a.tmod b < 0) == decide (b < 0)) = true := (by assumption : (a.tmod b != 0) = true ∧ (!decide (a.tmod b < 0) == decide (b < 0)) = true).2
    obtain ⟨e1, e2⟩ := fd_diff a b (bne_yes _ _ hb (by assumption) hc)
    go_ret3
    exact ⟨ret_int3 e1.symm e2.symm, _, rfl⟩
  · have hm : ¬ a.tmod b = 0 := by assumption
    have hc : (!decide (a.tmod b < 0) == decide (b < 0)) = false := by
      rcases (by assumption : (a.tmod b != 0) = false ∨ (!decide (a.tmod b < 0) == decide (b < 0)) = false) with h | h
      · simp [hm] at h
      · exact h
    obtain ⟨e1, e2⟩ := fd_same a b (Or.inr (bne_no _ _ hb hm hc))
    go_ret3
    exact ⟨ret_int3 e1.symm e2.symm, _, rfl⟩
theorem drewN_zero' (w : World) : ∃ k, w = w.drewN k := ⟨0, rfl⟩
set_option maxHeartbeats 400000 in
theorem div_in (a b : Int) (w : World) (a0 : -1073741824 ≤ a) (a1 : a ≤ 1073741823) (b0 : -1073741824 ≤ b) (b1 : b ≤ 1073741823) (hb : b ≠ 0) :
    Calls Try.prog 9 #[.int .i64 a, .int .i64 b] w fun e w' => e = .returned (.tuple #[.int .i64 (wr (a.fdiv b)), .int .i64 0]) ∧ ∃ k, w' = w.drewN k := by
  go_enter Try.func9, Try.ntmps9
  go_wp2_with (first | (go_at_call 30; refine (divide_in _ _ _ a0 a1 b0 b1 hb).mono ?_; rintro e w' ⟨rfl, k, rfl⟩) | (go_at_call 12; refine (wrap_any _ _).mono ?_; rintro e w' ⟨rfl, rfl⟩))
  go_ret2
  exact ⟨rfl, _, rfl⟩
set_option maxHeartbeats 400000 in
theorem mod_in (a b : Int) (w : World) (a0 : -1073741824 ≤ a) (a1 : a ≤ 1073741823) (b0 : -1073741824 ≤ b) (b1 : b ≤ 1073741823) (hb : b ≠ 0) :
    Calls Try.prog 10 #[.int .i64 a, .int .i64 b] w fun e w' => e = .returned (.tuple #[.int .i64 (a.fmod b), .int .i64 0]) ∧ ∃ k, w' = w.drewN k := by
  go_enter Try.func10, Try.ntmps10
  go_wp2_with (go_at_call 30; refine (divide_in _ _ _ a0 a1 b0 b1 hb).mono ?_; rintro e w' ⟨rfl, k, rfl⟩)
  go_ret2
  exact ⟨rfl, _, rfl⟩
set_option maxHeartbeats 400000 in
theorem div_zero (a : Int) (w : World) (a0 : -1073741824 ≤ a) (a1 : a ≤ 1073741823) :
    Calls Try.prog 9 #[.int .i64 a, .int .i64 0] w fun e w' => e = .returned (.tuple #[.int .i64 0, .int .i64 11]) ∧ w' = w := by
  go_enter Try.func9, Try.ntmps9
  go_wp2_with (first | (go_at_call 30; refine (divide_zero _ _ a0 a1).mono ?_; rintro e w' ⟨rfl, rfl⟩) | (go_at_call 12; refine (wrap_any _ _).mono ?_; rintro e w' ⟨rfl, rfl⟩))
  go_ret2
  exact ⟨rfl, rfl⟩
set_option maxHeartbeats 400000 in
theorem mod_zero (a : Int) (w : World) (a0 : -1073741824 ≤ a) (a1 : a ≤ 1073741823) :
    Calls Try.prog 10 #[.int .i64 a, .int .i64 0] w fun e w' => e = .returned (.tuple #[.int .i64 0, .int .i64 11]) ∧ w' = w := by
  go_enter Try.func10, Try.ntmps10
  go_wp2_with (go_at_call 30; refine (divide_zero _ _ a0 a1).mono ?_; rintro e w' ⟨rfl, rfl⟩)
  go_ret2
  exact ⟨rfl, rfl⟩
set_option maxHeartbeats 400000 in
theorem clipped_any (n lo hi : Int) (w : World) (h0 : -9223372036854775808 ≤ n) (h1 : n ≤ 9223372036854775807) (l0 : -1073741824 ≤ lo) (l1 : lo ≤ hi) (l2 : hi ≤ 1073741823) :
    Calls Try.prog 19 #[.int .i64 n, .int .i64 lo, .int .i64 hi] w fun e w' => (∃ a, e = .returned (.int .i64 a) ∧ lo ≤ a ∧ a ≤ hi) ∧ w' = w := by
  have t2 := tm_lt n (hi - lo + 1) (by omega)
  have t3 := tm_gt n (hi - lo + 1) (by omega)
  have hz : (hi - lo + 1 == 0) = false := by simp; omega
  by_cases c0 : lo ≤ n
  · by_cases c1 : n ≤ hi
    · go_enter Try.func19, Try.ntmps19
      go_wp2
      go_ret
      exact ⟨⟨n, rfl, c0, c1⟩, rfl⟩
    · go_enter Try.func19, Try.ntmps19
      go_wp2
      all_goals
        go_ret
        exact ⟨⟨_, rfl, by omega, by omega⟩, rfl⟩
  · go_enter Try.func19, Try.ntmps19
    go_wp2
    all_goals
      go_ret
      exact ⟨⟨_, rfl, by omega, by omega⟩, rfl⟩
set_option maxHeartbeats 400000 in
theorem ranged_any (n : Int) (w : World) (h0 : -9223372036854775808 ≤ n) (h1 : n ≤ 9223372036854775807) :
    Calls Try.prog 8 #[.int .i64 n] w fun e w' => (∃ a, e = .returned (.int .i64 a) ∧ -1073741824 ≤ a ∧ a ≤ 1073741823) ∧ w' = w := by
  go_enter Try.func8, Try.ntmps8
  go_wp2_with (go_at_call 19; refine (clipped_any _ _ _ _ h0 h1 (by omega) (by omega) (by omega)).mono ?_; rintro e w' ⟨⟨a, rfl, ha0, ha1⟩, rfl⟩)
  go_ret
  exact ⟨⟨a, rfl, ha0, ha1⟩, rfl⟩
theorem grown_drewN {w w' : World} (h : Grown w w') (k : Nat) : Grown w (w'.drewN k) := ⟨h.1, h.2.1, h.2.2⟩
end Go.Proofs.Ytookbbephlllmaa
