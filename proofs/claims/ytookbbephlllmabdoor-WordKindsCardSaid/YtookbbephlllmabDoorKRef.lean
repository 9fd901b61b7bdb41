import Derived.Test.YtookbbephlllmabDoorDBase
namespace Go.Proofs.YtookbbephlllmabDoor
open Go.RowKit
set_option linter.unusedVariables false
set_option maxHeartbeats 400000 in
theorem rIn_yes (n : Int) (w : World) (h0 : -1073741824 ≤ n) (h1 : n ≤ 1073741823) :
    Calls Tryd.prog 25 #[.int .i64 n] w fun e w' => e = .returned (.bool true) ∧ w' = w := by
  go_enter Tryd.func25, Tryd.ntmps25
  go_wp2
  go_ret
  exact ⟨ret_bool (by simp), rfl⟩
set_option maxHeartbeats 400000 in
theorem rIn_no (n : Int) (w : World) (h : n < -1073741824 ∨ 1073741823 < n) :
    Calls Tryd.prog 25 #[.int .i64 n] w fun e w' => e = .returned (.bool false) ∧ w' = w := by
  go_enter Tryd.func25, Tryd.ntmps25
  go_wp2
  · go_ret
    exact ⟨ret_bool (by simp; omega), rfl⟩
  · go_ret
    exact ⟨rfl, rfl⟩
set_option maxHeartbeats 400000 in
theorem rInt_in (n : Int) (w : World) (h0 : -1073741824 ≤ n) (h1 : n ≤ 1073741823) :
    Calls Tryd.prog 5 #[.int .i64 n] w fun e w' => e = .returned (.tuple #[.int .i64 (2 * n + 1), .int .i64 (0)]) ∧ w' = w := by
  go_enter Tryd.func5, Tryd.ntmps5
  go_wp2_with (first | (go_at_call 25; refine (rIn_yes _ _ (by omega) (by omega)).mono ?_; rintro e w' ⟨rfl, rfl⟩) | (go_at_call 25; refine (rIn_no _ _ (by omega)).mono ?_; rintro e w' ⟨rfl, rfl⟩))
  go_ret2
  exact ⟨rfl, rfl⟩
set_option maxHeartbeats 400000 in
theorem rInt_out (n : Int) (w : World) (h : n < -1073741824 ∨ 1073741823 < n) :
    Calls Tryd.prog 5 #[.int .i64 n] w fun e w' => e = .returned (.tuple #[.int .i64 (0), .int .i64 (1)]) ∧ w' = w := by
  rcases h with h | h
  all_goals
    go_enter Tryd.func5, Tryd.ntmps5
    go_wp2_with (first | (go_at_call 25; refine (rIn_yes _ _ (by omega) (by omega)).mono ?_; rintro e w' ⟨rfl, rfl⟩) | (go_at_call 25; refine (rIn_no _ _ (by omega)).mono ?_; rintro e w' ⟨rfl, rfl⟩))
    go_ret2
    exact ⟨rfl, rfl⟩
set_option maxHeartbeats 400000 in
theorem rSymbol_in (n : Int) (w : World) (h0 : 0 ≤ n) (h1 : n ≤ 4095) :
    Calls Tryd.prog 7 #[.int .i64 n] w fun e w' => e = .returned (.tuple #[.int .i64 (4 * n + 2), .int .i64 (0)]) ∧ w' = w := by
  go_enter Tryd.func7, Tryd.ntmps7
  go_wp2_with (first | (go_at_call 25; refine (rIn_yes _ _ (by omega) (by omega)).mono ?_; rintro e w' ⟨rfl, rfl⟩) | (go_at_call 25; refine (rIn_no _ _ (by omega)).mono ?_; rintro e w' ⟨rfl, rfl⟩))
  go_ret2
  exact ⟨rfl, rfl⟩
set_option maxHeartbeats 400000 in
theorem rSymbol_out (n : Int) (w : World) (h : n < 0 ∨ 4095 < n) :
    Calls Tryd.prog 7 #[.int .i64 n] w fun e w' => e = .returned (.tuple #[.int .i64 (0), .int .i64 (1)]) ∧ w' = w := by
  rcases h with h | h
  all_goals
    go_enter Tryd.func7, Tryd.ntmps7
    go_wp2_with (first | (go_at_call 25; refine (rIn_yes _ _ (by omega) (by omega)).mono ?_; rintro e w' ⟨rfl, rfl⟩) | (go_at_call 25; refine (rIn_no _ _ (by omega)).mono ?_; rintro e w' ⟨rfl, rfl⟩))
    go_ret2
    exact ⟨rfl, rfl⟩
set_option maxHeartbeats 400000 in
theorem rObject_in (n : Int) (w : World) (h0 : 1 ≤ n) (h1 : n ≤ 65536) :
    Calls Tryd.prog 9 #[.int .i64 n] w fun e w' => e = .returned (.tuple #[.int .i64 (4 * n), .int .i64 (0)]) ∧ w' = w := by
  go_enter Tryd.func9, Tryd.ntmps9
  go_wp2_with (first | (go_at_call 25; refine (rIn_yes _ _ (by omega) (by omega)).mono ?_; rintro e w' ⟨rfl, rfl⟩) | (go_at_call 25; refine (rIn_no _ _ (by omega)).mono ?_; rintro e w' ⟨rfl, rfl⟩))
  go_ret2
  exact ⟨rfl, rfl⟩
set_option maxHeartbeats 400000 in
theorem rObject_out (n : Int) (w : World) (h : n < 1 ∨ 65536 < n) :
    Calls Tryd.prog 9 #[.int .i64 n] w fun e w' => e = .returned (.tuple #[.int .i64 (0), .int .i64 (1)]) ∧ w' = w := by
  rcases h with h | h
  all_goals
    go_enter Tryd.func9, Tryd.ntmps9
    go_wp2_with (first | (go_at_call 25; refine (rIn_yes _ _ (by omega) (by omega)).mono ?_; rintro e w' ⟨rfl, rfl⟩) | (go_at_call 25; refine (rIn_no _ _ (by omega)).mono ?_; rintro e w' ⟨rfl, rfl⟩))
    go_ret2
    exact ⟨rfl, rfl⟩
theorem tm31_nonneg (n : Int) (h : 0 ≤ n.tmod 2147483648) : n.tmod 2147483648 = n % 2147483648 := by
  have := Int.tmod_eq_emod (a := n) (b := 2147483648)
  split at this <;> omega
theorem tm31_neg (n : Int) (h : n.tmod 2147483648 < 0) : n.tmod 2147483648 + 2147483648 = n % 2147483648 := by
  have := Int.tmod_eq_emod (a := n) (b := 2147483648)
  split at this <;> omega
set_option maxHeartbeats 400000 in
theorem low_any (n : Int) (w : World) :
    Calls Tryd.prog 30 #[.int .i64 n] w fun e w' => e = .returned (.int .i64 (n % 2147483648)) ∧ w' = w := by
  have t2 := tm_lt n 2147483648 (by omega)
  have t3 := tm_gt n 2147483648 (by omega)
  by_cases hn : n.tmod 2147483648 < 0
  · go_enter Tryd.func30, Tryd.ntmps30
    go_wp2
    go_ret
    exact ⟨ret_int (tm31_neg n hn), rfl⟩
  · go_enter Tryd.func30, Tryd.ntmps30
    go_wp2
    go_ret
    exact ⟨ret_int (tm31_nonneg n (by omega)), rfl⟩
theorem wr_pos (n : Int) (h : 1073741823 < n % 2147483648) : n % 2147483648 - 2147483648 = wr n := by unfold wr; omega
theorem wr_neg (n : Int) (h : ¬ 1073741823 < n % 2147483648) : n % 2147483648 = wr n := by unfold wr; omega
set_option maxHeartbeats 400000 in
theorem refWrap_any (n : Int) (w : World) :
    Calls Tryd.prog 14 #[.int .i64 n] w fun e w' => e = .returned (.int .i64 (wr n)) ∧ w' = w := by
  by_cases h : 1073741823 < n % 2147483648
  · go_enter Tryd.func14, Tryd.ntmps14
    go_wp2_with (go_at_call 30; refine (low_any _ _).mono ?_; rintro e w' ⟨rfl, rfl⟩)
    go_ret
    exact ⟨ret_int (wr_pos n h), rfl⟩
  · go_enter Tryd.func14, Tryd.ntmps14
    go_wp2_with (go_at_call 30; refine (low_any _ _).mono ?_; rintro e w' ⟨rfl, rfl⟩)
    go_ret
    exact ⟨ret_int (wr_neg n (by omega)), rfl⟩
set_option maxHeartbeats 400000 in
theorem wrap_any (n : Int) (w : World) :
    Calls Tryd.prog 13 #[.int .i64 n] w fun e w' => e = .returned (.int .i64 (wr n)) ∧ w' = w := by
  go_enter Tryd.func13, Tryd.ntmps13
  go_wp2
  go_ret
  exact ⟨ret_int (wr_code n), rfl⟩
theorem tm2 (n : Int) (h : n < 0) : n.tmod 2 = if n % 2 = 0 then 0 else -1 := by
  rw [Int.tmod_eq_emod]; split <;> split <;> omega
theorem tm4 (n : Int) (h : n < 0) : n.tmod 4 = if n % 4 = 0 then 0 else n % 4 - 4 := by
  rw [Int.tmod_eq_emod]; split <;> split <;> omega
set_option maxHeartbeats 400000 in
theorem rKind_0_p_in (n : Int) (w : World) (hr : n % 4 = 0) (hs : 0 ≤ n) (h0 : 4 ≤ n) (h1 : n ≤ 262144) :
    Calls Tryd.prog 16 #[.int .i64 n] w fun e w' => e = .returned (.int .i64 (3)) ∧ w' = w := by
  have h2 : n % 2 = 0 := by omega
  go_enter Tryd.func16, Tryd.ntmps16
  go_wp2
  go_ret
  exact ⟨rfl, rfl⟩
set_option maxHeartbeats 400000 in
theorem rKind_0_p_out (n : Int) (w : World) (hr : n % 4 = 0) (hs : 0 ≤ n) (h : n < 4 ∨ 262144 < n) :
    Calls Tryd.prog 16 #[.int .i64 n] w fun e w' => e = .returned (.int .i64 (0)) ∧ w' = w := by
  have h2 : n % 2 = 0 := by omega
  rcases h with h | h
  all_goals
    go_enter Tryd.func16, Tryd.ntmps16
    go_wp2
    go_ret
    exact ⟨rfl, rfl⟩
set_option maxHeartbeats 400000 in
theorem rKind_0_n_out (n : Int) (w : World) (hr : n % 4 = 0) (hs : n < 0) (h : n < 4) :
    Calls Tryd.prog 16 #[.int .i64 n] w fun e w' => e = .returned (.int .i64 (0)) ∧ w' = w := by
  have e2 : n.tmod 2 = 0 := by rw [tm2 n hs]; split <;> omega
  have e4 : n.tmod 4 = 0 := by rw [tm4 n hs, hr]; rfl
  clear hr
  go_enter Tryd.func16, Tryd.ntmps16
  go_wp2
  go_ret
  exact ⟨rfl, rfl⟩
set_option maxHeartbeats 400000 in
theorem rKind_1_p_in (n : Int) (w : World) (hr : n % 4 = 1) (hs : 0 ≤ n) (h0 : -2147483647 ≤ n) (h1 : n ≤ 2147483647) :
    Calls Tryd.prog 16 #[.int .i64 n] w fun e w' => e = .returned (.int .i64 (1)) ∧ w' = w := by
  have h2 : n % 2 = 1 := by omega
  go_enter Tryd.func16, Tryd.ntmps16
  go_wp2
  go_ret
  exact ⟨rfl, rfl⟩
set_option maxHeartbeats 400000 in
theorem rKind_1_p_out (n : Int) (w : World) (hr : n % 4 = 1) (hs : 0 ≤ n) (h : 2147483647 < n) :
    Calls Tryd.prog 16 #[.int .i64 n] w fun e w' => e = .returned (.int .i64 (0)) ∧ w' = w := by
  have h2 : n % 2 = 1 := by omega
  go_enter Tryd.func16, Tryd.ntmps16
  go_wp2
  go_ret
  exact ⟨rfl, rfl⟩
set_option maxHeartbeats 400000 in
theorem rKind_1_n_in (n : Int) (w : World) (hr : n % 4 = 1) (hs : n < 0) (h0 : -2147483647 ≤ n) (h1 : n ≤ 2147483647) :
    Calls Tryd.prog 16 #[.int .i64 n] w fun e w' => e = .returned (.int .i64 (1)) ∧ w' = w := by
  have e2 : n.tmod 2 = -1 := by rw [tm2 n hs]; split <;> omega
  have e4 : n.tmod 4 = -3 := by rw [tm4 n hs, hr]; rfl
  clear hr
  go_enter Tryd.func16, Tryd.ntmps16
  go_wp2
  go_ret
  exact ⟨rfl, rfl⟩
set_option maxHeartbeats 400000 in
theorem rKind_1_n_out (n : Int) (w : World) (hr : n % 4 = 1) (hs : n < 0) (h : n < -2147483647) :
    Calls Tryd.prog 16 #[.int .i64 n] w fun e w' => e = .returned (.int .i64 (0)) ∧ w' = w := by
  have e2 : n.tmod 2 = -1 := by rw [tm2 n hs]; split <;> omega
  have e4 : n.tmod 4 = -3 := by rw [tm4 n hs, hr]; rfl
  clear hr
  go_enter Tryd.func16, Tryd.ntmps16
  go_wp2
  go_ret
  exact ⟨rfl, rfl⟩
set_option maxHeartbeats 400000 in
theorem rKind_2_p_in (n : Int) (w : World) (hr : n % 4 = 2) (hs : 0 ≤ n) (h0 : 2 ≤ n) (h1 : n ≤ 16382) :
    Calls Tryd.prog 16 #[.int .i64 n] w fun e w' => e = .returned (.int .i64 (2)) ∧ w' = w := by
  have h2 : n % 2 = 0 := by omega
  go_enter Tryd.func16, Tryd.ntmps16
  go_wp2
  go_ret
  exact ⟨rfl, rfl⟩
set_option maxHeartbeats 400000 in
theorem rKind_2_p_out (n : Int) (w : World) (hr : n % 4 = 2) (hs : 0 ≤ n) (h : 16382 < n) :
    Calls Tryd.prog 16 #[.int .i64 n] w fun e w' => e = .returned (.int .i64 (0)) ∧ w' = w := by
  have h2 : n % 2 = 0 := by omega
  go_enter Tryd.func16, Tryd.ntmps16
  go_wp2
  go_ret
  exact ⟨rfl, rfl⟩
set_option maxHeartbeats 400000 in
theorem rKind_2_n_out (n : Int) (w : World) (hr : n % 4 = 2) (hs : n < 0) (h : n < 2) :
    Calls Tryd.prog 16 #[.int .i64 n] w fun e w' => e = .returned (.int .i64 (0)) ∧ w' = w := by
  have e2 : n.tmod 2 = 0 := by rw [tm2 n hs]; split <;> omega
  have e4 : n.tmod 4 = -2 := by rw [tm4 n hs, hr]; rfl
  clear hr
  go_enter Tryd.func16, Tryd.ntmps16
  go_wp2
  go_ret
  exact ⟨rfl, rfl⟩
set_option maxHeartbeats 400000 in
theorem rKind_3_p_in (n : Int) (w : World) (hr : n % 4 = 3) (hs : 0 ≤ n) (h0 : -2147483647 ≤ n) (h1 : n ≤ 2147483647) :
    Calls Tryd.prog 16 #[.int .i64 n] w fun e w' => e = .returned (.int .i64 (1)) ∧ w' = w := by
  have h2 : n % 2 = 1 := by omega
  go_enter Tryd.func16, Tryd.ntmps16
  go_wp2
  go_ret
  exact ⟨rfl, rfl⟩
set_option maxHeartbeats 400000 in
theorem rKind_3_p_out (n : Int) (w : World) (hr : n % 4 = 3) (hs : 0 ≤ n) (h : 2147483647 < n) :
    Calls Tryd.prog 16 #[.int .i64 n] w fun e w' => e = .returned (.int .i64 (0)) ∧ w' = w := by
  have h2 : n % 2 = 1 := by omega
  go_enter Tryd.func16, Tryd.ntmps16
  go_wp2
  go_ret
  exact ⟨rfl, rfl⟩
set_option maxHeartbeats 400000 in
theorem rKind_3_n_in (n : Int) (w : World) (hr : n % 4 = 3) (hs : n < 0) (h0 : -2147483647 ≤ n) (h1 : n ≤ 2147483647) :
    Calls Tryd.prog 16 #[.int .i64 n] w fun e w' => e = .returned (.int .i64 (1)) ∧ w' = w := by
  have e2 : n.tmod 2 = -1 := by rw [tm2 n hs]; split <;> omega
  have e4 : n.tmod 4 = -1 := by rw [tm4 n hs, hr]; rfl
  clear hr
  go_enter Tryd.func16, Tryd.ntmps16
  go_wp2
  go_ret
  exact ⟨rfl, rfl⟩
set_option maxHeartbeats 400000 in
theorem rKind_3_n_out (n : Int) (w : World) (hr : n % 4 = 3) (hs : n < 0) (h : n < -2147483647) :
    Calls Tryd.prog 16 #[.int .i64 n] w fun e w' => e = .returned (.int .i64 (0)) ∧ w' = w := by
  have e2 : n.tmod 2 = -1 := by rw [tm2 n hs]; split <;> omega
  have e4 : n.tmod 4 = -1 := by rw [tm4 n hs, hr]; rfl
  clear hr
  go_enter Tryd.func16, Tryd.ntmps16
  go_wp2
  go_ret
  exact ⟨rfl, rfl⟩
theorem rKind_any (n : Int) (w : World) :
    Calls Tryd.prog 16 #[.int .i64 n] w fun e w' => e = .returned (.int .i64 (kindOf n)) ∧ w' = w := by
  have h4 : n % 4 = 0 ∨ n % 4 = 1 ∨ n % 4 = 2 ∨ n % 4 = 3 := by omega
  by_cases hs : 0 ≤ n
  · rcases h4 with h4 | h4 | h4 | h4
    · by_cases h : 4 ≤ n ∧ n ≤ 262144
      · rw [(kind3 n).2 ⟨h4, h⟩]; exact rKind_0_p_in n w h4 hs h.1 h.2
      · have e : kindOf n = 0 := by unfold kindOf; (repeat' split) <;> omega
        rw [e]; exact rKind_0_p_out n w h4 hs (by omega)
    · by_cases h : n ≤ 2147483647
      · rw [(kind1 n).2 (by omega)]; exact rKind_1_p_in n w h4 hs (by omega) h
      · have e : kindOf n = 0 := by unfold kindOf; (repeat' split) <;> omega
        rw [e]; exact rKind_1_p_out n w h4 hs (by omega)
    · by_cases h : n ≤ 16382
      · rw [(kind2 n).2 (by omega)]; exact rKind_2_p_in n w h4 hs (by omega) h
      · have e : kindOf n = 0 := by unfold kindOf; (repeat' split) <;> omega
        rw [e]; exact rKind_2_p_out n w h4 hs (by omega)
    · by_cases h : n ≤ 2147483647
      · rw [(kind1 n).2 (by omega)]; exact rKind_3_p_in n w h4 hs (by omega) h
      · have e : kindOf n = 0 := by unfold kindOf; (repeat' split) <;> omega
        rw [e]; exact rKind_3_p_out n w h4 hs (by omega)
  · have hs' : n < 0 := by omega
    rcases h4 with h4 | h4 | h4 | h4
    · have e : kindOf n = 0 := by unfold kindOf; (repeat' split) <;> omega
      rw [e]; exact rKind_0_n_out n w h4 hs' (by omega)
    · by_cases h : -2147483647 ≤ n
      · rw [(kind1 n).2 (by omega)]; exact rKind_1_n_in n w h4 hs' h (by omega)
      · have e : kindOf n = 0 := by unfold kindOf; (repeat' split) <;> omega
        rw [e]; exact rKind_1_n_out n w h4 hs' (by omega)
    · have e : kindOf n = 0 := by unfold kindOf; (repeat' split) <;> omega
      rw [e]; exact rKind_2_n_out n w h4 hs' (by omega)
    · by_cases h : -2147483647 ≤ n
      · rw [(kind1 n).2 (by omega)]; exact rKind_3_n_in n w h4 hs' h (by omega)
      · have e : kindOf n = 0 := by unfold kindOf; (repeat' split) <;> omega
        rw [e]; exact rKind_3_n_out n w h4 hs' (by omega)
set_option maxHeartbeats 400000 in
theorem rNum_yes (n : Int) (w : World) (h : kindOf n = 1) :
    Calls Tryd.prog 18 #[.int .i64 n] w fun e w' => e = .returned (.tuple #[.int .i64 ((n - 1) / 2), .int .i64 (0)]) ∧ w' = w := by
  have hK := rKind_any n w
  rw [h] at hK
  have hk := (kind1 n).1 h
  clear h
  obtain ⟨h2, h0, h1⟩ := hk
  have e : Hid ((n - 1).tdiv 2 = (n - 1) / 2) := half n h2
  clear h2
  go_enter Tryd.func18, Tryd.ntmps18
  go_wp2_with (go_at_call 16; refine hK.mono ?_; rintro e w' ⟨rfl, rfl⟩)
  go_ret2
  exact ⟨ret_int2 e.out, rfl⟩
set_option maxHeartbeats 400000 in
theorem rNum_no (n : Int) (w : World) (h : kindOf n ≠ 1) :
    Calls Tryd.prog 18 #[.int .i64 n] w fun e w' => e = .returned (.tuple #[.int .i64 (0), .int .i64 (10)]) ∧ w' = w := by
  have hK := rKind_any n w
  have hz : (kindOf n != 1) = true := by simpa using h
  clear h
  generalize kindOf n = q at *
  go_enter Tryd.func18, Tryd.ntmps18
  go_wp2_with (go_at_call 16; refine hK.mono ?_; rintro e w' ⟨rfl, rfl⟩)
  go_ret2
  exact ⟨rfl, rfl⟩
set_option maxHeartbeats 400000 in
theorem rSym_yes (n : Int) (w : World) (h : kindOf n = 2) :
    Calls Tryd.prog 20 #[.int .i64 n] w fun e w' => e = .returned (.tuple #[.int .i64 ((n - 2) / 4), .int .i64 (0)]) ∧ w' = w := by
  have hK := rKind_any n w
  rw [h] at hK
  have hk := (kind2 n).1 h
  clear h
  obtain ⟨h2, h0, h1⟩ := hk
  skip
  clear h2
  go_enter Tryd.func20, Tryd.ntmps20
  go_wp2_with (go_at_call 16; refine hK.mono ?_; rintro e w' ⟨rfl, rfl⟩)
  go_ret2
  exact ⟨rfl, rfl⟩
set_option maxHeartbeats 400000 in
theorem rSym_no (n : Int) (w : World) (h : kindOf n ≠ 2) :
    Calls Tryd.prog 20 #[.int .i64 n] w fun e w' => e = .returned (.tuple #[.int .i64 (0), .int .i64 (10)]) ∧ w' = w := by
  have hK := rKind_any n w
  have hz : (kindOf n != 2) = true := by simpa using h
  clear h
  generalize kindOf n = q at *
  go_enter Tryd.func20, Tryd.ntmps20
  go_wp2_with (go_at_call 16; refine hK.mono ?_; rintro e w' ⟨rfl, rfl⟩)
  go_ret2
  exact ⟨rfl, rfl⟩
set_option maxHeartbeats 400000 in
theorem rOop_yes (n : Int) (w : World) (h : kindOf n = 3) :
    Calls Tryd.prog 22 #[.int .i64 n] w fun e w' => e = .returned (.tuple #[.int .i64 (n / 4), .int .i64 (0)]) ∧ w' = w := by
  have hK := rKind_any n w
  rw [h] at hK
  have hk := (kind3 n).1 h
  clear h
  obtain ⟨h2, h0, h1⟩ := hk
  skip
  clear h2
  go_enter Tryd.func22, Tryd.ntmps22
  go_wp2_with (go_at_call 16; refine hK.mono ?_; rintro e w' ⟨rfl, rfl⟩)
  go_ret2
  exact ⟨rfl, rfl⟩
set_option maxHeartbeats 400000 in
theorem rOop_no (n : Int) (w : World) (h : kindOf n ≠ 3) :
    Calls Tryd.prog 22 #[.int .i64 n] w fun e w' => e = .returned (.tuple #[.int .i64 (0), .int .i64 (10)]) ∧ w' = w := by
  have hK := rKind_any n w
  have hz : (kindOf n != 3) = true := by simpa using h
  clear h
  generalize kindOf n = q at *
  go_enter Tryd.func22, Tryd.ntmps22
  go_wp2_with (go_at_call 16; refine hK.mono ?_; rintro e w' ⟨rfl, rfl⟩)
  go_ret2
  exact ⟨rfl, rfl⟩
end Go.Proofs.YtookbbephlllmabDoor
