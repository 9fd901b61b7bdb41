import Derived.Test.YtookbbephlllmaaSums
import Derived.Test.YtookbbephlllmaaBitsMath
namespace Go.Proofs.Ytookbbephlllmaa
open Go.RowKit
set_option linter.unusedVariables false
set_option maxHeartbeats 400000 in
theorem and_in (a b : Int) (w : World) (a0 : -1073741824 ≤ a) (a1 : a ≤ 1073741823) (b0 : -1073741824 ≤ b) (b1 : b ≤ 1073741823) :
    Calls Try.prog 16 #[.int .i64 a, .int .i64 b] w fun e w' => e = .returned (.tuple #[.int .i64 (bits .and .i64 a b), .int .i64 0]) ∧ w' = w := by
  go_enter Try.func16, Try.ntmps16
  go_wp2_with (first | (go_at_call 31; refine (inRange_yes _ _ (by omega) (by omega)).mono ?_; rintro e w' ⟨rfl, rfl⟩) | (go_at_call 31; refine (inRange_no _ _ (by omega)).mono ?_; rintro e w' ⟨rfl, rfl⟩))
  go_ret2
  exact ⟨rfl, rfl⟩
set_option maxHeartbeats 400000 in
theorem and_out (a b : Int) (w : World) (h : (a < -1073741824 ∨ 1073741823 < a) ∨ ((-1073741824 ≤ a ∧ a ≤ 1073741823) ∧ (b < -1073741824 ∨ 1073741823 < b))) :
    Calls Try.prog 16 #[.int .i64 a, .int .i64 b] w fun e w' => e = .returned (.tuple #[.int .i64 0, .int .i64 1]) ∧ w' = w := by
  rcases h with h | ⟨⟨h0, h1⟩, h⟩
  all_goals
    go_enter Try.func16, Try.ntmps16
    go_wp2_with (first | (go_at_call 31; refine (inRange_yes _ _ (by omega) (by omega)).mono ?_; rintro e w' ⟨rfl, rfl⟩) | (go_at_call 31; refine (inRange_no _ _ (by omega)).mono ?_; rintro e w' ⟨rfl, rfl⟩))
    go_ret2
    exact ⟨rfl, rfl⟩
set_option maxHeartbeats 400000 in
theorem xor_in (a b : Int) (w : World) (a0 : -1073741824 ≤ a) (a1 : a ≤ 1073741823) (b0 : -1073741824 ≤ b) (b1 : b ≤ 1073741823) :
    Calls Try.prog 17 #[.int .i64 a, .int .i64 b] w fun e w' => e = .returned (.tuple #[.int .i64 (bits .xor .i64 a b), .int .i64 0]) ∧ w' = w := by
  go_enter Try.func17, Try.ntmps17
  go_wp2_with (first | (go_at_call 31; refine (inRange_yes _ _ (by omega) (by omega)).mono ?_; rintro e w' ⟨rfl, rfl⟩) | (go_at_call 31; refine (inRange_no _ _ (by omega)).mono ?_; rintro e w' ⟨rfl, rfl⟩))
  go_ret2
  exact ⟨rfl, rfl⟩
set_option maxHeartbeats 400000 in
theorem xor_out (a b : Int) (w : World) (h : (a < -1073741824 ∨ 1073741823 < a) ∨ ((-1073741824 ≤ a ∧ a ≤ 1073741823) ∧ (b < -1073741824 ∨ 1073741823 < b))) :
    Calls Try.prog 17 #[.int .i64 a, .int .i64 b] w fun e w' => e = .returned (.tuple #[.int .i64 0, .int .i64 1]) ∧ w' = w := by
  rcases h with h | ⟨⟨h0, h1⟩, h⟩
  all_goals
    go_enter Try.func17, Try.ntmps17
    go_wp2_with (first | (go_at_call 31; refine (inRange_yes _ _ (by omega) (by omega)).mono ?_; rintro e w' ⟨rfl, rfl⟩) | (go_at_call 31; refine (inRange_no _ _ (by omega)).mono ?_; rintro e w' ⟨rfl, rfl⟩))
    go_ret2
    exact ⟨rfl, rfl⟩
set_option maxHeartbeats 400000 in
theorem or_in (a b : Int) (w : World) (a0 : -1073741824 ≤ a) (a1 : a ≤ 1073741823) (b0 : -1073741824 ≤ b) (b1 : b ≤ 1073741823) :
    Calls Try.prog 18 #[.int .i64 a, .int .i64 b] w fun e w' => e = .returned (.tuple #[.int .i64 (bits .or .i64 a b), .int .i64 0]) ∧ w' = w := by
  go_enter Try.func18, Try.ntmps18
  go_wp2_with (first | (go_at_call 31; refine (inRange_yes _ _ (by omega) (by omega)).mono ?_; rintro e w' ⟨rfl, rfl⟩) | (go_at_call 31; refine (inRange_no _ _ (by omega)).mono ?_; rintro e w' ⟨rfl, rfl⟩))
  go_ret2
  exact ⟨rfl, rfl⟩
set_option maxHeartbeats 400000 in
theorem or_out (a b : Int) (w : World) (h : (a < -1073741824 ∨ 1073741823 < a) ∨ ((-1073741824 ≤ a ∧ a ≤ 1073741823) ∧ (b < -1073741824 ∨ 1073741823 < b))) :
    Calls Try.prog 18 #[.int .i64 a, .int .i64 b] w fun e w' => e = .returned (.tuple #[.int .i64 0, .int .i64 1]) ∧ w' = w := by
  rcases h with h | ⟨⟨h0, h1⟩, h⟩
  all_goals
    go_enter Try.func18, Try.ntmps18
    go_wp2_with (first | (go_at_call 31; refine (inRange_yes _ _ (by omega) (by omega)).mono ?_; rintro e w' ⟨rfl, rfl⟩) | (go_at_call 31; refine (inRange_no _ _ (by omega)).mono ?_; rintro e w' ⟨rfl, rfl⟩))
    go_ret2
    exact ⟨rfl, rfl⟩
set_option maxHeartbeats 400000 in
theorem shift_out (a b : Int) (w : World) (h : (a < -1073741824 ∨ 1073741823 < a) ∨ ((-1073741824 ≤ a ∧ a ≤ 1073741823) ∧ (b < -1073741824 ∨ 1073741823 < b))) :
    Calls Try.prog 20 #[.int .i64 a, .int .i64 b] w fun e w' => e = .returned (.tuple #[.int .i64 0, .int .i64 1]) ∧ w' = w := by
  rcases h with h | ⟨⟨h0, h1⟩, h⟩
  all_goals
    go_enter Try.func20, Try.ntmps20
    go_wp2_with (first | (go_at_call 31; refine (inRange_yes _ _ (by omega) (by omega)).mono ?_; rintro e w' ⟨rfl, rfl⟩) | (go_at_call 31; refine (inRange_no _ _ (by omega)).mono ?_; rintro e w' ⟨rfl, rfl⟩))
    go_ret2
    exact ⟨rfl, rfl⟩
set_option maxHeartbeats 400000 in
theorem refAnd_out (a b : Int) (w : World) (h : (a < -1073741824 ∨ 1073741823 < a) ∨ ((-1073741824 ≤ a ∧ a ≤ 1073741823) ∧ (b < -1073741824 ∨ 1073741823 < b))) :
    Calls Try.prog 21 #[.int .i64 a, .int .i64 b] w fun e w' => e = .returned (.tuple #[.int .i64 0, .int .i64 1]) ∧ w' = w := by
  rcases h with h | ⟨⟨h0, h1⟩, h⟩
  all_goals
    go_enter Try.func21, Try.ntmps21
    go_wp2_with (first | (go_at_call 32; refine (refIn_yes _ _ (by omega) (by omega)).mono ?_; rintro e w' ⟨rfl, rfl⟩) | (go_at_call 32; refine (refIn_no _ _ (by omega)).mono ?_; rintro e w' ⟨rfl, rfl⟩))
    go_ret2
    exact ⟨rfl, rfl⟩
set_option maxHeartbeats 400000 in
theorem refOr_out (a b : Int) (w : World) (h : (a < -1073741824 ∨ 1073741823 < a) ∨ ((-1073741824 ≤ a ∧ a ≤ 1073741823) ∧ (b < -1073741824 ∨ 1073741823 < b))) :
    Calls Try.prog 22 #[.int .i64 a, .int .i64 b] w fun e w' => e = .returned (.tuple #[.int .i64 0, .int .i64 1]) ∧ w' = w := by
  rcases h with h | ⟨⟨h0, h1⟩, h⟩
  all_goals
    go_enter Try.func22, Try.ntmps22
    go_wp2_with (first | (go_at_call 32; refine (refIn_yes _ _ (by omega) (by omega)).mono ?_; rintro e w' ⟨rfl, rfl⟩) | (go_at_call 32; refine (refIn_no _ _ (by omega)).mono ?_; rintro e w' ⟨rfl, rfl⟩))
    go_ret2
    exact ⟨rfl, rfl⟩
set_option maxHeartbeats 400000 in
theorem refXor_out (a b : Int) (w : World) (h : (a < -1073741824 ∨ 1073741823 < a) ∨ ((-1073741824 ≤ a ∧ a ≤ 1073741823) ∧ (b < -1073741824 ∨ 1073741823 < b))) :
    Calls Try.prog 23 #[.int .i64 a, .int .i64 b] w fun e w' => e = .returned (.tuple #[.int .i64 0, .int .i64 1]) ∧ w' = w := by
  rcases h with h | ⟨⟨h0, h1⟩, h⟩
  all_goals
    go_enter Try.func23, Try.ntmps23
    go_wp2_with (first | (go_at_call 32; refine (refIn_yes _ _ (by omega) (by omega)).mono ?_; rintro e w' ⟨rfl, rfl⟩) | (go_at_call 32; refine (refIn_no _ _ (by omega)).mono ?_; rintro e w' ⟨rfl, rfl⟩))
    go_ret2
    exact ⟨rfl, rfl⟩
set_option maxHeartbeats 400000 in
theorem refShift_out (a b : Int) (w : World) (h : (a < -1073741824 ∨ 1073741823 < a) ∨ ((-1073741824 ≤ a ∧ a ≤ 1073741823) ∧ (b < -1073741824 ∨ 1073741823 < b))) :
    Calls Try.prog 24 #[.int .i64 a, .int .i64 b] w fun e w' => e = .returned (.tuple #[.int .i64 0, .int .i64 1]) ∧ w' = w := by
  rcases h with h | ⟨⟨h0, h1⟩, h⟩
  all_goals
    go_enter Try.func24, Try.ntmps24
    go_wp2_with (first | (go_at_call 32; refine (refIn_yes _ _ (by omega) (by omega)).mono ?_; rintro e w' ⟨rfl, rfl⟩) | (go_at_call 32; refine (refIn_no _ _ (by omega)).mono ?_; rintro e w' ⟨rfl, rfl⟩))
    go_ret2
    exact ⟨rfl, rfl⟩
theorem ev_step (one both : Bool) (k x y r p T : Nat) (hk : k < 31) (h : r + p * ev one both (31 - k) x y = T) :
    (r + p * cb one both x y) + (2 * p) * ev one both (31 - (k + 1)) (x / 2) (y / 2) = T := by
  obtain ⟨j, hj⟩ : ∃ j, 31 - k = j + 1 := ⟨30 - k, by omega⟩
  have hj' : 31 - (k + 1) = j := by omega
  rw [hj, ev, Nat.mul_add] at h
  rw [hj', ← h, Nat.add_assoc, Nat.mul_comm 2 p, Nat.mul_assoc]
theorem cb00 (one both : Bool) (x y : Nat) (hx : x % 2 = 0) (hy : y % 2 = 0) : cb one both x y = 0 := by unfold cb; rw [hx, hy]; cases one <;> cases both <;> decide
theorem cb1 (one both : Bool) (x y : Nat) (h : x % 2 + y % 2 = 1) : cb one both x y = one.toNat := by unfold cb; rw [h]; cases one <;> cases both <;> decide
theorem cb2 (one both : Bool) (x y : Nat) (h : x % 2 + y % 2 = 2) : cb one both x y = both.toNat := by unfold cb; rw [h]; cases one <;> cases both <;> decide
set_option maxHeartbeats 400000 in
theorem each_and0 (a b : Int) (X Y T : Nat) (w : World) (eX : a % 2147483648 = (X : Int)) (eY : b % 2147483648 = (Y : Int)) (hTT : ev false true 31 X Y = T) :
    Calls Try.prog 33 #[.int .i64 a, .int .i64 b, .bool false, .bool true] w fun e w' => e = .returned (.int .i64 (wr (T : Int))) ∧ w' = w := by
  have hX : X < 2147483648 := by omega
  have hY : Y < 2147483648 := by omega
  have hT : T < 2147483648 := by have := ev_lt false true 31 X Y; omega
  have HT : Hid (ev false true 31 X Y = T) := hTT
  clear hTT
  go_enter Try.func33, Try.ntmps33
  go_wp2_with (first | (go_at_call 36; refine (low_any _ _).mono ?_; rintro e w' ⟨rfl, rfl⟩) | (go_at_call 34; refine (refWrap_any _ _).mono ?_; rintro e w' ⟨rfl, rfl⟩))
  clear eX eY
  go_loop [9, 10, 11, 12, 13] (fun x y r p i => ∃ k xk yk rk pk : Nat, k ≤ 31 ∧ xk < 2147483648 ∧ yk < 2147483648 ∧ pk = 2 ^ k ∧ rk + pk * ev false true (31 - k) xk yk = T ∧ i = .int .i64 k ∧ x = .int .i64 xk ∧ y = .int .i64 yk ∧ r = .int .i64 rk ∧ p = .int .i64 pk) (fun _ _ _ _ i => 31 - (intOf i).toNat)
  case atStart => exact ⟨0, X, Y, 0, 1, by omega, by omega, by omega, rfl, by rw [← HT.out]; simp, rfl, rfl, rfl, rfl, rfl⟩
  case round =>
    clear HT
    obtain ⟨k, xk, yk, rk, pk, hk, hx, hy, hp, hr, rfl, rfl, rfl, rfl, rfl⟩ := hrel
    have hpb : pk ≤ 2147483648 := by rw [hp]; exact Nat.le_trans (Nat.pow_le_pow_right (by omega) hk) (by decide)
    have hrb : rk ≤ 2147483648 := by omega
    by_cases hlt : k < 31
    · have hst := ev_step false true k xk yk rk pk T hlt hr
      have hp2 : 2 * pk = 2 ^ (k + 1) := by rw [hp, Nat.pow_succ]; omega
      have HST : Hid ((rk + pk * cb false true xk yk) + (2 * pk) * ev false true (31 - (k + 1)) (xk / 2) (yk / 2) = T) := hst
      have HP : Hid (2 * pk = 2 ^ (k + 1)) := hp2
      clear hst hp2 hp hr
      rcases Nat.mod_two_eq_zero_or_one xk with p1 | p1 <;> rcases Nat.mod_two_eq_zero_or_one yk with p2 | p2
      · have HC : Hid (cb false true xk yk = 0) := cb00 false true xk yk p1 p2
        have i1 : (xk : Int) % 2 = 0 := by omega
        have i2 : (yk : Int) % 2 = 0 := by omega
        clear p1 p2
        go_wp2
        go_round
        case rel => exact ⟨k + 1, xk / 2, yk / 2, rk, 2 * pk, by omega, by omega, by omega, HP.out, by have := HST.out; rw [HC.out] at this; simpa using this, by go_num, by go_num, by go_num, by go_num, by go_num⟩
        case measure => simp [intOf]; omega
      · have HC : Hid (cb false true xk yk = (false).toNat) := cb1 false true xk yk (by omega)
        have i1 : (xk : Int) % 2 = 0 := by omega
        have i2 : (yk : Int) % 2 = 1 := by omega
        clear p1 p2
        go_wp2
        go_round
        case rel => exact ⟨k + 1, xk / 2, yk / 2, rk + pk * (false).toNat, 2 * pk, by omega, by omega, by omega, HP.out, by have := HST.out; rw [HC.out] at this; exact this, by go_num, by go_num, by go_num, by first | go_num | (simp; done) | (simp; rfl), by go_num⟩
        case measure => simp [intOf]; omega
      · have HC : Hid (cb false true xk yk = (false).toNat) := cb1 false true xk yk (by omega)
        have i1 : (xk : Int) % 2 = 1 := by omega
        have i2 : (yk : Int) % 2 = 0 := by omega
        clear p1 p2
        go_wp2
        go_round
        case rel => exact ⟨k + 1, xk / 2, yk / 2, rk + pk * (false).toNat, 2 * pk, by omega, by omega, by omega, HP.out, by have := HST.out; rw [HC.out] at this; exact this, by go_num, by go_num, by go_num, by first | go_num | (simp; done) | (simp; rfl), by go_num⟩
        case measure => simp [intOf]; omega
      · have HC : Hid (cb false true xk yk = (true).toNat) := cb2 false true xk yk (by omega)
        have i1 : (xk : Int) % 2 = 1 := by omega
        have i2 : (yk : Int) % 2 = 1 := by omega
        clear p1 p2
        go_wp2
        go_round
        case rel => exact ⟨k + 1, xk / 2, yk / 2, rk + pk * (true).toNat, 2 * pk, by omega, by omega, by omega, HP.out, by have := HST.out; rw [HC.out] at this; exact this, by go_num, by go_num, by go_num, by first | go_num | (simp; done) | (simp; rfl), by go_num⟩
        case measure => simp [intOf]; omega
    · have hk31 : k = 31 := by omega
      have hrT : rk = T := by rw [hk31] at hr; simpa [ev] using hr
      have HRT : Hid (rk = T) := hrT
      clear hr hp hk31 hrT
      go_wp2_with (first | (go_at_call 36; refine (low_any _ _).mono ?_; rintro e w' ⟨rfl, rfl⟩) | (go_at_call 34; refine (refWrap_any _ _).mono ?_; rintro e w' ⟨rfl, rfl⟩))
      go_ret
      exact ⟨ret_int (by rw [HRT.out]), rfl⟩
theorem each_and (a b : Int) (w : World) :
    Calls Try.prog 33 #[.int .i64 a, .int .i64 b, .bool false, .bool true] w fun e w' => e = .returned (.int .i64 (wr ((ev false true 31 (n31 a) (n31 b) : Nat) : Int))) ∧ w' = w :=
  each_and0 a b (n31 a) (n31 b) _ w (by unfold n31; omega) (by unfold n31; omega) rfl
set_option maxHeartbeats 400000 in
theorem each_or0 (a b : Int) (X Y T : Nat) (w : World) (eX : a % 2147483648 = (X : Int)) (eY : b % 2147483648 = (Y : Int)) (hTT : ev true true 31 X Y = T) :
    Calls Try.prog 33 #[.int .i64 a, .int .i64 b, .bool true, .bool true] w fun e w' => e = .returned (.int .i64 (wr (T : Int))) ∧ w' = w := by
  have hX : X < 2147483648 := by omega
  have hY : Y < 2147483648 := by omega
  have hT : T < 2147483648 := by have := ev_lt true true 31 X Y; omega
  have HT : Hid (ev true true 31 X Y = T) := hTT
  clear hTT
  go_enter Try.func33, Try.ntmps33
  go_wp2_with (first | (go_at_call 36; refine (low_any _ _).mono ?_; rintro e w' ⟨rfl, rfl⟩) | (go_at_call 34; refine (refWrap_any _ _).mono ?_; rintro e w' ⟨rfl, rfl⟩))
  clear eX eY
  go_loop [9, 10, 11, 12, 13] (fun x y r p i => ∃ k xk yk rk pk : Nat, k ≤ 31 ∧ xk < 2147483648 ∧ yk < 2147483648 ∧ pk = 2 ^ k ∧ rk + pk * ev true true (31 - k) xk yk = T ∧ i = .int .i64 k ∧ x = .int .i64 xk ∧ y = .int .i64 yk ∧ r = .int .i64 rk ∧ p = .int .i64 pk) (fun _ _ _ _ i => 31 - (intOf i).toNat)
  case atStart => exact ⟨0, X, Y, 0, 1, by omega, by omega, by omega, rfl, by rw [← HT.out]; simp, rfl, rfl, rfl, rfl, rfl⟩
  case round =>
    clear HT
    obtain ⟨k, xk, yk, rk, pk, hk, hx, hy, hp, hr, rfl, rfl, rfl, rfl, rfl⟩ := hrel
    have hpb : pk ≤ 2147483648 := by rw [hp]; exact Nat.le_trans (Nat.pow_le_pow_right (by omega) hk) (by decide)
    have hrb : rk ≤ 2147483648 := by omega
    by_cases hlt : k < 31
    · have hst := ev_step true true k xk yk rk pk T hlt hr
      have hp2 : 2 * pk = 2 ^ (k + 1) := by rw [hp, Nat.pow_succ]; omega
      have HST : Hid ((rk + pk * cb true true xk yk) + (2 * pk) * ev true true (31 - (k + 1)) (xk / 2) (yk / 2) = T) := hst
      have HP : Hid (2 * pk = 2 ^ (k + 1)) := hp2
      clear hst hp2 hp hr
      rcases Nat.mod_two_eq_zero_or_one xk with p1 | p1 <;> rcases Nat.mod_two_eq_zero_or_one yk with p2 | p2
      · have HC : Hid (cb true true xk yk = 0) := cb00 true true xk yk p1 p2
        have i1 : (xk : Int) % 2 = 0 := by omega
        have i2 : (yk : Int) % 2 = 0 := by omega
        clear p1 p2
        go_wp2
        go_round
        case rel => exact ⟨k + 1, xk / 2, yk / 2, rk, 2 * pk, by omega, by omega, by omega, HP.out, by have := HST.out; rw [HC.out] at this; simpa using this, by go_num, by go_num, by go_num, by go_num, by go_num⟩
        case measure => simp [intOf]; omega
      · have HC : Hid (cb true true xk yk = (true).toNat) := cb1 true true xk yk (by omega)
        have i1 : (xk : Int) % 2 = 0 := by omega
        have i2 : (yk : Int) % 2 = 1 := by omega
        clear p1 p2
        go_wp2
        go_round
        case rel => exact ⟨k + 1, xk / 2, yk / 2, rk + pk * (true).toNat, 2 * pk, by omega, by omega, by omega, HP.out, by have := HST.out; rw [HC.out] at this; exact this, by go_num, by go_num, by go_num, by first | go_num | (simp; done) | (simp; rfl), by go_num⟩
        case measure => simp [intOf]; omega
      · have HC : Hid (cb true true xk yk = (true).toNat) := cb1 true true xk yk (by omega)
        have i1 : (xk : Int) % 2 = 1 := by omega
        have i2 : (yk : Int) % 2 = 0 := by omega
        clear p1 p2
        go_wp2
        go_round
        case rel => exact ⟨k + 1, xk / 2, yk / 2, rk + pk * (true).toNat, 2 * pk, by omega, by omega, by omega, HP.out, by have := HST.out; rw [HC.out] at this; exact this, by go_num, by go_num, by go_num, by first | go_num | (simp; done) | (simp; rfl), by go_num⟩
        case measure => simp [intOf]; omega
      · have HC : Hid (cb true true xk yk = (true).toNat) := cb2 true true xk yk (by omega)
        have i1 : (xk : Int) % 2 = 1 := by omega
        have i2 : (yk : Int) % 2 = 1 := by omega
        clear p1 p2
        go_wp2
        go_round
        case rel => exact ⟨k + 1, xk / 2, yk / 2, rk + pk * (true).toNat, 2 * pk, by omega, by omega, by omega, HP.out, by have := HST.out; rw [HC.out] at this; exact this, by go_num, by go_num, by go_num, by first | go_num | (simp; done) | (simp; rfl), by go_num⟩
        case measure => simp [intOf]; omega
    · have hk31 : k = 31 := by omega
      have hrT : rk = T := by rw [hk31] at hr; simpa [ev] using hr
      have HRT : Hid (rk = T) := hrT
      clear hr hp hk31 hrT
      go_wp2_with (first | (go_at_call 36; refine (low_any _ _).mono ?_; rintro e w' ⟨rfl, rfl⟩) | (go_at_call 34; refine (refWrap_any _ _).mono ?_; rintro e w' ⟨rfl, rfl⟩))
      go_ret
      exact ⟨ret_int (by rw [HRT.out]), rfl⟩
theorem each_or (a b : Int) (w : World) :
    Calls Try.prog 33 #[.int .i64 a, .int .i64 b, .bool true, .bool true] w fun e w' => e = .returned (.int .i64 (wr ((ev true true 31 (n31 a) (n31 b) : Nat) : Int))) ∧ w' = w :=
  each_or0 a b (n31 a) (n31 b) _ w (by unfold n31; omega) (by unfold n31; omega) rfl
set_option maxHeartbeats 400000 in
theorem each_xor0 (a b : Int) (X Y T : Nat) (w : World) (eX : a % 2147483648 = (X : Int)) (eY : b % 2147483648 = (Y : Int)) (hTT : ev true false 31 X Y = T) :
    Calls Try.prog 33 #[.int .i64 a, .int .i64 b, .bool true, .bool false] w fun e w' => e = .returned (.int .i64 (wr (T : Int))) ∧ w' = w := by
  have hX : X < 2147483648 := by omega
  have hY : Y < 2147483648 := by omega
  have hT : T < 2147483648 := by have := ev_lt true false 31 X Y; omega
  have HT : Hid (ev true false 31 X Y = T) := hTT
  clear hTT
  go_enter Try.func33, Try.ntmps33
  go_wp2_with (first | (go_at_call 36; refine (low_any _ _).mono ?_; rintro e w' ⟨rfl, rfl⟩) | (go_at_call 34; refine (refWrap_any _ _).mono ?_; rintro e w' ⟨rfl, rfl⟩))
  clear eX eY
  go_loop [9, 10, 11, 12, 13] (fun x y r p i => ∃ k xk yk rk pk : Nat, k ≤ 31 ∧ xk < 2147483648 ∧ yk < 2147483648 ∧ pk = 2 ^ k ∧ rk + pk * ev true false (31 - k) xk yk = T ∧ i = .int .i64 k ∧ x = .int .i64 xk ∧ y = .int .i64 yk ∧ r = .int .i64 rk ∧ p = .int .i64 pk) (fun _ _ _ _ i => 31 - (intOf i).toNat)
  case atStart => exact ⟨0, X, Y, 0, 1, by omega, by omega, by omega, rfl, by rw [← HT.out]; simp, rfl, rfl, rfl, rfl, rfl⟩
  case round =>
    clear HT
    obtain ⟨k, xk, yk, rk, pk, hk, hx, hy, hp, hr, rfl, rfl, rfl, rfl, rfl⟩ := hrel
    have hpb : pk ≤ 2147483648 := by rw [hp]; exact Nat.le_trans (Nat.pow_le_pow_right (by omega) hk) (by decide)
    have hrb : rk ≤ 2147483648 := by omega
    by_cases hlt : k < 31
    · have hst := ev_step true false k xk yk rk pk T hlt hr
      have hp2 : 2 * pk = 2 ^ (k + 1) := by rw [hp, Nat.pow_succ]; omega
      have HST : Hid ((rk + pk * cb true false xk yk) + (2 * pk) * ev true false (31 - (k + 1)) (xk / 2) (yk / 2) = T) := hst
      have HP : Hid (2 * pk = 2 ^ (k + 1)) := hp2
      clear hst hp2 hp hr
      rcases Nat.mod_two_eq_zero_or_one xk with p1 | p1 <;> rcases Nat.mod_two_eq_zero_or_one yk with p2 | p2
      · have HC : Hid (cb true false xk yk = 0) := cb00 true false xk yk p1 p2
        have i1 : (xk : Int) % 2 = 0 := by omega
        have i2 : (yk : Int) % 2 = 0 := by omega
        clear p1 p2
        go_wp2
        go_round
        case rel => exact ⟨k + 1, xk / 2, yk / 2, rk, 2 * pk, by omega, by omega, by omega, HP.out, by have := HST.out; rw [HC.out] at this; simpa using this, by go_num, by go_num, by go_num, by go_num, by go_num⟩
        case measure => simp [intOf]; omega
      · have HC : Hid (cb true false xk yk = (true).toNat) := cb1 true false xk yk (by omega)
        have i1 : (xk : Int) % 2 = 0 := by omega
        have i2 : (yk : Int) % 2 = 1 := by omega
        clear p1 p2
        go_wp2
        go_round
        case rel => exact ⟨k + 1, xk / 2, yk / 2, rk + pk * (true).toNat, 2 * pk, by omega, by omega, by omega, HP.out, by have := HST.out; rw [HC.out] at this; exact this, by go_num, by go_num, by go_num, by first | go_num | (simp; done) | (simp; rfl), by go_num⟩
        case measure => simp [intOf]; omega
      · have HC : Hid (cb true false xk yk = (true).toNat) := cb1 true false xk yk (by omega)
        have i1 : (xk : Int) % 2 = 1 := by omega
        have i2 : (yk : Int) % 2 = 0 := by omega
        clear p1 p2
        go_wp2
        go_round
        case rel => exact ⟨k + 1, xk / 2, yk / 2, rk + pk * (true).toNat, 2 * pk, by omega, by omega, by omega, HP.out, by have := HST.out; rw [HC.out] at this; exact this, by go_num, by go_num, by go_num, by first | go_num | (simp; done) | (simp; rfl), by go_num⟩
        case measure => simp [intOf]; omega
      · have HC : Hid (cb true false xk yk = (false).toNat) := cb2 true false xk yk (by omega)
        have i1 : (xk : Int) % 2 = 1 := by omega
        have i2 : (yk : Int) % 2 = 1 := by omega
        clear p1 p2
        go_wp2
        go_round
        case rel => exact ⟨k + 1, xk / 2, yk / 2, rk + pk * (false).toNat, 2 * pk, by omega, by omega, by omega, HP.out, by have := HST.out; rw [HC.out] at this; exact this, by go_num, by go_num, by go_num, by first | go_num | (simp; done) | (simp; rfl), by go_num⟩
        case measure => simp [intOf]; omega
    · have hk31 : k = 31 := by omega
      have hrT : rk = T := by rw [hk31] at hr; simpa [ev] using hr
      have HRT : Hid (rk = T) := hrT
      clear hr hp hk31 hrT
      go_wp2_with (first | (go_at_call 36; refine (low_any _ _).mono ?_; rintro e w' ⟨rfl, rfl⟩) | (go_at_call 34; refine (refWrap_any _ _).mono ?_; rintro e w' ⟨rfl, rfl⟩))
      go_ret
      exact ⟨ret_int (by rw [HRT.out]), rfl⟩
theorem each_xor (a b : Int) (w : World) :
    Calls Try.prog 33 #[.int .i64 a, .int .i64 b, .bool true, .bool false] w fun e w' => e = .returned (.int .i64 (wr ((ev true false 31 (n31 a) (n31 b) : Nat) : Int))) ∧ w' = w :=
  each_xor0 a b (n31 a) (n31 b) _ w (by unfold n31; omega) (by unfold n31; omega) rfl
theorem each_and_in (a b : Int) (w : World) (a0 : -1073741824 ≤ a) (a1 : a ≤ 1073741823) (b0 : -1073741824 ≤ b) (b1 : b ≤ 1073741823) :
    Calls Try.prog 33 #[.int .i64 a, .int .i64 b, .bool false, .bool true] w fun e w' => e = .returned (.int .i64 (bits .and .i64 a b)) ∧ w' = w := by
  have h := each_and a b w
  rw [and_each a b a0 a1 b0 b1] at h
  exact h
set_option maxHeartbeats 400000 in
theorem refAnd_in (a b : Int) (w : World) (a0 : -1073741824 ≤ a) (a1 : a ≤ 1073741823) (b0 : -1073741824 ≤ b) (b1 : b ≤ 1073741823) :
    Calls Try.prog 21 #[.int .i64 a, .int .i64 b] w fun e w' => e = .returned (.tuple #[.int .i64 (bits .and .i64 a b), .int .i64 0]) ∧ w' = w := by
  go_enter Try.func21, Try.ntmps21
  go_wp2_with (first | (go_at_call 32; refine (refIn_yes _ _ (by omega) (by omega)).mono ?_; rintro e w' ⟨rfl, rfl⟩) | (go_at_call 32; refine (refIn_no _ _ (by omega)).mono ?_; rintro e w' ⟨rfl, rfl⟩) | (go_at_call 33; refine (each_and_in _ _ _ a0 a1 b0 b1).mono ?_; rintro e w' ⟨rfl, rfl⟩))
  go_ret2
  exact ⟨rfl, rfl⟩
theorem each_or_in (a b : Int) (w : World) (a0 : -1073741824 ≤ a) (a1 : a ≤ 1073741823) (b0 : -1073741824 ≤ b) (b1 : b ≤ 1073741823) :
    Calls Try.prog 33 #[.int .i64 a, .int .i64 b, .bool true, .bool true] w fun e w' => e = .returned (.int .i64 (bits .or .i64 a b)) ∧ w' = w := by
  have h := each_or a b w
  rw [or_each a b a0 a1 b0 b1] at h
  exact h
set_option maxHeartbeats 400000 in
theorem refOr_in (a b : Int) (w : World) (a0 : -1073741824 ≤ a) (a1 : a ≤ 1073741823) (b0 : -1073741824 ≤ b) (b1 : b ≤ 1073741823) :
    Calls Try.prog 22 #[.int .i64 a, .int .i64 b] w fun e w' => e = .returned (.tuple #[.int .i64 (bits .or .i64 a b), .int .i64 0]) ∧ w' = w := by
  go_enter Try.func22, Try.ntmps22
  go_wp2_with (first | (go_at_call 32; refine (refIn_yes _ _ (by omega) (by omega)).mono ?_; rintro e w' ⟨rfl, rfl⟩) | (go_at_call 32; refine (refIn_no _ _ (by omega)).mono ?_; rintro e w' ⟨rfl, rfl⟩) | (go_at_call 33; refine (each_or_in _ _ _ a0 a1 b0 b1).mono ?_; rintro e w' ⟨rfl, rfl⟩))
  go_ret2
  exact ⟨rfl, rfl⟩
theorem each_xor_in (a b : Int) (w : World) (a0 : -1073741824 ≤ a) (a1 : a ≤ 1073741823) (b0 : -1073741824 ≤ b) (b1 : b ≤ 1073741823) :
    Calls Try.prog 33 #[.int .i64 a, .int .i64 b, .bool true, .bool false] w fun e w' => e = .returned (.int .i64 (bits .xor .i64 a b)) ∧ w' = w := by
  have h := each_xor a b w
  rw [xor_each a b a0 a1 b0 b1] at h
  exact h
set_option maxHeartbeats 400000 in
theorem refXor_in (a b : Int) (w : World) (a0 : -1073741824 ≤ a) (a1 : a ≤ 1073741823) (b0 : -1073741824 ≤ b) (b1 : b ≤ 1073741823) :
    Calls Try.prog 23 #[.int .i64 a, .int .i64 b] w fun e w' => e = .returned (.tuple #[.int .i64 (bits .xor .i64 a b), .int .i64 0]) ∧ w' = w := by
  go_enter Try.func23, Try.ntmps23
  go_wp2_with (first | (go_at_call 32; refine (refIn_yes _ _ (by omega) (by omega)).mono ?_; rintro e w' ⟨rfl, rfl⟩) | (go_at_call 32; refine (refIn_no _ _ (by omega)).mono ?_; rintro e w' ⟨rfl, rfl⟩) | (go_at_call 33; refine (each_xor_in _ _ _ a0 a1 b0 b1).mono ?_; rintro e w' ⟨rfl, rfl⟩))
  go_ret2
  exact ⟨rfl, rfl⟩
end Go.Proofs.Ytookbbephlllmaa
