import Derived.Test.YtookbbephlllmaaBits
import Derived.Test.YtookbbephlllmaaShift
namespace Go.Proofs.Ytookbbephlllmaa
open Go.RowKit
set_option linter.unusedVariables false
theorem cb_sums (x y : Nat) : cb false true x y + cb true false x y = cb true true x y ∧ 2 * cb false true x y + cb true false x y = x % 2 + y % 2 := by
  unfold cb
  rcases Nat.mod_two_eq_zero_or_one x with a | a <;> rcases Nat.mod_two_eq_zero_or_one y with b | b <;> rw [a, b] <;> decide
theorem ev_sums : ∀ k x y, x < 2 ^ k → y < 2 ^ k → ev false true k x y + ev true false k x y = ev true true k x y ∧ 2 * ev false true k x y + ev true false k x y = x + y
  | 0, x, y, hx, hy => by
    have h1 : x = 0 := by simpa using hx
    have h2 : y = 0 := by simpa using hy
    subst h1 h2; simp [ev]
  | k + 1, x, y, hx, hy => by
    rw [Nat.pow_succ] at hx hy
    have h := ev_sums k (x / 2) (y / 2) (by omega) (by omega)
    have h2 := cb_sums x y
    simp only [ev]
    omega
theorem nat_sums (x y : Nat) (hx : x < 18446744073709551616) (hy : y < 18446744073709551616) : (x &&& y) + (x ^^^ y) = (x ||| y) ∧ 2 * (x &&& y) + (x ^^^ y) = x + y := by
  have e : (2 : Nat) ^ 64 = 18446744073709551616 := by decide
  rw [← e] at hx hy
  have h := ev_sums 64 x y hx hy
  rw [ev_and 64 x y hx hy, ev_or 64 x y hx hy, ev_xor 64 x y hx hy] at h
  exact h
theorem n64_lt (a : Int) : n64 a < 18446744073709551616 := by unfold n64; omega
theorem w64_eq (n : Nat) : ∃ k : Int, wrap64 (n : Int) = n + 18446744073709551616 * k := ⟨-(((n : Int) + 9223372036854775808) / 18446744073709551616), by unfold wrap64; omega⟩
theorem n64_eq (a : Int) : ∃ k : Int, (n64 a : Int) = a + 18446744073709551616 * k := ⟨-(a / 18446744073709551616), by unfold n64; omega⟩
theorem arith1 (x y z : Int) (p q r : Nat) (k1 k2 k3 : Int) (e1 : x = p + 18446744073709551616 * k1) (e2 : z = q + 18446744073709551616 * k2) (e3 : y = r + 18446744073709551616 * k3)
    (h : p + r = q) (x0 : -1073741824 ≤ x) (x1 : x ≤ 1073741823) (z0 : -1073741824 ≤ z) (z1 : z ≤ 1073741823) (y0 : -1073741824 ≤ y) (y1 : y ≤ 1073741823) : x + y = z := by omega
theorem arith2 (a b x y : Int) (p r m n : Nat) (k1 k3 k4 k5 : Int) (e1 : x = p + 18446744073709551616 * k1) (e3 : y = r + 18446744073709551616 * k3)
    (e4 : (m : Int) = a + 18446744073709551616 * k4) (e5 : (n : Int) = b + 18446744073709551616 * k5) (h : 2 * p + r = m + n)
    (a0 : -1073741824 ≤ a) (a1 : a ≤ 1073741823) (b0 : -1073741824 ≤ b) (b1 : b ≤ 1073741823)
    (x0 : -1073741824 ≤ x) (x1 : x ≤ 1073741823) (y0 : -1073741824 ≤ y) (y1 : y ≤ 1073741823) : 2 * x + y = a + b := by omega
theorem bits_sums (a b : Int) (a0 : -1073741824 ≤ a) (a1 : a ≤ 1073741823) (b0 : -1073741824 ≤ b) (b1 : b ≤ 1073741823) :
    bits .and .i64 a b + bits .xor .i64 a b = bits .or .i64 a b ∧ 2 * bits .and .i64 a b + bits .xor .i64 a b = a + b := by
  obtain ⟨h1, h2⟩ := nat_sums (n64 a) (n64 b) (n64_lt a) (n64_lt b)
  have r1 := and_range a b a0 a1 b0 b1
  have r2 := or_range a b a0 a1 b0 b1
  have r3 := xor_range a b a0 a1 b0 b1
  obtain ⟨k1, e1⟩ := w64_eq (n64 a &&& n64 b)
  obtain ⟨k2, e2⟩ := w64_eq (n64 a ||| n64 b)
  obtain ⟨k3, e3⟩ := w64_eq (n64 a ^^^ n64 b)
  obtain ⟨k4, e4⟩ := n64_eq a
  obtain ⟨k5, e5⟩ := n64_eq b
  rw [← bits_and] at e1
  rw [← bits_or] at e2
  rw [← bits_xor] at e3
  exact ⟨arith1 _ _ _ _ _ _ k1 k2 k3 e1 e2 e3 h1 r1.1 r1.2 r2.1 r2.2 r3.1 r3.2,
    arith2 _ _ _ _ _ _ _ _ k1 k3 k4 k5 e1 e3 e4 e5 h2 a0 a1 b0 b1 r1.1 r1.2 r3.1 r3.2⟩
theorem n64_w64 (n : Nat) (h : n < 18446744073709551616) : n64 (wrap64 (n : Int)) = n := by unfold n64 wrap64; omega
theorem xor_back (a b : Int) (a0 : -1073741824 ≤ a) (a1 : a ≤ 1073741823) : bits .xor .i64 (bits .xor .i64 a b) b = a := by
  have h : n64 a ^^^ n64 b < 2 ^ 64 := Nat.xor_lt_two_pow (by have := n64_lt a; omega) (by have := n64_lt b; omega)
  rw [bits_xor a b, bits_xor, n64_w64 _ (by omega), Nat.xor_assoc, Nat.xor_self, Nat.xor_zero, n64_wrap a a0 a1]
theorem pow_bd (k : Nat) (h : k ≤ 30) : (1 : Int) ≤ 2 ^ k ∧ (2 : Int) ^ k ≤ 1073741824 := by
  have h1 : (2 : Nat) ^ k ≤ 2 ^ 30 := Nat.pow_le_pow_right (by omega) h
  have h2 : 1 ≤ (2 : Nat) ^ k := Nat.one_le_two_pow
  have h3 : ((2 : Int) ^ k) = ((2 ^ k : Nat) : Int) := by simp
  rw [h3]
  have e : (2 : Nat) ^ 30 = 1073741824 := by decide
  omega
/-- the low bits -/
theorem and_low (a : Int) (k : Nat) (h : k ≤ 30) : bits .and .i64 a (2 ^ k - 1) = a % 2 ^ k := by
  have hb := pow_bd k h
  have h3 : ((2 : Int) ^ k) = ((2 ^ k : Nat) : Int) := by simp
  have e1 : n64 (2 ^ k - 1) = 2 ^ k - 1 := by
    rw [h3] at hb ⊢
    unfold n64
    omega
  rw [bits_and, e1, Nat.and_two_pow_sub_one_eq_mod]
  have e2 : ((n64 a % 2 ^ k : Nat) : Int) = a % 2 ^ k := by
    rw [Int.natCast_emod, ← h3]
    unfold n64
    rw [Int.toNat_of_nonneg (by omega), Int.emod_emod_of_dvd]
    have : (18446744073709551616 : Int) = 2 ^ 64 := by decide
    rw [this]
    exact ⟨2 ^ (64 - k), by rw [← Int.pow_add, show k + (64 - k) = 64 by omega]⟩
  rw [e2]
  have h0 := Int.emod_nonneg a (b := 2 ^ k) (by omega)
  have h1 := Int.emod_lt_of_pos a (b := 2 ^ k) (by omega)
  unfold wrap64
  omega
/-- moved down, 0 too -/
def shn (a n : Int) : Int := a / 2 ^ (min n.toNat 31)
theorem shu0 (a : Int) (a0 : -1073741824 ≤ a) (a1 : a ≤ 1073741823) : shu a 0 = shn a 0 := by
  unfold shu shn; simp [wr_of a a0 a1]
theorem shd_shn (a n : Int) : shd a (-n) = shn a n := by unfold shd shn; rw [Int.neg_neg]
theorem shn_range (a n : Int) (a0 : -1073741824 ≤ a) (a1 : a ≤ 1073741823) : -1073741824 ≤ shn a n ∧ shn a n ≤ 1073741823 := div_pow_bd a _ a0 a1
theorem shift_dn (a n : Int) (w : World) (a0 : -1073741824 ≤ a) (a1 : a ≤ 1073741823) (n0 : 0 ≤ n) (n1 : n ≤ 40) :
    Calls Try.prog 20 #[.int .i64 a, .int .i64 (-n)] w fun e w' => e = .returned (.tuple #[.int .i64 (shn a n), .int .i64 0]) ∧ w' = w := by
  by_cases h : n = 0
  · subst h
    have h := shift_up a 0 w a0 a1 (by omega) (by omega)
    rw [shu0 a a0 a1] at h
    exact h
  · have h := shift_down a (-n) w a0 a1 (by omega) (by omega)
    rw [shd_shn] at h
    exact h
/-- what WordLogic asks above 30 -/
theorem great_neg (a n : Int) (a0 : -1073741824 ≤ a) (a1 : a < 0) (h : 30 < n) : shn a n = -1 := by
  unfold shn; rw [Nat.min_eq_right (by omega)]
  show a / 2147483648 = -1
  omega
theorem great_pos (a n : Int) (a0 : 0 ≤ a) (a1 : a ≤ 1073741823) (h : 30 < n) : shn a n = 0 := by
  unfold shn; rw [Nat.min_eq_right (by omega)]
  show a / 2147483648 = 0
  omega
theorem great_up (a n : Int) (h : 30 < n) : shu a n = 0 := by
  unfold shu; rw [Nat.min_eq_right (by omega)]
  show wr (a * 2147483648) = 0
  unfold wr
  omega
/-- and up to 30 -/
theorem small_low (a n : Int) (h0 : 0 ≤ n) (h : n ≤ 30) : bits .and .i64 a (wr (shu 1 n - 1)) = a % 2 ^ n.toNat := by
  have hb := pow_bd n.toNat (by omega)
  have e : wr (shu 1 n - 1) = 2 ^ n.toNat - 1 := by
    unfold shu; rw [Nat.min_eq_left (by omega), Int.one_mul, wr_sub, wr_of _ (by omega) (by omega)]
  rw [e]; exact and_low a _ (by omega)
theorem small_back (a n : Int) (a0 : -1073741824 ≤ a) (a1 : a ≤ 1073741823) (h0 : 0 ≤ n) (h : n ≤ 30) : wr (shu (shn a n) n + a % 2 ^ n.toNat) = a := by
  unfold shu shn
  rw [Nat.min_eq_left (by omega), wr_add, Int.mul_comm, Int.mul_ediv_add_emod]
  exact wr_of a a0 a1
theorem small_times (a n : Int) (h0 : 0 ≤ n) (h : n ≤ 30) : wr (a * shu 1 n) = shu a n := by
  unfold shu
  rw [Nat.min_eq_left (by omega), Int.one_mul, Int.mul_comm, wr_mul, Int.mul_comm]
theorem shu_range (a n : Int) : -1073741824 ≤ shu a n ∧ shu a n ≤ 1073741823 := ⟨wr_lo _, wr_hi _⟩
end Go.Proofs.Ytookbbephlllmaa
