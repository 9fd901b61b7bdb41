import Derived.Test.YtookbbephlllmaaMath
namespace Go.Proofs.Ytookbbephlllmaa
open Go.RowKit
/-! ### the bits, one by one -/
def cb (one both : Bool) (x y : Nat) : Nat :=
  if ((x % 2 + y % 2 == 1) && one) || ((x % 2 + y % 2 == 2) && both) then 1 else 0
def ev (one both : Bool) : Nat → Nat → Nat → Nat
  | 0, _, _ => 0
  | k + 1, x, y => cb one both x y + 2 * ev one both k (x / 2) (y / 2)
theorem cb_le (one both : Bool) (x y : Nat) : cb one both x y ≤ 1 := by unfold cb; split <;> omega
theorem ev_lt (one both : Bool) : ∀ k x y, ev one both k x y < 2 ^ k
  | 0, _, _ => by simp [ev]
  | k + 1, x, y => by
    have h := ev_lt one both k (x / 2) (y / 2)
    have h2 := cb_le one both x y
    rw [ev, Nat.pow_succ]; omega
theorem ev_and : ∀ k x y, x < 2 ^ k → y < 2 ^ k → ev false true k x y = x &&& y
  | 0, x, y, hx, hy => by
    have : x = 0 := by simpa using hx
    subst this; simp [ev]
  | k + 1, x, y, hx, hy => by
    rw [Nat.pow_succ] at hx hy
    have h := ev_and k (x / 2) (y / 2) (by omega) (by omega)
    rw [ev, h, ← Nat.and_div_two]
    have h2 : (x &&& y) % 2 = (x % 2) &&& (y % 2) := Nat.and_mod_two_pow (n := 1)
    have h3 : cb false true x y = (x % 2) &&& (y % 2) := by
      unfold cb
      rcases Nat.mod_two_eq_zero_or_one x with a | a <;> rcases Nat.mod_two_eq_zero_or_one y with b | b <;> rw [a, b] <;> decide
    omega
theorem ev_or : ∀ k x y, x < 2 ^ k → y < 2 ^ k → ev true true k x y = x ||| y
  | 0, x, y, hx, hy => by
    have h1 : x = 0 := by simpa using hx
    have h2 : y = 0 := by simpa using hy
    subst h1 h2; simp [ev]
  | k + 1, x, y, hx, hy => by
    rw [Nat.pow_succ] at hx hy
    have h := ev_or k (x / 2) (y / 2) (by omega) (by omega)
    rw [ev, h, ← Nat.or_div_two]
    have h2 : (x ||| y) % 2 = (x % 2) ||| (y % 2) := Nat.or_mod_two_pow (n := 1)
    have h3 : cb true true x y = (x % 2) ||| (y % 2) := by
      unfold cb
      rcases Nat.mod_two_eq_zero_or_one x with a | a <;> rcases Nat.mod_two_eq_zero_or_one y with b | b <;> rw [a, b] <;> decide
    omega
theorem ev_xor : ∀ k x y, x < 2 ^ k → y < 2 ^ k → ev true false k x y = x ^^^ y
  | 0, x, y, hx, hy => by
    have h1 : x = 0 := by simpa using hx
    have h2 : y = 0 := by simpa using hy
    subst h1 h2; simp [ev]
  | k + 1, x, y, hx, hy => by
    rw [Nat.pow_succ] at hx hy
    have h := ev_xor k (x / 2) (y / 2) (by omega) (by omega)
    rw [ev, h, ← Nat.xor_div_two]
    have h2 : (x ^^^ y) % 2 = (x % 2) ^^^ (y % 2) := Nat.xor_mod_two_pow (n := 1)
    have h3 : cb true false x y = (x % 2) ^^^ (y % 2) := by
      unfold cb
      rcases Nat.mod_two_eq_zero_or_one x with a | a <;> rcases Nat.mod_two_eq_zero_or_one y with b | b <;> rw [a, b] <;> decide
    omega

/-! ### the model's bits of two numbers in range -/
/-- the 64 bits of an int -/
def n64 (a : Int) : Nat := (a % 18446744073709551616).toNat
def n31 (a : Int) : Nat := (a % 2147483648).toNat
theorem n31_lt (a : Int) : n31 a < 2 ^ 31 := by unfold n31; omega
theorem n64_n31 (a : Int) : n64 a % 2147483648 = n31 a := by unfold n64 n31; omega
theorem n64_hi (a : Int) (a0 : -1073741824 ≤ a) (a1 : a ≤ 1073741823) : n64 a / 1073741824 = 0 ∨ n64 a / 1073741824 = 17179869183 := by
  unfold n64; omega
theorem n64_wrap (a : Int) (a0 : -1073741824 ≤ a) (a1 : a ≤ 1073741823) : wrap64 (n64 a : Int) = a := by
  unfold n64 wrap64; omega
theorem wrap_hi (n : Nat) (h : n / 1073741824 = 0 ∨ n / 1073741824 = 17179869183) : -1073741824 ≤ wrap64 (n : Int) ∧ wrap64 (n : Int) ≤ 1073741823 := by
  unfold wrap64; omega
theorem w64_wr (n : Nat) (h : n / 1073741824 = 0 ∨ n / 1073741824 = 17179869183) : wr ((n % 2147483648 : Nat) : Int) = wrap64 (n : Int) := by
  unfold wrap64 wr; omega
theorem iwrap (n : Int) : IntKind.i64.wrap n = wrap64 n := by
  simp [IntKind.wrap, IntKind.signed, IntKind.bits, wrap64]
  split <;> omega
theorem bits_and (a b : Int) : bits .and .i64 a b = wrap64 ((n64 a &&& n64 b : Nat) : Int) := by
  unfold bits n64
  simp only [BitVec.toNat_and, BitVec.toNat_ofInt]
  exact iwrap _
theorem bits_or (a b : Int) : bits .or .i64 a b = wrap64 ((n64 a ||| n64 b : Nat) : Int) := by
  unfold bits n64
  simp only [BitVec.toNat_or, BitVec.toNat_ofInt]
  exact iwrap _
theorem bits_xor (a b : Int) : bits .xor .i64 a b = wrap64 ((n64 a ^^^ n64 b : Nat) : Int) := by
  unfold bits n64
  simp only [BitVec.toNat_xor, BitVec.toNat_ofInt]
  exact iwrap _
theorem and_hi (a b : Int) (a0 : -1073741824 ≤ a) (a1 : a ≤ 1073741823) (b0 : -1073741824 ≤ b) (b1 : b ≤ 1073741823) :
    (n64 a &&& n64 b) / 1073741824 = 0 ∨ (n64 a &&& n64 b) / 1073741824 = 17179869183 := by
  have h : (n64 a &&& n64 b) / 2 ^ 30 = (n64 a / 2 ^ 30) &&& (n64 b / 2 ^ 30) := Nat.and_div_two_pow
  have e : (2 : Nat) ^ 30 = 1073741824 := by decide
  rw [e] at h
  rw [h]
  rcases n64_hi a a0 a1 with p | p <;> rcases n64_hi b b0 b1 with q | q <;> rw [p, q] <;> decide
theorem and_each (a b : Int) (a0 : -1073741824 ≤ a) (a1 : a ≤ 1073741823) (b0 : -1073741824 ≤ b) (b1 : b ≤ 1073741823) :
    wr ((ev false true 31 (n31 a) (n31 b) : Nat) : Int) = bits .and .i64 a b := by
  rw [bits_and, ev_and 31 _ _ (n31_lt a) (n31_lt b), ← w64_wr _ (and_hi a b a0 a1 b0 b1)]
  have h : (n64 a &&& n64 b) % 2 ^ 31 = (n64 a % 2 ^ 31) &&& (n64 b % 2 ^ 31) := Nat.and_mod_two_pow
  have e : (2 : Nat) ^ 31 = 2147483648 := by decide
  rw [e, n64_n31, n64_n31] at h
  rw [h]
theorem and_range (a b : Int) (a0 : -1073741824 ≤ a) (a1 : a ≤ 1073741823) (b0 : -1073741824 ≤ b) (b1 : b ≤ 1073741823) :
    -1073741824 ≤ bits .and .i64 a b ∧ bits .and .i64 a b ≤ 1073741823 := by
  rw [bits_and]; exact wrap_hi _ (and_hi a b a0 a1 b0 b1)
theorem or_hi (a b : Int) (a0 : -1073741824 ≤ a) (a1 : a ≤ 1073741823) (b0 : -1073741824 ≤ b) (b1 : b ≤ 1073741823) :
    (n64 a ||| n64 b) / 1073741824 = 0 ∨ (n64 a ||| n64 b) / 1073741824 = 17179869183 := by
  have h : (n64 a ||| n64 b) / 2 ^ 30 = (n64 a / 2 ^ 30) ||| (n64 b / 2 ^ 30) := Nat.or_div_two_pow
  have e : (2 : Nat) ^ 30 = 1073741824 := by decide
  rw [e] at h
  rw [h]
  rcases n64_hi a a0 a1 with p | p <;> rcases n64_hi b b0 b1 with q | q <;> rw [p, q] <;> decide
theorem or_each (a b : Int) (a0 : -1073741824 ≤ a) (a1 : a ≤ 1073741823) (b0 : -1073741824 ≤ b) (b1 : b ≤ 1073741823) :
    wr ((ev true true 31 (n31 a) (n31 b) : Nat) : Int) = bits .or .i64 a b := by
  rw [bits_or, ev_or 31 _ _ (n31_lt a) (n31_lt b), ← w64_wr _ (or_hi a b a0 a1 b0 b1)]
  have h : (n64 a ||| n64 b) % 2 ^ 31 = (n64 a % 2 ^ 31) ||| (n64 b % 2 ^ 31) := Nat.or_mod_two_pow
  have e : (2 : Nat) ^ 31 = 2147483648 := by decide
  rw [e, n64_n31, n64_n31] at h
  rw [h]
theorem or_range (a b : Int) (a0 : -1073741824 ≤ a) (a1 : a ≤ 1073741823) (b0 : -1073741824 ≤ b) (b1 : b ≤ 1073741823) :
    -1073741824 ≤ bits .or .i64 a b ∧ bits .or .i64 a b ≤ 1073741823 := by
  rw [bits_or]; exact wrap_hi _ (or_hi a b a0 a1 b0 b1)
theorem xor_hi (a b : Int) (a0 : -1073741824 ≤ a) (a1 : a ≤ 1073741823) (b0 : -1073741824 ≤ b) (b1 : b ≤ 1073741823) :
    (n64 a ^^^ n64 b) / 1073741824 = 0 ∨ (n64 a ^^^ n64 b) / 1073741824 = 17179869183 := by
  have h : (n64 a ^^^ n64 b) / 2 ^ 30 = (n64 a / 2 ^ 30) ^^^ (n64 b / 2 ^ 30) := Nat.xor_div_two_pow
  have e : (2 : Nat) ^ 30 = 1073741824 := by decide
  rw [e] at h
  rw [h]
  rcases n64_hi a a0 a1 with p | p <;> rcases n64_hi b b0 b1 with q | q <;> rw [p, q] <;> decide
theorem xor_each (a b : Int) (a0 : -1073741824 ≤ a) (a1 : a ≤ 1073741823) (b0 : -1073741824 ≤ b) (b1 : b ≤ 1073741823) :
    wr ((ev true false 31 (n31 a) (n31 b) : Nat) : Int) = bits .xor .i64 a b := by
  rw [bits_xor, ev_xor 31 _ _ (n31_lt a) (n31_lt b), ← w64_wr _ (xor_hi a b a0 a1 b0 b1)]
  have h : (n64 a ^^^ n64 b) % 2 ^ 31 = (n64 a % 2 ^ 31) ^^^ (n64 b % 2 ^ 31) := Nat.xor_mod_two_pow
  have e : (2 : Nat) ^ 31 = 2147483648 := by decide
  rw [e, n64_n31, n64_n31] at h
  rw [h]
theorem xor_range (a b : Int) (a0 : -1073741824 ≤ a) (a1 : a ≤ 1073741823) (b0 : -1073741824 ≤ b) (b1 : b ≤ 1073741823) :
    -1073741824 ≤ bits .xor .i64 a b ∧ bits .xor .i64 a b ≤ 1073741823 := by
  rw [bits_xor]; exact wrap_hi _ (xor_hi a b a0 a1 b0 b1)
end Go.Proofs.Ytookbbephlllmaa
