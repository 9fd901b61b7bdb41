import Derived.WalkKit
namespace Go.Proofs.YtcodfojgilneaaaDoor
open Go.RowKit
theorem iwrap (n : Int) : IntKind.i64.wrap n = wrap64 n := by
  simp [IntKind.wrap, IntKind.signed, IntKind.bits, wrap64]
  split <;> omega
/-- the two lowest bits -/
theorem and3 (n : Int) : bits .and .i64 n 3 = n % 4 := by
  unfold bits
  simp only [BitVec.toNat_and, BitVec.toNat_ofInt]
  rw [iwrap]
  have e : ((3 : Int) % ((2 ^ IntKind.i64.bits : Nat) : Int)).toNat = 2 ^ 2 - 1 := by decide
  rw [e, Nat.and_two_pow_sub_one_eq_mod]
  have e2 : ((2 ^ IntKind.i64.bits : Nat) : Int) = 18446744073709551616 := by decide
  rw [e2]
  unfold wrap64
  omega
/-- the kind of a word -/
def kindOf (n : Int) : Int :=
  if n % 2 = 1 then (if -2147483647 ≤ n ∧ n ≤ 2147483647 then 1 else 0)
  else if n % 4 = 2 then (if 2 ≤ n ∧ n ≤ 16382 then 2 else 0)
  else (if 4 ≤ n ∧ n ≤ 262144 then 3 else 0)
theorem kind_cases (n : Int) : kindOf n = 0 ∨ kindOf n = 1 ∨ kindOf n = 2 ∨ kindOf n = 3 := by
  unfold kindOf; repeat' split
  all_goals omega
theorem kind1 (n : Int) : kindOf n = 1 ↔ n % 2 = 1 ∧ -2147483647 ≤ n ∧ n ≤ 2147483647 := by
  unfold kindOf; repeat' split
  all_goals omega
theorem kind2 (n : Int) : kindOf n = 2 ↔ n % 4 = 2 ∧ 2 ≤ n ∧ n ≤ 16382 := by
  unfold kindOf; repeat' split
  all_goals omega
theorem kind3 (n : Int) : kindOf n = 3 ↔ n % 4 = 0 ∧ 4 ≤ n ∧ n ≤ 262144 := by
  unfold kindOf; repeat' split
  all_goals omega
theorem half (n : Int) (h : n % 2 = 1) : (n - 1).tdiv 2 = (n - 1) / 2 := by
  rw [Int.tdiv_eq_ediv, if_pos (Or.inr (by omega))]; omega
end Go.Proofs.YtcodfojgilneaaaDoor
