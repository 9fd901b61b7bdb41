import Derived.Test.YtalcnihagnnkaaaDoorKHPut
import Derived.Laws.ShiftsVar
namespace Go.Proofs.YtalcnihagnnkaaaDoor
open Go.RowKit
set_option linter.unusedVariables false
theorem or_i64 (a b : Nat) (ha : a < 9223372036854775808) (hb : b < 9223372036854775808) : Go.bits .or .i64 (a : Int) (b : Int) = ((a ||| b : Nat) : Int) := by
  unfold Go.bits
  simp only [BitVec.toNat_or, BitVec.toNat_ofInt]
  rw [iwrap]
  have e : ∀ x : Nat, x < 9223372036854775808 → ((x : Int) % ((2 ^ IntKind.i64.bits : Nat) : Int)).toNat = x := by
    intro x hx
    rw [show ((2 ^ IntKind.i64.bits : Nat) : Int) = 18446744073709551616 from by decide]; omega
  rw [e a ha, e b hb]
  have hl : a ||| b < 2 ^ 63 := Nat.or_lt_two_pow (by omega) (by omega)
  unfold wrap64
  omega
theorem or_shape (n f : Nat) (hn : (n : Int) ≤ 8192) (hf : (f : Int) ≤ 1) : Go.bits .or .i64 ((n : Int) * 2) (f : Int) = ((2 * n + f : Nat) : Int) := by
  have h := or_i64 (n * 2) f (by omega) (by omega)
  rw [Int.natCast_mul] at h
  rw [show ((2 : Nat) : Int) = 2 from rfl] at h
  rw [h]
  have h2 := Nat.shiftLeft_add_eq_or_of_lt (i := 1) (b := f) (by omega) n
  rw [Nat.shiftLeft_eq] at h2
  rw [show n * 2 = n * 2 ^ 1 from rfl, ← h2]
  omega
set_option maxHeartbeats 400000 in
theorem shape_any (n f : Nat) (w : World) (hn : (n : Int) ≤ 8192) (hf : (f : Int) ≤ 1) :
    Calls Tryd.prog 102 #[.int .i64 n, .int .i64 f] w fun e w' => e = .returned (.int .i64 ((2 * n + f : Nat) : Int)) ∧ w' = w := by
  go_enter Tryd.func102, Tryd.ntmps102
  go_wp2
  go_ret
  exact ⟨ret_int (or_shape n f hn hf), rfl⟩
theorem pow64 (j : Nat) : IntKind.u64.wrap (2 ^ (j % 64)) = ((2 ^ (j % 64) : Nat) : Int) := by
  have h : 2 ^ (j % 64) < 2 ^ 64 := Nat.pow_lt_pow_right (by omega) (Nat.mod_lt _ (by omega))
  have e : ((2 : Int) ^ (j % 64)) = ((2 ^ (j % 64) : Nat) : Int) := by simp
  rw [e, IntKind.wrap_u64]
  generalize 2 ^ (j % 64) = x at *
  omega
set_option maxHeartbeats 400000 in
theorem bit_any (k : Nat) (w : World) (h0 : (1 : Int) ≤ k) (h1 : (k : Int) ≤ 100000) :
    Calls Tryd.prog 115 #[.int .i64 k] w fun e w' => e = .returned (.int .u64 ((2 ^ ((k - 1) % 64) : Nat) : Int)) ∧ w' = w := by
  go_enter Tryd.func115, Tryd.ntmps115
  go_wp2
  go_ret
  exact ⟨ret_int (pow64 _), rfl⟩
end Go.Proofs.YtalcnihagnnkaaaDoor
