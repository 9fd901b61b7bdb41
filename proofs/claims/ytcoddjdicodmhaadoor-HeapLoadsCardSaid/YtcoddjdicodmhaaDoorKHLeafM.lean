import Derived.WalkKit
import Derived.Test.YtcoddjdicodmhaaDoorChecked
import Derived.WalkSpells
import Derived.WalkLawsBesides
import Derived.BigQuiet
import Derived.Deep.QuietTactic
import Derived.Shelf.Spec.TrailingZeros
namespace Go.Proofs.YtcoddjdicodmhaaDoor
open Go.RowKit
theorem iwrap (n : Int) : IntKind.i64.wrap n = wrap64 n := by
  simp [IntKind.wrap, IntKind.signed, IntKind.bits, wrap64]
  split <;> omega
/-- the two lowest bits -/
theorem and3 (n : Int) : bits .and .i64 n 3 = n % 4 := by
  unfold bits
  simp only [BitVec.toNat_and, BitVec.toNat_ofInt]
  rw [iwrap]
  have e : ((3 : Int) % ((2 ^ IntKind.i64.bits : Nat) : Int)).toNat = 2 ^ 2 - 1 := by decide
  rw [e, Nat.and_two_pow_sub_one_eq_mod]
  have e2 : ((2 ^ IntKind.i64.bits : Nat) : Int) = 18446744073709551616 := by decide
  rw [e2]
  unfold wrap64
  omega
/-- the kind of a word -/
def kindOf (n : Int) : Int :=
  if n % 2 = 1 then (if -2147483647 ≤ n ∧ n ≤ 2147483647 then 1 else 0)
  else if n % 4 = 2 then (if 2 ≤ n ∧ n ≤ 16382 then 2 else 0)
  else (if 4 ≤ n ∧ n ≤ 262144 then 3 else 0)
theorem kind_cases (n : Int) : kindOf n = 0 ∨ kindOf n = 1 ∨ kindOf n = 2 ∨ kindOf n = 3 := by
  unfold kindOf; repeat' split
  all_goals omega
theorem kind1 (n : Int) : kindOf n = 1 ↔ n % 2 = 1 ∧ -2147483647 ≤ n ∧ n ≤ 2147483647 := by
  unfold kindOf; repeat' split
  all_goals omega
theorem kind2 (n : Int) : kindOf n = 2 ↔ n % 4 = 2 ∧ 2 ≤ n ∧ n ≤ 16382 := by
  unfold kindOf; repeat' split
  all_goals omega
theorem kind3 (n : Int) : kindOf n = 3 ↔ n % 4 = 0 ∧ 4 ≤ n ∧ n ≤ 262144 := by
  unfold kindOf; repeat' split
  all_goals omega
theorem half (n : Int) (h : n % 2 = 1) : (n - 1).tdiv 2 = (n - 1) / 2 := by
  rw [Int.tdiv_eq_ediv, if_pos (Or.inr (by omega))]; omega
end Go.Proofs.YtcoddjdicodmhaaDoor
namespace Go.Proofs.YtcoddjdicodmhaaDoor
open Go.RowKit
set_option linter.unusedVariables false
theorem ret_int {k : IntKind} {a b : Int} (h : a = b) : Ending.returned (.int k a) = .returned (.int k b) := by rw [h]
theorem ret_int2 {k l : IntKind} {a b c : Int} (h : a = b) : Ending.returned (.tuple #[.int k a, .int l c]) = .returned (.tuple #[.int k b, .int l c]) := by rw [h]
theorem ret_bool {a b : Bool} (h : a = b) : Ending.returned (.bool a) = .returned (.bool b) := by rw [h]
set_option maxHeartbeats 400000 in
theorem num_any (n : Int) (w : World) (h0 : -9223372036854775808 ≤ n) (h1 : n ≤ 9223372036854775807) :
    Calls Tryd.prog 11 #[.int .i64 n] w fun e w' => e = .returned (.int .i64 (n)) ∧ w' = w := by
  go_enter Tryd.func11, Tryd.ntmps11
  go_wp2
  go_ret
  exact ⟨ret_int (by first | rfl | (unfold wrap64; omega)), rfl⟩
set_option maxHeartbeats 400000 in
theorem intWord_any (n : Int) (w : World) (h0 : -1073741824 ≤ n) (h1 : n ≤ 1073741823) :
    Calls Tryd.prog 118 #[.int .i64 n] w fun e w' => e = .returned (.int .i64 (2 * n + 1)) ∧ w' = w := by
  go_enter Tryd.func118, Tryd.ntmps118
  go_wp2
  go_ret
  exact ⟨rfl, rfl⟩
set_option maxHeartbeats 400000 in
theorem symbolWord_any (n : Int) (w : World) (h0 : 0 ≤ n) (h1 : n ≤ 4095) :
    Calls Tryd.prog 119 #[.int .i64 n] w fun e w' => e = .returned (.int .i64 (4 * n + 2)) ∧ w' = w := by
  go_enter Tryd.func119, Tryd.ntmps119
  go_wp2
  go_ret
  exact ⟨rfl, rfl⟩
set_option maxHeartbeats 400000 in
theorem objectWord_any (n : Int) (w : World) (h0 : 1 ≤ n) (h1 : n ≤ 65536) :
    Calls Tryd.prog 120 #[.int .i64 n] w fun e w' => e = .returned (.int .i64 (4 * n)) ∧ w' = w := by
  go_enter Tryd.func120, Tryd.ntmps120
  go_wp2
  go_ret
  exact ⟨rfl, rfl⟩
set_option maxHeartbeats 400000 in
theorem span1  (w : World)  :
    Calls Tryd.prog 114 #[.int .i64 1] w fun e w' => e = .returned (.tuple #[.int .i64 (-2147483647), .int .i64 (2147483647)]) ∧ w' = w := by
  go_enter Tryd.func114, Tryd.ntmps114
  go_wp2_with (first | (go_at_call 118; refine (intWord_any _ _ (by omega) (by omega)).mono ?_; rintro e w' ⟨rfl, rfl⟩) | (go_at_call 119; refine (symbolWord_any _ _ (by omega) (by omega)).mono ?_; rintro e w' ⟨rfl, rfl⟩) | (go_at_call 120; refine (objectWord_any _ _ (by omega) (by omega)).mono ?_; rintro e w' ⟨rfl, rfl⟩))
  go_ret2
  exact ⟨rfl, rfl⟩
set_option maxHeartbeats 400000 in
theorem span2  (w : World)  :
    Calls Tryd.prog 114 #[.int .i64 2] w fun e w' => e = .returned (.tuple #[.int .i64 (2), .int .i64 (16382)]) ∧ w' = w := by
  go_enter Tryd.func114, Tryd.ntmps114
  go_wp2_with (first | (go_at_call 118; refine (intWord_any _ _ (by omega) (by omega)).mono ?_; rintro e w' ⟨rfl, rfl⟩) | (go_at_call 119; refine (symbolWord_any _ _ (by omega) (by omega)).mono ?_; rintro e w' ⟨rfl, rfl⟩) | (go_at_call 120; refine (objectWord_any _ _ (by omega) (by omega)).mono ?_; rintro e w' ⟨rfl, rfl⟩))
  go_ret2
  exact ⟨rfl, rfl⟩
set_option maxHeartbeats 400000 in
theorem span3  (w : World)  :
    Calls Tryd.prog 114 #[.int .i64 3] w fun e w' => e = .returned (.tuple #[.int .i64 (4), .int .i64 (262144)]) ∧ w' = w := by
  go_enter Tryd.func114, Tryd.ntmps114
  go_wp2_with (first | (go_at_call 118; refine (intWord_any _ _ (by omega) (by omega)).mono ?_; rintro e w' ⟨rfl, rfl⟩) | (go_at_call 119; refine (symbolWord_any _ _ (by omega) (by omega)).mono ?_; rintro e w' ⟨rfl, rfl⟩) | (go_at_call 120; refine (objectWord_any _ _ (by omega) (by omega)).mono ?_; rintro e w' ⟨rfl, rfl⟩))
  go_ret2
  exact ⟨rfl, rfl⟩
/-- the table, as it lies -/
def Tab (w : World) : Prop := w.cell? ⟨0, 0, none⟩ = some (.int .i64 3) ∧ w.cell? ⟨0, 1, none⟩ = some (.int .i64 1) ∧ w.cell? ⟨0, 2, none⟩ = some (.int .i64 2) ∧ w.cell? ⟨0, 3, none⟩ = some (.int .i64 1)
set_option maxHeartbeats 400000 in
theorem kind_r0_in (n : Int) (w : World) (hT : Tab w) (hr : n % 4 = 0) (h0 : 4 ≤ n) (h1 : n ≤ 262144) :
    Calls Tryd.prog 99 #[.int .i64 n] w fun e w' => e = .returned (.int .i64 (3)) ∧ w' = w := by
  obtain ⟨c0, c1, c2, c3⟩ := hT
  have hb : bits .and .i64 n 3 = 0 := by rw [and3, hr]
  clear hr
  go_enter Tryd.func99, Tryd.ntmps99
  go_wp2_with (go_at_call 114; refine (span3 _).mono ?_; rintro e w' ⟨rfl, rfl⟩)
  go_ret
  exact ⟨rfl, rfl⟩
set_option maxHeartbeats 400000 in
theorem kind_r0_out (n : Int) (w : World) (hT : Tab w) (hr : n % 4 = 0) (h : n < 4 ∨ 262144 < n) :
    Calls Tryd.prog 99 #[.int .i64 n] w fun e w' => e = .returned (.int .i64 (0)) ∧ w' = w := by
  obtain ⟨c0, c1, c2, c3⟩ := hT
  have hb : bits .and .i64 n 3 = 0 := by rw [and3, hr]
  clear hr
  rcases h with h | h
  all_goals
    go_enter Tryd.func99, Tryd.ntmps99
    go_wp2_with (go_at_call 114; refine (span3 _).mono ?_; rintro e w' ⟨rfl, rfl⟩)
    go_ret
    exact ⟨rfl, rfl⟩
set_option maxHeartbeats 400000 in
theorem kind_r1_in (n : Int) (w : World) (hT : Tab w) (hr : n % 4 = 1) (h0 : -2147483647 ≤ n) (h1 : n ≤ 2147483647) :
    Calls Tryd.prog 99 #[.int .i64 n] w fun e w' => e = .returned (.int .i64 (1)) ∧ w' = w := by
  obtain ⟨c0, c1, c2, c3⟩ := hT
  have hb : bits .and .i64 n 3 = 1 := by rw [and3, hr]
  clear hr
  go_enter Tryd.func99, Tryd.ntmps99
  go_wp2_with (go_at_call 114; refine (span1 _).mono ?_; rintro e w' ⟨rfl, rfl⟩)
  go_ret
  exact ⟨rfl, rfl⟩
set_option maxHeartbeats 400000 in
theorem kind_r1_out (n : Int) (w : World) (hT : Tab w) (hr : n % 4 = 1) (h : n < -2147483647 ∨ 2147483647 < n) :
    Calls Tryd.prog 99 #[.int .i64 n] w fun e w' => e = .returned (.int .i64 (0)) ∧ w' = w := by
  obtain ⟨c0, c1, c2, c3⟩ := hT
  have hb : bits .and .i64 n 3 = 1 := by rw [and3, hr]
  clear hr
  rcases h with h | h
  all_goals
    go_enter Tryd.func99, Tryd.ntmps99
    go_wp2_with (go_at_call 114; refine (span1 _).mono ?_; rintro e w' ⟨rfl, rfl⟩)
    go_ret
    exact ⟨rfl, rfl⟩
set_option maxHeartbeats 400000 in
theorem kind_r2_in (n : Int) (w : World) (hT : Tab w) (hr : n % 4 = 2) (h0 : 2 ≤ n) (h1 : n ≤ 16382) :
    Calls Tryd.prog 99 #[.int .i64 n] w fun e w' => e = .returned (.int .i64 (2)) ∧ w' = w := by
  obtain ⟨c0, c1, c2, c3⟩ := hT
  have hb : bits .and .i64 n 3 = 2 := by rw [and3, hr]
  clear hr
  go_enter Tryd.func99, Tryd.ntmps99
  go_wp2_with (go_at_call 114; refine (span2 _).mono ?_; rintro e w' ⟨rfl, rfl⟩)
  go_ret
  exact ⟨rfl, rfl⟩
set_option maxHeartbeats 400000 in
theorem kind_r2_out (n : Int) (w : World) (hT : Tab w) (hr : n % 4 = 2) (h : n < 2 ∨ 16382 < n) :
    Calls Tryd.prog 99 #[.int .i64 n] w fun e w' => e = .returned (.int .i64 (0)) ∧ w' = w := by
  obtain ⟨c0, c1, c2, c3⟩ := hT
  have hb : bits .and .i64 n 3 = 2 := by rw [and3, hr]
  clear hr
  rcases h with h | h
  all_goals
    go_enter Tryd.func99, Tryd.ntmps99
    go_wp2_with (go_at_call 114; refine (span2 _).mono ?_; rintro e w' ⟨rfl, rfl⟩)
    go_ret
    exact ⟨rfl, rfl⟩
set_option maxHeartbeats 400000 in
theorem kind_r3_in (n : Int) (w : World) (hT : Tab w) (hr : n % 4 = 3) (h0 : -2147483647 ≤ n) (h1 : n ≤ 2147483647) :
    Calls Tryd.prog 99 #[.int .i64 n] w fun e w' => e = .returned (.int .i64 (1)) ∧ w' = w := by
  obtain ⟨c0, c1, c2, c3⟩ := hT
  have hb : bits .and .i64 n 3 = 3 := by rw [and3, hr]
  clear hr
  go_enter Tryd.func99, Tryd.ntmps99
  go_wp2_with (go_at_call 114; refine (span1 _).mono ?_; rintro e w' ⟨rfl, rfl⟩)
  go_ret
  exact ⟨rfl, rfl⟩
set_option maxHeartbeats 400000 in
theorem kind_r3_out (n : Int) (w : World) (hT : Tab w) (hr : n % 4 = 3) (h : n < -2147483647 ∨ 2147483647 < n) :
    Calls Tryd.prog 99 #[.int .i64 n] w fun e w' => e = .returned (.int .i64 (0)) ∧ w' = w := by
  obtain ⟨c0, c1, c2, c3⟩ := hT
  have hb : bits .and .i64 n 3 = 3 := by rw [and3, hr]
  clear hr
  rcases h with h | h
  all_goals
    go_enter Tryd.func99, Tryd.ntmps99
    go_wp2_with (go_at_call 114; refine (span1 _).mono ?_; rintro e w' ⟨rfl, rfl⟩)
    go_ret
    exact ⟨rfl, rfl⟩
theorem kind_any (n : Int) (w : World) (hT : Tab w) :
    Calls Tryd.prog 99 #[.int .i64 n] w fun e w' => e = .returned (.int .i64 (kindOf n)) ∧ w' = w := by
  have h4 : n % 4 = 0 ∨ n % 4 = 1 ∨ n % 4 = 2 ∨ n % 4 = 3 := by omega
  rcases h4 with h4 | h4 | h4 | h4
  · by_cases h : 4 ≤ n ∧ n ≤ 262144
    · have e : kindOf n = 3 := (kind3 n).2 ⟨h4, h⟩
      rw [e]; exact kind_r0_in n w hT h4 h.1 h.2
    · have e : kindOf n = 0 := by unfold kindOf; repeat' split
                                  all_goals omega
      rw [e]; exact kind_r0_out n w hT h4 (by omega)
  · by_cases h : -2147483647 ≤ n ∧ n ≤ 2147483647
    · have e : kindOf n = 1 := (kind1 n).2 ⟨by omega, h⟩
      rw [e]; exact kind_r1_in n w hT h4 h.1 h.2
    · have e : kindOf n = 0 := by unfold kindOf; repeat' split
                                  all_goals omega
      rw [e]; exact kind_r1_out n w hT h4 (by omega)
  · by_cases h : 2 ≤ n ∧ n ≤ 16382
    · have e : kindOf n = 2 := (kind2 n).2 ⟨h4, h⟩
      rw [e]; exact kind_r2_in n w hT h4 h.1 h.2
    · have e : kindOf n = 0 := by unfold kindOf; repeat' split
                                  all_goals omega
      rw [e]; exact kind_r2_out n w hT h4 (by omega)
  · by_cases h : -2147483647 ≤ n ∧ n ≤ 2147483647
    · have e : kindOf n = 1 := (kind1 n).2 ⟨by omega, h⟩
      rw [e]; exact kind_r3_in n w hT h4 h.1 h.2
    · have e : kindOf n = 0 := by unfold kindOf; repeat' split
                                  all_goals omega
      rw [e]; exact kind_r3_out n w hT h4 (by omega)

def isW (n : Int) : Bool := kindOf n != 0
set_option maxHeartbeats 400000 in
theorem isWord_any (n : Int) (w : World) (hT : Tab w) :
    Calls Tryd.prog 48 #[.int .i64 n] w fun e w' => e = .returned (.bool (isW n)) ∧ w' = w := by
  have hK := kind_any n w hT
  have hi : Hid (isW n = (kindOf n != 0)) := rfl
  generalize kindOf n = q at *
  go_enter Tryd.func48, Tryd.ntmps48
  go_wp2_with (go_at_call 99; refine hK.mono ?_; rintro e w' ⟨rfl, rfl⟩)
  go_ret
  exact ⟨ret_bool hi.out.symm, rfl⟩
def isF (n : Int) : Bool := n == 0 || n == 1
set_option maxHeartbeats 400000 in
theorem isFormat_any (n : Int) (w : World) :
    Calls Tryd.prog 49 #[.int .i64 n] w fun e w' => e = .returned (.bool (isF n)) ∧ w' = w := by
  by_cases h0 : n = 0
  · subst h0
    go_enter Tryd.func49, Tryd.ntmps49
    go_wp2
    go_ret
    exact ⟨rfl, rfl⟩
  · have hb : (n == 0) = false := by simpa using h0
    have hi : Hid (isF n = (n == 1)) := by unfold isF; simp [hb, Hid]
    clear h0
    go_enter Tryd.func49, Tryd.ntmps49
    go_wp2
    go_ret
    exact ⟨ret_bool hi.out.symm, rfl⟩
def isM (k : Int) : Bool := decide (0 ≤ k ∧ k ≤ 1073741824)
set_option maxHeartbeats 400000 in
theorem isMark_any (n : Int) (w : World) :
    Calls Tryd.prog 45 #[.int .i64 n] w fun e w' => e = .returned (.bool (isM n)) ∧ w' = w := by
  by_cases h0 : 0 ≤ n
  · have hi : Hid (isM n = decide (n ≤ 1073741824)) := by unfold isM; simp [h0, Hid]
    go_enter Tryd.func45, Tryd.ntmps45
    go_wp2
    go_ret
    exact ⟨ret_bool hi.out.symm, rfl⟩
  · have hi : Hid (isM n = false) := by unfold isM; simp [h0, Hid]
    go_enter Tryd.func45, Tryd.ntmps45
    go_wp2
    go_ret
    exact ⟨ret_bool hi.out.symm, rfl⟩
def lenOf (n f : Int) : Int := if f = 1 then 2 + (n + 3) / 4 else 2 + n
set_option maxHeartbeats 400000 in
theorem length_any (n f : Int) (w : World) (h0 : 0 ≤ n) (h1 : n ≤ 1000000000) :
    Calls Tryd.prog 50 #[.int .i64 n, .int .i64 f] w fun e w' => e = .returned (.int .i64 (lenOf n f)) ∧ w' = w := by
  by_cases hf : f = 1
  · subst hf
    have hi : Hid (lenOf n 1 = 2 + (n + 3) / 4) := by unfold lenOf Hid; simp
    go_enter Tryd.func50, Tryd.ntmps50
    go_wp2
    go_ret
    exact ⟨ret_int (by rw [hi.out]; first | rfl | omega), rfl⟩
  · have hi : Hid (lenOf n f = 2 + n) := by unfold lenOf Hid; simp [hf]
    have hb : (f == 1) = false := by simpa using hf
    clear hf
    go_enter Tryd.func50, Tryd.ntmps50
    go_wp2
    go_ret
    exact ⟨ret_int (by rw [hi.out]), rfl⟩
set_option maxHeartbeats 400000 in
theorem small_any (n : Int) (w : World) (h0 : -9223372036854775808 ≤ n) (h1 : n ≤ 9223372036854775807) :
    Calls Tryd.prog 9 #[.int .i64 n] w fun e w' => (∃ a, e = .returned (.int .i64 a) ∧ 0 ≤ a ∧ a ≤ 2047) ∧ w' = w := by
  have t2 : n.tmod 2048 < 2048 := Int.tmod_lt_of_pos n (by omega)
  have t3 : -2048 < n.tmod 2048 := Int.lt_tmod_of_pos n (by omega)
  go_enter Tryd.func9, Tryd.ntmps9
  go_wp2
  go_ret
  exact ⟨⟨_, rfl, by omega, by omega⟩, rfl⟩
end Go.Proofs.YtcoddjdicodmhaaDoor
namespace Go.Proofs.YtcoddjdicodmhaaDoor
open Go.RowKit
set_option linter.unusedVariables false
/-- the table of math/bits, as it lies -/
def Tab64 (w : World) : Prop := TabAt 1 Lib.deBruijn64tab w
set_option maxHeartbeats 1000000 in
theorem tz_core (x k idx : Nat) (w : World) (hx0 : ((x : Int) == 0) = false)
    (key : IntKind.u64.wrap (bits BinOp.and IntKind.u64 (x : Int) (IntKind.u64.wrap (-(x : Int))) * 285870213051353865) / 288230376151711744 = (idx : Int))
    (hi : idx < 64) (hk : k < 64) (hcell : w.cell? ⟨1, idx, none⟩ = some (.int .u8 k)) :
    Calls Tryd.prog 100 #[.int .u64 x] w fun e w' => e = .returned (.int .i64 k) ∧ w' = w := by
  go_enter Tryd.func100, Tryd.ntmps100
  go_wp2_with (simp only [key])
  go_ret
  exact ⟨rfl, rfl⟩
theorem tz_any (x : Nat) (hx : x < 18446744073709551616) (hx0 : x ≠ 0) (w : World) (hT : Tab64 w) :
    Calls Tryd.prog 100 #[.int .u64 x] w fun e w' => e = .returned (.int .i64 (Lib.ctz 64 x)) ∧ w' = w := by
  obtain ⟨hlow, hk⟩ := Lib.lowest_bit 64 x hx0 hx
  obtain ⟨hi, htab⟩ := Lib.deBruijn64_at _ hk
  have hcell := hT _ hi
  rw [htab] at hcell
  exact tz_core x _ _ w (by simp; omega) (tz64_key x _ hx hx0 hlow) hi hk hcell
end Go.Proofs.YtcoddjdicodmhaaDoor
