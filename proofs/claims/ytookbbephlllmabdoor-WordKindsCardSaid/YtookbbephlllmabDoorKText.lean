import Derived.Test.YtookbbephlllmabDoorKRef
import Derived.Test.YtookbbephlllmabDoorShelf
import Derived.Lib.ItoaNum
namespace Go.Proofs.YtookbbephlllmabDoor
open Go.RowKit
set_option linter.unusedVariables false
/-- the digits ahead of a number's last one -/
def headDigits (m : Nat) : List UInt8 := if m < 10 then [] else Lib.decDigits (m / 10)
def lastDigit (m : Nat) : UInt8 := UInt8.ofNat (48 + m % 10)
theorem dec_split (m : Nat) : Lib.decDigits m = headDigits m ++ [lastDigit m] := by
  unfold headDigits lastDigit
  rw [Lib.decDigits]
  split
  · rename_i h
    rw [Nat.mod_eq_of_lt h]; simp
  · rfl
theorem digit_fin : ∀ d : Fin 10, (ByteArray.extract { data := #[48, 49, 50, 51, 52, 53, 54, 55, 56, 57] } d.val (d.val + 1)) = ⟨([UInt8.ofNat (48 + d.val)] : List UInt8).toArray⟩ := by decide +kernel
theorem digit_at (m : Nat) : (ByteArray.extract { data := #[48, 49, 50, 51, 52, 53, 54, 55, 56, 57] } ((m : Int) % 10).toNat ((m : Int) % 10 + 1).toNat) = ⟨([lastDigit m] : List UInt8).toArray⟩ := by
  have h := digit_fin ⟨m % 10, Nat.mod_lt _ (by decide)⟩
  have e1 : ((m : Int) % 10).toNat = m % 10 := by omega
  have e2 : ((m : Int) % 10 + 1).toNat = m % 10 + 1 := by omega
  rw [e1, e2]
  exact h
theorem digit_at' (m : Nat) : (ByteArray.extract { data := #[48, 49, 50, 51, 52, 53, 54, 55, 56, 57] } (m % 10) (m % 10 + 1)) = ⟨([lastDigit m] : List UInt8).toArray⟩ :=
  digit_fin ⟨m % 10, Nat.mod_lt _ (by decide)⟩
theorem ret_str2 {l l' : List UInt8} {k : IntKind} {c : Int} (h : l = l') : Ending.returned (.tuple #[.string ⟨l.toArray⟩, .int k c]) = .returned (.tuple #[.string ⟨l'.toArray⟩, .int k c]) := by rw [h]
theorem str_cons (m : Nat) (l : List UInt8) : Value.string ((ByteArray.extract { data := #[48, 49, 50, 51, 52, 53, 54, 55, 56, 57] } (m % 10) (m % 10 + 1)) ++ { data := l.toArray }) = Value.string ⟨(lastDigit m :: l).toArray⟩ := by
  rw [digit_at' m]
  refine congrArg Value.string (ByteArray.ext ?_)
  simp
theorem dec_step (N m : Nat) (l : List UInt8) (h : Lib.decDigits N = headDigits m ++ l) (hm : 9 < m) : Lib.decDigits N = headDigits (m / 10) ++ (lastDigit (m / 10) :: l) := by
  rw [h, headDigits, if_neg (by omega), dec_split (m / 10)]; simp
set_option maxHeartbeats 400000 in
theorem plain_nat (N : Nat) (w : World) (h1 : N ≤ 1073741824) :
    Calls Tryd.prog 29 #[.int .i64 N] w fun e w' => e = .returned (.tuple #[.string ⟨(Lib.decDigits N).toArray⟩, .int .i64 0]) ∧ w' = w := by
  go_enter Tryd.func29, Tryd.ntmps29
  go_wp2
  go_loop [0, 4] (fun a s => ∃ (m : Nat) (l : List UInt8), m ≤ N ∧ l.length + m ≤ N + 1 ∧ Hid (Lib.decDigits N = headDigits m ++ l) ∧ a = .int .i64 m ∧ s = .string ⟨l.toArray⟩) (fun a _ => (intOf a).toNat)
  case atStart => exact ⟨N, [lastDigit N], by omega, by simp; omega, dec_split N, rfl, congrArg Value.string (digit_at N)⟩
  case round =>
    obtain ⟨m, l, hm, hl, HL, rfl, rfl⟩ := hrel
    by_cases hlt : 9 < m
    · have HS : Hid (Lib.decDigits N = headDigits (m / 10) ++ (lastDigit (m / 10) :: l)) := dec_step N m l HL.out hlt
      clear HL
      have hd : m / 10 < m := by omega
      go_wp2
      go_round
      case rel => exact ⟨m / 10, lastDigit (m / 10) :: l, by omega, by simp; omega, HS, by go_num, str_cons (m / 10) l⟩
      case measure => simp [intOf]; omega
    · have HR : Hid (l = Lib.decDigits N) := by
        have h := HL.out
        rw [headDigits, if_pos (by omega)] at h
        exact h.symm
      clear HL
      go_wp2
      go_ret2
      exact ⟨ret_str2 HR.out, rfl⟩
theorem dec_len : ∀ (u : Nat), (Lib.decDigits u).length ≤ u + 1 := by
  intro u
  induction u using Nat.strongRecOn with
  | ind u ih =>
    rw [Lib.decDigits]
    split
    · simp
    · have := ih (u / 10) (by omega)
      simp; omega
theorem plain_int (n : Int) (w : World) (h0 : 0 ≤ n) (h1 : n ≤ 1073741824) :
    Calls Tryd.prog 29 #[.int .i64 n] w fun e w' => e = .returned (.tuple #[.string ⟨(Lib.decDigits n.toNat).toArray⟩, .int .i64 0]) ∧ w' = w := by
  have h := plain_nat n.toNat w (by omega)
  rw [Int.toNat_of_nonneg h0] at h
  exact h
theorem itoa_neg (n : Int) (h : n < 0) : (45 : UInt8) :: Lib.decDigits (-n).toNat = Lib.itoa n := by
  unfold Lib.itoa
  rw [if_pos h, show n.natAbs = (-n).toNat by omega]
theorem itoa_pos (n : Int) (h : 0 ≤ n) : Lib.decDigits n.toNat = Lib.itoa n := by
  unfold Lib.itoa
  rw [if_neg (by omega)]
theorem minus_cons (l : List UInt8) : Value.string ({ data := #[45] } ++ { data := l.toArray }) = Value.string ⟨((45 : UInt8) :: l).toArray⟩ := by
  refine congrArg Value.string (ByteArray.ext ?_)
  simp
theorem ret_val2 {a b : Value} {k : IntKind} {c : Int} (h : a = b) : Ending.returned (.tuple #[a, .int k c]) = .returned (.tuple #[b, .int k c]) := by rw [h]
set_option maxHeartbeats 400000 in
theorem rText_in (n : Int) (w : World) (h0 : -1073741824 ≤ n) (h1 : n ≤ 1073741823) :
    Calls Tryd.prog 12 #[.int .i64 n] w fun e w' => e = .returned (.tuple #[.string ⟨(Lib.itoa n).toArray⟩, .int .i64 0]) ∧ w' = w := by
  by_cases hs : n < 0
  · have hp := plain_int (-n) w (by omega) (by omega)
    have hl := dec_len (-n).toNat
    have hi : Hid ((45 : UInt8) :: Lib.decDigits (-n).toNat = Lib.itoa n) := itoa_neg n hs
    generalize Lib.decDigits (-n).toNat = l at *
    generalize Lib.itoa n = l' at *
    go_enter Tryd.func12, Tryd.ntmps12
    go_wp2_with (first
      | (go_at_call 25; refine (rIn_yes _ _ (by omega) (by omega)).mono ?_; rintro e w' ⟨rfl, rfl⟩)
      | (go_at_call 29; refine hp.mono ?_; rintro e w' ⟨rfl, rfl⟩))
    go_ret2
    exact ⟨ret_val2 ((minus_cons l).trans (by rw [hi.out])), rfl⟩
  · have hp := plain_int n w (by omega) (by omega)
    rw [itoa_pos n (by omega)] at hp
    generalize Lib.itoa n = l' at *
    go_enter Tryd.func12, Tryd.ntmps12
    go_wp2_with (first
      | (go_at_call 25; refine (rIn_yes _ _ (by omega) (by omega)).mono ?_; rintro e w' ⟨rfl, rfl⟩)
      | (go_at_call 29; refine hp.mono ?_; rintro e w' ⟨rfl, rfl⟩))
    go_ret2
    exact ⟨rfl, rfl⟩
set_option maxHeartbeats 400000 in
theorem rText_out (n : Int) (w : World) (h : n < -1073741824 ∨ 1073741823 < n) :
    Calls Tryd.prog 12 #[.int .i64 n] w fun e w' => e = .returned (.tuple #[.string ⟨#[]⟩, .int .i64 1]) ∧ w' = w := by
  go_enter Tryd.func12, Tryd.ntmps12
  go_wp2_with (go_at_call 25; refine (rIn_no _ _ (by omega)).mono ?_; rintro e w' ⟨rfl, rfl⟩)
  go_ret2
  exact ⟨rfl, rfl⟩
set_option maxHeartbeats 400000 in
theorem Text_out (n : Int) (w : World) (h : n < -1073741824 ∨ 1073741823 < n) :
    Calls Tryd.prog 11 #[.int .i64 n] w fun e w' => e = .returned (.tuple #[.string ⟨#[]⟩, .int .i64 1]) ∧ w' = w := by
  go_enter Tryd.func11, Tryd.ntmps11
  go_wp2_with (go_at_call 23; refine (inRange_no _ _ (by omega)).mono ?_; rintro e w' ⟨rfl, rfl⟩)
  go_ret2
  exact ⟨rfl, rfl⟩
set_option maxHeartbeats 400000 in
theorem Text_in (n : Int) (w : World) (htab : Lib.TabIs Tryd.prog w "internal/strconv.uint64pow10" .u64 Lib.pow10Tab) (h0 : -1073741824 ≤ n) (h1 : n ≤ 1073741823) :
    Calls Tryd.prog 11 #[.int .i64 n] w fun e w' => e = .returned (.tuple #[.string ⟨(Lib.itoa n).toArray⟩, .int .i64 0]) ∧ ∃ k os, w' = Go.Sort.grow (w.drewN k) os := by
  have hp := Tryd.strconv_Itoa n (by omega) (by omega) w htab
  clear htab
  generalize Lib.itoa n = l' at *
  go_enter Tryd.func11, Tryd.ntmps11
  go_wp2_with (first
    | (go_at_call 23; refine (inRange_yes _ _ (by omega) (by omega)).mono ?_; rintro e w' ⟨rfl, rfl⟩)
    | (go_at_call 28; refine hp.mono ?_; rintro e w' ⟨rfl, k, os, rfl⟩))
  go_ret2
  exact ⟨rfl, k, os, rfl⟩
end Go.Proofs.YtookbbephlllmabDoor
