import Derived.Test.YtimlomobbnnehaaGreatDoorG02LCut
import Derived.Deep.Draws
import Derived.Lib.SmallJoins
namespace Go.Proofs.YtimlomobbnnehaaGreatDoor
open Go.RowKit
set_option linter.unusedVariables false
set_option linter.unusedSimpArgs false
theorem isObN_ok (n : Nat) (hn : n < 256) (w : World) : Calls Tryz.prog 48 #[.int .u8 n] w fun e w' => e = .returned (.bool (isO n)) ∧ w' = w := by
  have h := isOb_ok (UInt8.ofNat n) w
  rw [UInt8.toNat_ofNat_of_lt' hn] at h
  exact h
set_option maxHeartbeats 4000000 in
set_option maxRecDepth 1000000 in
theorem kindOf_32 (w : World) : Calls Tryz.prog 23 #[.int .u8 32] w fun e w' => e = .returned (.int .i64 1) ∧ w' = w := by
  go_enter Tryz.func23, Tryz.ntmps23
  go_wp2
  go_ret
  exact ⟨rfl, rfl⟩
set_option maxHeartbeats 4000000 in
set_option maxRecDepth 1000000 in
theorem kindOf_9 (w : World) : Calls Tryz.prog 23 #[.int .u8 9] w fun e w' => e = .returned (.int .i64 1) ∧ w' = w := by
  go_enter Tryz.func23, Tryz.ntmps23
  go_wp2
  go_ret
  exact ⟨rfl, rfl⟩
set_option maxHeartbeats 4000000 in
set_option maxRecDepth 1000000 in
theorem kindOf_10 (w : World) : Calls Tryz.prog 23 #[.int .u8 10] w fun e w' => e = .returned (.int .i64 1) ∧ w' = w := by
  go_enter Tryz.func23, Tryz.ntmps23
  go_wp2
  go_ret
  exact ⟨rfl, rfl⟩
set_option maxHeartbeats 4000000 in
set_option maxRecDepth 1000000 in
theorem kindOf_13 (w : World) : Calls Tryz.prog 23 #[.int .u8 13] w fun e w' => e = .returned (.int .i64 1) ∧ w' = w := by
  go_enter Tryz.func23, Tryz.ntmps23
  go_wp2
  go_ret
  exact ⟨rfl, rfl⟩
set_option maxHeartbeats 4000000 in
set_option maxRecDepth 1000000 in
theorem kindOf_34 (w : World) : Calls Tryz.prog 23 #[.int .u8 34] w fun e w' => e = .returned (.int .i64 2) ∧ w' = w := by
  go_enter Tryz.func23, Tryz.ntmps23
  go_wp2
  go_ret
  exact ⟨rfl, rfl⟩
set_option maxHeartbeats 4000000 in
set_option maxRecDepth 1000000 in
theorem kindOf_35 (w : World) : Calls Tryz.prog 23 #[.int .u8 35] w fun e w' => e = .returned (.int .i64 5) ∧ w' = w := by
  go_enter Tryz.func23, Tryz.ntmps23
  go_wp2
  go_ret
  exact ⟨rfl, rfl⟩
set_option maxHeartbeats 4000000 in
set_option maxRecDepth 1000000 in
theorem kindOf_39 (w : World) : Calls Tryz.prog 23 #[.int .u8 39] w fun e w' => e = .returned (.int .i64 7) ∧ w' = w := by
  go_enter Tryz.func23, Tryz.ntmps23
  go_wp2
  go_ret
  exact ⟨rfl, rfl⟩
set_option maxHeartbeats 4000000 in
set_option maxRecDepth 1000000 in
theorem kindOf_40 (w : World) : Calls Tryz.prog 23 #[.int .u8 40] w fun e w' => e = .returned (.int .i64 8) ∧ w' = w := by
  go_enter Tryz.func23, Tryz.ntmps23
  go_wp2
  go_ret
  exact ⟨rfl, rfl⟩
set_option maxHeartbeats 4000000 in
set_option maxRecDepth 1000000 in
theorem kindOf_41 (w : World) : Calls Tryz.prog 23 #[.int .u8 41] w fun e w' => e = .returned (.int .i64 8) ∧ w' = w := by
  go_enter Tryz.func23, Tryz.ntmps23
  go_wp2
  go_ret
  exact ⟨rfl, rfl⟩
set_option maxHeartbeats 4000000 in
set_option maxRecDepth 1000000 in
theorem kindOf_91 (w : World) : Calls Tryz.prog 23 #[.int .u8 91] w fun e w' => e = .returned (.int .i64 8) ∧ w' = w := by
  go_enter Tryz.func23, Tryz.ntmps23
  go_wp2
  go_ret
  exact ⟨rfl, rfl⟩
set_option maxHeartbeats 4000000 in
set_option maxRecDepth 1000000 in
theorem kindOf_93 (w : World) : Calls Tryz.prog 23 #[.int .u8 93] w fun e w' => e = .returned (.int .i64 8) ∧ w' = w := by
  go_enter Tryz.func23, Tryz.ntmps23
  go_wp2
  go_ret
  exact ⟨rfl, rfl⟩
set_option maxHeartbeats 4000000 in
set_option maxRecDepth 1000000 in
theorem kindOf_124 (w : World) : Calls Tryz.prog 23 #[.int .u8 124] w fun e w' => e = .returned (.int .i64 8) ∧ w' = w := by
  go_enter Tryz.func23, Tryz.ntmps23
  go_wp2
  go_ret
  exact ⟨rfl, rfl⟩
set_option maxHeartbeats 4000000 in
set_option maxRecDepth 1000000 in
theorem kindOf_58 (w : World) : Calls Tryz.prog 23 #[.int .u8 58] w fun e w' => e = .returned (.int .i64 8) ∧ w' = w := by
  go_enter Tryz.func23, Tryz.ntmps23
  go_wp2
  go_ret
  exact ⟨rfl, rfl⟩
set_option maxHeartbeats 4000000 in
set_option maxRecDepth 1000000 in
theorem kindOf_94 (w : World) : Calls Tryz.prog 23 #[.int .u8 94] w fun e w' => e = .returned (.int .i64 8) ∧ w' = w := by
  go_enter Tryz.func23, Tryz.ntmps23
  go_wp2
  go_ret
  exact ⟨rfl, rfl⟩
set_option maxHeartbeats 4000000 in
set_option maxRecDepth 1000000 in
theorem kindOf_46 (w : World) : Calls Tryz.prog 23 #[.int .u8 46] w fun e w' => e = .returned (.int .i64 8) ∧ w' = w := by
  go_enter Tryz.func23, Tryz.ntmps23
  go_wp2
  go_ret
  exact ⟨rfl, rfl⟩
set_option maxHeartbeats 4000000 in
set_option maxRecDepth 1000000 in
theorem kindOf_59 (w : World) : Calls Tryz.prog 23 #[.int .u8 59] w fun e w' => e = .returned (.int .i64 8) ∧ w' = w := by
  go_enter Tryz.func23, Tryz.ntmps23
  go_wp2
  go_ret
  exact ⟨rfl, rfl⟩
set_option maxHeartbeats 4000000 in
set_option maxRecDepth 1000000 in
theorem kindOf_L (n : Nat) (hn : n < 256) (w : World) (q32 : ¬ (n : Int) = 32) (q9 : ¬ (n : Int) = 9) (q10 : ¬ (n : Int) = 10) (q13 : ¬ (n : Int) = 13) (q34 : ¬ (n : Int) = 34) (q35 : ¬ (n : Int) = 35) (q39 : ¬ (n : Int) = 39) (q40 : ¬ (n : Int) = 40) (q41 : ¬ (n : Int) = 41) (q91 : ¬ (n : Int) = 91) (q93 : ¬ (n : Int) = 93) (q124 : ¬ (n : Int) = 124) (q58 : ¬ (n : Int) = 58) (q94 : ¬ (n : Int) = 94) (q46 : ¬ (n : Int) = 46) (q59 : ¬ (n : Int) = 59) (hL : isL n = true) : Calls Tryz.prog 23 #[.int .u8 n] w fun e w' => e = .returned (.int .i64 3) ∧ w' = w := by
  go_enter Tryz.func23, Tryz.ntmps23
  go_wp2_with (first | (go_at_call 46; refine (isLetter_ok n _).mono ?_; rintro e w' ⟨rfl, rfl⟩) | (go_at_call 47; refine (isDigit_ok n _).mono ?_; rintro e w' ⟨rfl, rfl⟩) | (go_at_call 48; refine (isObN_ok n hn _).mono ?_; rintro e w' ⟨rfl, rfl⟩))
  go_ret
  exact ⟨rfl, rfl⟩
set_option maxHeartbeats 4000000 in
set_option maxRecDepth 1000000 in
theorem kindOf_D (n : Nat) (hn : n < 256) (w : World) (q32 : ¬ (n : Int) = 32) (q9 : ¬ (n : Int) = 9) (q10 : ¬ (n : Int) = 10) (q13 : ¬ (n : Int) = 13) (q34 : ¬ (n : Int) = 34) (q35 : ¬ (n : Int) = 35) (q39 : ¬ (n : Int) = 39) (q40 : ¬ (n : Int) = 40) (q41 : ¬ (n : Int) = 41) (q91 : ¬ (n : Int) = 91) (q93 : ¬ (n : Int) = 93) (q124 : ¬ (n : Int) = 124) (q58 : ¬ (n : Int) = 58) (q94 : ¬ (n : Int) = 94) (q46 : ¬ (n : Int) = 46) (q59 : ¬ (n : Int) = 59) (hL : isL n = false) (hD : isD n = true) : Calls Tryz.prog 23 #[.int .u8 n] w fun e w' => e = .returned (.int .i64 4) ∧ w' = w := by
  go_enter Tryz.func23, Tryz.ntmps23
  go_wp2_with (first | (go_at_call 46; refine (isLetter_ok n _).mono ?_; rintro e w' ⟨rfl, rfl⟩) | (go_at_call 47; refine (isDigit_ok n _).mono ?_; rintro e w' ⟨rfl, rfl⟩) | (go_at_call 48; refine (isObN_ok n hn _).mono ?_; rintro e w' ⟨rfl, rfl⟩))
  go_ret
  exact ⟨rfl, rfl⟩
set_option maxHeartbeats 4000000 in
set_option maxRecDepth 1000000 in
theorem kindOf_O (n : Nat) (hn : n < 256) (w : World) (q32 : ¬ (n : Int) = 32) (q9 : ¬ (n : Int) = 9) (q10 : ¬ (n : Int) = 10) (q13 : ¬ (n : Int) = 13) (q34 : ¬ (n : Int) = 34) (q35 : ¬ (n : Int) = 35) (q39 : ¬ (n : Int) = 39) (q40 : ¬ (n : Int) = 40) (q41 : ¬ (n : Int) = 41) (q91 : ¬ (n : Int) = 91) (q93 : ¬ (n : Int) = 93) (q124 : ¬ (n : Int) = 124) (q58 : ¬ (n : Int) = 58) (q94 : ¬ (n : Int) = 94) (q46 : ¬ (n : Int) = 46) (q59 : ¬ (n : Int) = 59) (hL : isL n = false) (hD : isD n = false) (hO : isO n = true) : Calls Tryz.prog 23 #[.int .u8 n] w fun e w' => e = .returned (.int .i64 6) ∧ w' = w := by
  go_enter Tryz.func23, Tryz.ntmps23
  go_wp2_with (first | (go_at_call 46; refine (isLetter_ok n _).mono ?_; rintro e w' ⟨rfl, rfl⟩) | (go_at_call 47; refine (isDigit_ok n _).mono ?_; rintro e w' ⟨rfl, rfl⟩) | (go_at_call 48; refine (isObN_ok n hn _).mono ?_; rintro e w' ⟨rfl, rfl⟩))
  go_ret
  exact ⟨rfl, rfl⟩
set_option maxHeartbeats 4000000 in
set_option maxRecDepth 1000000 in
theorem kindOf_X (n : Nat) (hn : n < 256) (w : World) (q32 : ¬ (n : Int) = 32) (q9 : ¬ (n : Int) = 9) (q10 : ¬ (n : Int) = 10) (q13 : ¬ (n : Int) = 13) (q34 : ¬ (n : Int) = 34) (q35 : ¬ (n : Int) = 35) (q39 : ¬ (n : Int) = 39) (q40 : ¬ (n : Int) = 40) (q41 : ¬ (n : Int) = 41) (q91 : ¬ (n : Int) = 91) (q93 : ¬ (n : Int) = 93) (q124 : ¬ (n : Int) = 124) (q58 : ¬ (n : Int) = 58) (q94 : ¬ (n : Int) = 94) (q46 : ¬ (n : Int) = 46) (q59 : ¬ (n : Int) = 59) (hL : isL n = false) (hD : isD n = false) (hO : isO n = false) : Calls Tryz.prog 23 #[.int .u8 n] w fun e w' => e = .returned (.int .i64 0) ∧ w' = w := by
  go_enter Tryz.func23, Tryz.ntmps23
  go_wp2_with (first | (go_at_call 46; refine (isLetter_ok n _).mono ?_; rintro e w' ⟨rfl, rfl⟩) | (go_at_call 47; refine (isDigit_ok n _).mono ?_; rintro e w' ⟨rfl, rfl⟩) | (go_at_call 48; refine (isObN_ok n hn _).mono ?_; rintro e w' ⟨rfl, rfl⟩))
  go_ret
  exact ⟨rfl, rfl⟩
end Go.Proofs.YtimlomobbnnehaaGreatDoor

namespace Go.Proofs.YtimlomobbnnehaaGreatDoor
open Go.RowKit
set_option linter.unusedVariables false
set_option linter.unusedSimpArgs false
theorem kindOf_ok (n : Nat) (hn : n < 256) (w : World) : Calls Tryz.prog 23 #[.int .u8 n] w fun e w' => e = .returned (.int .i64 (kindN n)) ∧ w' = w := by
  by_cases h32 : n = 32
  · subst h32; exact kindOf_32 w
  by_cases h9 : n = 9
  · subst h9; exact kindOf_9 w
  by_cases h10 : n = 10
  · subst h10; exact kindOf_10 w
  by_cases h13 : n = 13
  · subst h13; exact kindOf_13 w
  by_cases h34 : n = 34
  · subst h34; exact kindOf_34 w
  by_cases h35 : n = 35
  · subst h35; exact kindOf_35 w
  by_cases h39 : n = 39
  · subst h39; exact kindOf_39 w
  by_cases h40 : n = 40
  · subst h40; exact kindOf_40 w
  by_cases h41 : n = 41
  · subst h41; exact kindOf_41 w
  by_cases h91 : n = 91
  · subst h91; exact kindOf_91 w
  by_cases h93 : n = 93
  · subst h93; exact kindOf_93 w
  by_cases h124 : n = 124
  · subst h124; exact kindOf_124 w
  by_cases h58 : n = 58
  · subst h58; exact kindOf_58 w
  by_cases h94 : n = 94
  · subst h94; exact kindOf_94 w
  by_cases h46 : n = 46
  · subst h46; exact kindOf_46 w
  by_cases h59 : n = 59
  · subst h59; exact kindOf_59 w
  have hb : ¬ isB n = true := fun h => by rw [isB_iff] at h; omega
  have hm : ¬ markK n ≠ 0 := fun h => by
    unfold markK at h
    simp [h40, h41, h91, h93, h124, h58, h94, h46, h59] at h
  have e : kindN n = if isL n = true then 3 else if isD n = true then 4 else if isO n = true then 6 else 0 := by
    unfold kindN
    rw [if_neg hb, if_neg h34, if_neg h35, if_neg h39, if_neg hm]
  have Z : ∀ v : Nat, ¬ n = v → ¬ (n : Int) = (v : Int) := fun v h h2 => h (Int.ofNat_inj.1 h2)
  rw [e]
  by_cases cL : isL n = true
  · rw [if_pos cL]; exact kindOf_L n hn w (Z 32 h32) (Z 9 h9) (Z 10 h10) (Z 13 h13) (Z 34 h34) (Z 35 h35) (Z 39 h39) (Z 40 h40) (Z 41 h41) (Z 91 h91) (Z 93 h93) (Z 124 h124) (Z 58 h58) (Z 94 h94) (Z 46 h46) (Z 59 h59) cL
  · rw [if_neg cL]
    have cL' : isL n = false := by simpa using cL
    by_cases cD : isD n = true
    · rw [if_pos cD]; exact kindOf_D n hn w (Z 32 h32) (Z 9 h9) (Z 10 h10) (Z 13 h13) (Z 34 h34) (Z 35 h35) (Z 39 h39) (Z 40 h40) (Z 41 h41) (Z 91 h91) (Z 93 h93) (Z 124 h124) (Z 58 h58) (Z 94 h94) (Z 46 h46) (Z 59 h59) cL' cD
    · rw [if_neg cD]
      have cD' : isD n = false := by simpa using cD
      by_cases cO : isO n = true
      · rw [if_pos cO]; exact kindOf_O n hn w (Z 32 h32) (Z 9 h9) (Z 10 h10) (Z 13 h13) (Z 34 h34) (Z 35 h35) (Z 39 h39) (Z 40 h40) (Z 41 h41) (Z 91 h91) (Z 93 h93) (Z 124 h124) (Z 58 h58) (Z 94 h94) (Z 46 h46) (Z 59 h59) cL' cD' cO
      · rw [if_neg cO]; exact kindOf_X n hn w (Z 32 h32) (Z 9 h9) (Z 10 h10) (Z 13 h13) (Z 34 h34) (Z 35 h35) (Z 39 h39) (Z 40 h40) (Z 41 h41) (Z 91 h91) (Z 93 h93) (Z 124 h124) (Z 58 h58) (Z 94 h94) (Z 46 h46) (Z 59 h59) cL' cD' (by simpa using cO)
theorem cutQ_cmt {l : Bs} (h : hd l = 34) : cutQ l = match cmt (l.drop 1) with | none => (0, [], 0, 0) | some n => (0, [], 0, n + 1) := by
  cases l with
  | nil => simp [hd] at h
  | cons c r =>
    have h' : c.toNat = 34 := h
    have e : (c :: r).drop 1 = r := rfl
    unfold cutQ cut
    rw [e]
    simp only [h', show isB 34 = false from rfl]
    cases cmt r <;> simp
theorem cutQ_word {l : Bs} (h : isL (hd l) = true) : cutQ l = if kwLen l = 0 then (1, l.take (nameLen l), 0, nameLen l) else (2, l.take (nameLen l), 0, kwLen l) := by
  have hp := nameLen_pos h
  cases l with
  | nil => simp [hd, isL] at h
  | cons c r =>
    have h' : isL c.toNat = true := h
    have hb : isB c.toNat = false := by rw [Bool.eq_false_iff]; intro h2; rw [isB_iff] at h2; rw [isL_iff] at h'; omega
    have hq : ¬ c.toNat = 34 := by intro h2; rw [isL_iff] at h'; omega
    by_cases hc : colonAt ((c :: r).drop (nameLen (c :: r))) = true
    · have hk : kwLen (c :: r) = nameLen (c :: r) + 1 := by unfold kwLen; rw [if_pos ⟨by omega, hc⟩]
      rw [hk, if_neg (by omega)]
      unfold cutQ cut
      simp only [hb, hq, h', hc, if_true, if_false, Bool.false_eq_true]
    · have hk : kwLen (c :: r) = 0 := by unfold kwLen; rw [if_neg (fun h2 => hc h2.2)]
      rw [hk, if_pos rfl]
      unfold cutQ cut
      simp only [hb, hq, h', hc, if_true, if_false, Bool.false_eq_true]
theorem cutQ_op {l : Bs} (h : isO (hd l) = true) : cutQ l = (3, l.take (opLen l), 0, opLen l) := by
  cases l with
  | nil => simp [hd, isO] at h
  | cons c r =>
    have h' : isO c.toNat = true := h
    rw [isO_iff] at h'
    have hb : isB c.toNat = false := by rw [Bool.eq_false_iff]; intro h2; rw [isB_iff] at h2; omega
    have hL : isL c.toNat = false := by rw [Bool.eq_false_iff]; intro h2; rw [isL_iff] at h2; omega
    have hD : isD c.toNat = false := by rw [Bool.eq_false_iff]; intro h2; rw [isD_iff] at h2; omega
    have hq : ¬ c.toNat = 34 := by omega
    have hh : ¬ c.toNat = 35 := by omega
    unfold cutQ cut
    simp only [hb, hq, hL, hD, hh, if_false, Bool.false_eq_true]
    rw [if_pos (show isO c.toNat = true from h)]
theorem cutQ_hash {l : Bs} (h : hd l = 35) : cutQ l = if symLen (l.drop 1) = 0 then (if hd (l.drop 1) = 40 then (7, [], 0, 2) else (0, [], 0, 0)) else (5, (l.drop 1).take (symLen (l.drop 1)), 0, symLen (l.drop 1) + 1) := by
  cases l with
  | nil => simp [hd] at h
  | cons c r =>
    have h' : c.toNat = 35 := h
    have e : (c :: r).drop 1 = r := rfl
    unfold cutQ cut
    rw [e]
    simp only [h', show isB 35 = false from rfl, show isL 35 = false from rfl, show isD 35 = false from rfl, if_false, Bool.false_eq_true]
    by_cases hs : symLen r = 0
    · simp only [hs, if_true]
      by_cases h40 : hd r = 40
      · simp [h40, mk]
      · simp [h40]
    · simp [hs]
theorem cutQ_mark {l : Bs} (h : kindN (hd l) = 8) : cutQ l = if hd l = 58 ∧ hd (l.drop 1) = 61 then (14, [], 0, 2) else (markK (hd l), [], 0, 1) := by
  cases l with
  | nil => simp [hd, kindN, markK, isB, isL, isD, isO] at h
  | cons c r =>
    have e : (c :: r).drop 1 = r := rfl
    have e0 : hd (c :: r) = c.toNat := rfl
    have key : c.toNat = 40 ∨ c.toNat = 41 ∨ c.toNat = 91 ∨ c.toNat = 93 ∨ c.toNat = 124 ∨ c.toNat = 58 ∨ c.toNat = 94 ∨ c.toNat = 46 ∨ c.toNat = 59 := by
      have K : ∀ n, n < 256 → kindN n = 8 → n = 40 ∨ n = 41 ∨ n = 91 ∨ n = 93 ∨ n = 124 ∨ n = 58 ∨ n = 94 ∨ n = 46 ∨ n = 59 := by decide +kernel
      exact K c.toNat c.toNat_lt h
    unfold cutQ cut
    rw [e, e0]
    rcases key with k | k | k | k | k | k | k | k | k <;> simp only [k, isB, isL, isD, isO, markK, mk] <;> by_cases h61 : hd r = 61 <;> simp [h61]
theorem cutQ_blank {l : Bs} (h : isB (hd l) = true) : cutQ l = (0, [], 0, 1) := by
  cases l with
  | nil => simp [hd, isB] at h
  | cons c r =>
    have h' : isB c.toNat = true := h
    unfold cutQ cut
    simp only [h', if_true]
theorem cutQ_other {l : Bs} (h : kindN (hd l) = 0) : cutQ l = (0, [], 0, 0) := by
  cases l with
  | nil => rfl
  | cons c r =>
    have K : ∀ n, n < 256 → kindN n = 0 → isB n = false ∧ n ≠ 34 ∧ isL n = false ∧ isD n = false ∧ n ≠ 35 ∧ isO n = false ∧ n ≠ 39 ∧ n ≠ 58 ∧ markK n = 0 := by decide +kernel
    obtain ⟨k1, k2, k3, k4, k5, k6, k7, k8, k9⟩ := K c.toNat c.toNat_lt h
    unfold cutQ cut
    simp [k1, k2, k3, k4, k5, k6, k7, k8, k9]
end Go.Proofs.YtimlomobbnnehaaGreatDoor

namespace Go.Proofs.YtimlomobbnnehaaGreatDoor
open Go.RowKit
set_option linter.unusedVariables false
set_option linter.unusedSimpArgs false
theorem lt_of_heap {w : World} {b : Nat} {o : Obj} (h : w.heap[b]? = some o) : b < w.heap.size := (Array.getElem?_eq_some_iff.1 h).1
theorem cell_in {w : World} {b : Nat} {A : Array Value} {t : TypeId} {f : Nat × Nat} (h : w.heap[b]? = some (.cells A t f)) {i : Nat} : w.cell? ⟨b, i, none⟩ = A[i]? := by
  simp [World.cell?, h]
theorem frozen_in {w : World} {b : Nat} {A : Array Value} {t : TypeId} (h : w.heap[b]? = some (.cells A t (0, 0))) (i : Nat) : w.frozen? ⟨b, i, none⟩ = false := by
  simp [World.frozen?, h]
theorem set_in {w : World} {b : Nat} {A : Array Value} {t : TypeId} {f : Nat × Nat} (h : w.heap[b]? = some (.cells A t f)) (i : Nat) (v : Value) : (w.setCell ⟨b, i, none⟩ v).heap[b]? = some (.cells (A.setIfInBounds i v) t f) := by
  simp [World.setCell, Array.getElem?_modify, h]
def z4 : Obj := .cells #[.int .i64 0, .string ⟨#[]⟩, .int .i64 0, .int .i64 0] 28 (0, 0)
theorem res_in {w W : World} (h : Bl (w.alloc (.cells #[.int .i64 0, .string ⟨#[]⟩, .int .i64 0, .int .i64 0] 28)) W) : W.heap[w.heap.size]? = some z4 ∧ Bl w W ∧ w.heap.size < W.heap.size := by
  have e : W.heap[w.heap.size]? = some z4 := by
    rw [h.block w.heap.size (by simp)]
    exact heap_alloc_new w _
  exact ⟨e, (Bl.alloc w _).trans h, lt_of_heap e⟩
theorem resF {W : World} {B : Nat} (h : W.heap[B]? = some z4) :
    W.cell? ⟨B, 0, none⟩ = some (.int .i64 0) ∧ W.cell? ⟨B, 1, none⟩ = some (.string ⟨#[]⟩) ∧ W.cell? ⟨B, 2, none⟩ = some (.int .i64 0) ∧ W.cell? ⟨B, 3, none⟩ = some (.int .i64 0) ∧
    W.frozen? ⟨B, 0, none⟩ = false ∧ W.frozen? ⟨B, 1, none⟩ = false ∧ W.frozen? ⟨B, 2, none⟩ = false ∧ W.frozen? ⟨B, 3, none⟩ = false :=
  ⟨by rw [cell_in h]; rfl, by rw [cell_in h]; rfl, by rw [cell_in h]; rfl, by rw [cell_in h]; rfl, frozen_in h 0, frozen_in h 1, frozen_in h 2, frozen_in h 3⟩
theorem set_bl {w W : World} (h : Bl w W) {B : Nat} (hB : w.heap.size ≤ B) (i : Nat) (v : Value) : Bl w (W.setCell ⟨B, i, none⟩ v) :=
  Below.trans h ⟨rfl, rfl, rfl, by simp, fun k hk => Below.heap_setCell _ _ _ _ (by show k ≠ B; omega)⟩
theorem ret4 {f : Func} {W w : World} {B : Nat} {tm : Array Value} (x : Q4) {v0 v1 v2 v3 : Value} (hres : f.results = #[.cell 2 28, .tmp 3]) (hr : W.heap[B]? = some z4) (hb : Bl w W) (hB : w.heap.size ≤ B)
    (h2 : tm.getD 2 undef = .pointer (some ⟨B, 0, none⟩)) (h3 : tm.getD 3 undef = .int .i64 x.2.2.2) (e0 : v0 = .int .i64 x.1) (e1 : v1 = .string (ba x.2.1)) (e2 : v2 = .int .i64 x.2.2.1) (e3 : v3 = .int .i64 0) :
    bodyPost Tryz.prog f (fun e w' => e = .returned (cv x) ∧ Bl w w') .ret ⟨tm, []⟩ ((((W.setCell ⟨B, 0, none⟩ v0).setCell ⟨B, 1, none⟩ v1).setCell ⟨B, 2, none⟩ v2).setCell ⟨B, 3, none⟩ v3) := by
  subst e0 e1 e2 e3
  obtain ⟨V, hV⟩ : ∃ V, V = ((((W.setCell ⟨B, 0, none⟩ (.int .i64 x.1)).setCell ⟨B, 1, none⟩ (.string (ba x.2.1))).setCell ⟨B, 2, none⟩ (.int .i64 x.2.2.1)).setCell ⟨B, 3, none⟩ (.int .i64 0)) := ⟨_, rfl⟩
  have hVb : V.heap[B]? = some (.cells #[.int .i64 x.1, .string (ba x.2.1), .int .i64 x.2.2.1, .int .i64 0] 28 (0, 0)) := by
    rw [hV, set_in (set_in (set_in (set_in hr 0 _) 1 _) 2 _) 3 _]
    rfl
  have hVl : Bl w V := by rw [hV]; exact set_bl (set_bl (set_bl (set_bl hb hB 0 _) hB 1 _) hB 2 _) hB 3 _
  rw [← hV]
  clear hV
  have x0 : V.cell? ⟨B, 0, none⟩ = some (.int .i64 x.1) := by rw [cell_in hVb]; rfl
  have x1 : V.cell? ⟨B, 1, none⟩ = some (.string (ba x.2.1)) := by rw [cell_in hVb]; rfl
  have x2 : V.cell? ⟨B, 2, none⟩ = some (.int .i64 x.2.2.1) := by rw [cell_in hVb]; rfl
  have x3 : V.cell? ⟨B, 3, none⟩ = some (.int .i64 0) := by rw [cell_in hVb]; rfl
  have h2' : tm[2]?.getD undef = .pointer (some ⟨B, 0, none⟩) := by simpa using h2
  have h3' : tm[3]?.getD undef = .int .i64 x.2.2.2 := by simpa using h3
  refine bodyPost_ret (v := cv x) (by simp [results, hres, go_sem, h2, h3, h2', h3', x0, x1, x2, x3, cv]) rfl ⟨rfl, hVl⟩
end Go.Proofs.YtimlomobbnnehaaGreatDoor

namespace Go.Proofs.YtimlomobbnnehaaGreatDoor
open Go.RowKit
set_option linter.unusedVariables false
set_option linter.unusedSimpArgs false
theorem indexByte_b (s : ByteArray) (c : Int) (k : Int) (h : Lib.indexByte s.data.toList c.toNat.toUInt8 = k) (w : World) : Calls Tryz.prog 59 #[.string s, .int .u8 c] w fun e w' => e = .returned (.int .i64 k) ∧ w' = w := by
  subst h; exact Tryz.strings_IndexByte s c w
set_option maxHeartbeats 4000000 in
theorem cutNothing_v (s : ByteArray) (w : World) : Calls Tryz.prog 37 #[.string s] w fun e w' => e = .returned (.tuple #[.agg #[.int .i64 0, .string ⟨#[]⟩, .int .i64 0, .int .i64 0], .int .i64 0]) ∧ w' = w.alloc (.cells #[.int .i64 0, .string ⟨#[]⟩, .int .i64 0, .int .i64 0] 28) := by
  go_enter Tryz.func37, Tryz.ntmps37
  go_wp2
  refine bodyPost_ret (v := .tuple #[.agg #[.int .i64 0, .string ⟨#[]⟩, .int .i64 0, .int .i64 0], .int .i64 0]) (by simp [results, Tryz.results37, go_sem]) rfl ⟨rfl, rfl⟩
theorem Bl.alloc2 (w : World) (o o' : Obj) : Bl w ((w.alloc o).alloc o') := (Bl.alloc w o).trans (Bl.alloc _ o')
set_option maxHeartbeats 4000000 in
set_option maxRecDepth 1000000 in
theorem cutComment_ok (s : ByteArray) (w : World) (hs : s.size ≤ 140737488355328) (h : hd (lst s) = 34) : Calls Tryz.prog 39 #[.string s] w fun e w' => e = .returned (cv (cutQ (lst s))) ∧ Bl w w' := by
  have hq := cutQ_cmt h
  have hp := hd_lt h (by omega)
  rw [lst_len] at hp
  have hi := indexByte_cmt ((lst s).drop 1)
  cases hc : cmt ((lst s).drop 1) with
  | none =>
    rw [hc] at hq hi
    have hi' : Lib.indexByte (s.extract 1 s.size).data.toList (34 : Int).toNat.toUInt8 = -1 := by
      rw [show (s.extract 1 s.size).data.toList = (lst s).drop 1 from lst_from s 1]; exact hi
    simp only at hq
    rw [hq]
    clear hq hi hc h
    go_enter Tryz.func39, Tryz.ntmps39
    go_wp2_with (first | (go_at_call 59; refine (indexByte_b _ 34 (-1) hi' _).mono ?_; rintro e w1 ⟨rfl, rfl⟩) | (go_at_call 37; refine (cutNothing_v s _).mono ?_; rintro e w2 ⟨rfl, rfl⟩))
    refine bodyPost_ret (v := cv (0, [], 0, 0)) (by simp [results, Tryz.results39, go_sem, cv, ba]) rfl ⟨rfl, Bl.alloc2 _ _ _⟩
  | some n =>
    have hn := cmt_n _ _ hc
    rw [List.length_drop, lst_len] at hn
    rw [hc] at hq hi
    have hi' : Lib.indexByte (s.extract 1 s.size).data.toList (34 : Int).toNat.toUInt8 = (n : Int) - 1 := by
      rw [show (s.extract 1 s.size).data.toList = (lst s).drop 1 from lst_from s 1]; exact hi
    simp only at hq
    rw [hq]
    clear hq hi hc h
    go_enter Tryz.func39, Tryz.ntmps39
    go_wp2_with (first | (go_at_call 59; refine (indexByte_b _ 34 ((n : Int) - 1) hi' _).mono ?_; rintro e w1 ⟨rfl, rfl⟩) | (go_at_call 37; refine (cutNothing_v s _).mono ?_; rintro e w2 ⟨rfl, rfl⟩))
    refine bodyPost_ret (v := cv (0, [], 0, n + 1)) (by simp [results, Tryz.results39, go_sem, cv, ba]; omega) rfl ⟨rfl, Bl.alloc _ _⟩
set_option maxHeartbeats 4000000 in
set_option maxRecDepth 1000000 in
theorem cutWord_ok (s : ByteArray) (w : World) (hs : s.size ≤ 140737488355328) (h : isL (hd (lst s)) = true) : Calls Tryz.prog 40 #[.string s] w fun e w' => e = .returned (cv (cutQ (lst s))) ∧ Bl w w' := by
  have hq := cutQ_word h
  have hle := nameLen_le (lst s)
  rw [lst_len] at hle
  have hn := fun w => nameLength_ok s w hs
  have hk := fun w => kwLength_ok s w hs
  have ht := mkHid (ba_upto s (nameLen (lst s)))
  by_cases k0 : kwLen (lst s) = 0
  · rw [if_pos k0] at hq
    rw [hq]
    rw [k0] at hk
    clear hq h k0
    generalize nameLen (lst s) = n at *
    have hle' : (n : Int) ≤ s.size := by omega
    go_enter Tryz.func40, Tryz.ntmps40
    go_wp2_with (first
      | (go_at_call 50; refine (hn _).mono ?_; rintro e w1 ⟨rfl, b1⟩; obtain ⟨hr1, bb1, lt1⟩ := res_in b1)
      | (go_at_call 52; refine (hk _).mono ?_; rintro e w2 ⟨rfl, b2⟩; have hr2 := (b2.block _ lt1).trans hr1; have bb2 := bb1.trans b2; obtain ⟨r0, r1, r2, r3, y0, y1, y2, y3⟩ := resF hr2))
    exact ret4 (1, (lst s).take n, 0, n) Tryz.results40 hr2 bb2 (Nat.le_refl _) rfl rfl rfl (by rw [ht.out]) rfl rfl
  · rw [if_neg k0] at hq
    rw [hq]
    clear hq h
    generalize nameLen (lst s) = n at *
    generalize kwLen (lst s) = m at *
    have hle' : (n : Int) ≤ s.size := by omega
    have hm' : (0 : Int) < m := by omega
    go_enter Tryz.func40, Tryz.ntmps40
    go_wp2_with (first
      | (go_at_call 50; refine (hn _).mono ?_; rintro e w1 ⟨rfl, b1⟩; obtain ⟨hr1, bb1, lt1⟩ := res_in b1)
      | (go_at_call 52; refine (hk _).mono ?_; rintro e w2 ⟨rfl, b2⟩; have hr2 := (b2.block _ lt1).trans hr1; have bb2 := bb1.trans b2; obtain ⟨r0, r1, r2, r3, y0, y1, y2, y3⟩ := resF hr2))
    exact ret4 (2, (lst s).take n, 0, m) Tryz.results40 hr2 bb2 (Nat.le_refl _) rfl rfl rfl (by rw [ht.out]) rfl rfl
set_option maxHeartbeats 4000000 in
set_option maxRecDepth 1000000 in
theorem cutBinary_ok (s : ByteArray) (w : World) (hs : s.size ≤ 140737488355328) (h : isO (hd (lst s)) = true) : Calls Tryz.prog 43 #[.string s] w fun e w' => e = .returned (cv (cutQ (lst s))) ∧ Bl w w' := by
  have hq := cutQ_op h
  have hle := opLen_le (lst s)
  rw [lst_len] at hle
  have hn := fun w => opLength_ok s w hs
  have ht := mkHid (ba_upto s (opLen (lst s)))
  rw [hq]
  clear hq h
  generalize opLen (lst s) = n at *
  have hle' : (n : Int) ≤ s.size := by omega
  go_enter Tryz.func43, Tryz.ntmps43
  go_wp2_with (go_at_call 51; refine (hn _).mono ?_; rintro e w1 ⟨rfl, rfl⟩)
  refine bodyPost_ret (v := cv (3, (lst s).take n, 0, n)) (by simp [results, Tryz.results43, go_sem, cv, ht.out]) rfl ⟨rfl, Bl.alloc _ _⟩
end Go.Proofs.YtimlomobbnnehaaGreatDoor

namespace Go.Proofs.YtimlomobbnnehaaGreatDoor
open Go.RowKit
set_option linter.unusedVariables false
set_option linter.unusedSimpArgs false
theorem ret4' {f : Func} {V w : World} {B : Nat} {tm : Array Value} (x : Q4) (hres : f.results = #[.cell 2 28, .tmp 3])
    (hVb : V.heap[B]? = some (.cells #[.int .i64 x.1, .string (ba x.2.1), .int .i64 x.2.2.1, .int .i64 0] 28 (0, 0))) (hVl : Bl w V)
    (h2 : tm.getD 2 undef = .pointer (some ⟨B, 0, none⟩)) (h3 : tm.getD 3 undef = .int .i64 x.2.2.2) :
    bodyPost Tryz.prog f (fun e w' => e = .returned (cv x) ∧ Bl w w') .ret ⟨tm, []⟩ V := by
  have x0 : V.cell? ⟨B, 0, none⟩ = some (.int .i64 x.1) := by rw [cell_in hVb]; rfl
  have x1 : V.cell? ⟨B, 1, none⟩ = some (.string (ba x.2.1)) := by rw [cell_in hVb]; rfl
  have x2 : V.cell? ⟨B, 2, none⟩ = some (.int .i64 x.2.2.1) := by rw [cell_in hVb]; rfl
  have x3 : V.cell? ⟨B, 3, none⟩ = some (.int .i64 0) := by rw [cell_in hVb]; rfl
  have h2' : tm[2]?.getD undef = .pointer (some ⟨B, 0, none⟩) := by simpa using h2
  have h3' : tm[3]?.getD undef = .int .i64 x.2.2.2 := by simpa using h3
  refine bodyPost_ret (v := cv x) (by simp [results, hres, go_sem, h2, h3, h2', h3', x0, x1, x2, x3, cv]) rfl ⟨rfl, hVl⟩
def marksL : List (Nat × Bs) := [(7, [35, 40]), (14, [58, 61]), (8, [40]), (9, [41]), (10, [91]), (11, [93]), (12, [124]), (13, [58]), (15, [94]), (16, [46]), (17, [59])]
def marksC : List Value := marksL.flatMap fun x => [.int .i64 x.1, .string (ba x.2)]
/-- the tables of the package: the marks; the library's one number -/
structure Tab (w : World) : Prop where
  two : 2 < w.heap.size
  mark : ∀ i v, marksC[i]? = some v → w.cell? ⟨0, i, none⟩ = some v
  max : ∃ m, w.cell? ⟨2, 0, none⟩ = some (.int .i64 m)
theorem Tab.mono {w w' : World} (h : Tab w) (b : Bl w w') : Tab w' where
  two := Nat.lt_of_lt_of_le h.two b.size
  mark := fun i v hv => by rw [World.cell?_of_block (w := w) (b.block 0 (by have := h.two; omega))]; exact h.mark i v hv
  max := by obtain ⟨m, hm⟩ := h.max; exact ⟨m, by rw [World.cell?_of_block (w := w) (b.block 2 h.two)]; exact hm⟩
def markF : List (Nat × Bs) → Bs → Q4
  | [], _ => (0, [], 0, 0)
  | (k, t) :: r, l => if Lib.hasPrefix l t = true then (k, [], 0, t.length) else markF r l
def kdAt (k : Nat) : Nat := (marksL.getD k (0, [])).1
def txAt (k : Nat) : Bs := (marksL.getD k (0, [])).2
theorem load_marks {w : World} (hT : Tab w) : (loadVar 68 ⟨0, 0, none⟩).run Tryz.prog w = .ok (.agg marksC.toArray) w := by
  have hl : (loadCells ⟨0, 0, none⟩ marksC.length).run Tryz.prog w = .ok marksC.toArray w :=
    run_loadCells_list (P := Tryz.prog) w ⟨0, 0, none⟩ marksC (fun j v hv => by
      have hadd : (⟨0, 0, none⟩ : Addr).add j = ⟨0, j, none⟩ := by unfold Addr.add; split <;> simp_all
      rw [hadd]
      exact hT.mark j v hv)
  have hi : (Tryz.prog.info? 68).map (·.size) = some 22 := by kernel_rfl
  cases hq : Tryz.prog.info? 68 with
  | none => simp [hq] at hi
  | some i =>
    have hs : i.size = 22 := by simpa [hq] using hi
    have hagg : (isAgg 68).run Tryz.prog w = .ok true w := by
      unfold isAgg
      rw [Sem.run_bind, run_underlying Tryz.underlying68 w]
      rfl
    have e : marksC.length = 22 := rfl
    rw [e] at hl
    simp [loadVar, Sem.run_bind, hagg, sizeOf, typeInfo, hq, hs, hl]
theorem index_marks {w : World} {k : Nat} (hk : k < 11) : (Instr.index 68 (.agg marksC.toArray) (.int .i64 k)).run Tryz.prog w = .ok (.agg #[.int .i64 (kdAt k), .string (ba (txAt k))]) w := by
  have hcase : k = 0 ∨ k = 1 ∨ k = 2 ∨ k = 3 ∨ k = 4 ∨ k = 5 ∨ k = 6 ∨ k = 7 ∨ k = 8 ∨ k = 9 ∨ k = 10 := by omega
  have hi : (Tryz.prog.info? 67).map (·.size) = some 2 := by kernel_rfl
  rcases hcase with rfl | rfl | rfl | rfl | rfl | rfl | rfl | rfl | rfl | rfl | rfl <;> simp [Instr.index, go_sem, Tryz.underlying68, marksC, marksL] <;> exact ⟨rfl, rfl⟩
theorem Bl.drew (w : World) : Bl w w.drew := ⟨rfl, rfl, rfl, Nat.le_refl _, fun _ _ => rfl⟩
theorem set4_heap {W : World} {B : Nat} (hr : W.heap[B]? = some z4) (a b c d : Value) : ((((W.setCell ⟨B, 0, none⟩ a).setCell ⟨B, 1, none⟩ b).setCell ⟨B, 2, none⟩ c).setCell ⟨B, 3, none⟩ d).heap[B]? = some (.cells #[a, b, c, d] 28 (0, 0)) := by
  rw [set_in (set_in (set_in (set_in hr 0 _) 1 _) 2 _) 3 _]
  rfl
theorem set4_bl {w W : World} {B : Nat} (hb : Bl w W) (hB : w.heap.size ≤ B) (a b c d : Value) : Bl w ((((W.setCell ⟨B, 0, none⟩ a).setCell ⟨B, 1, none⟩ b).setCell ⟨B, 2, none⟩ c).setCell ⟨B, 3, none⟩ d) :=
  set_bl (set_bl (set_bl (set_bl hb hB 0 _) hB 1 _) hB 2 _) hB 3 _
theorem wpList_loadV {ops : Array Oper} {rest : List Oper} {o : Oper} {a : Act} {w : World} {Q : Exit → Act → World → Prop} (hgd : o.guard = none) (ty : TypeId) (x : Operand) (ho : o.op = .load ty x)
    (g : Addr) (hx : a.eval x = .pointer (some g)) {v : Value} (hl : (loadVar ty g).run Tryz.prog w = .ok v w)
    (h : wpList Tryz.prog ops Q rest (a.put o.dst v) w) : wpList Tryz.prog ops Q (o :: rest) a w := by
  refine wpList_plain hgd fun K hK => ?_
  unfold Oper.wp execOp
  simp only [ho, hx, Instr.loadAt, Instr.sureAddr, Sem.run_bind, Sem.run_pure, Result.andThen_ok, hl]
  exact hK _ _ h
end Go.Proofs.YtimlomobbnnehaaGreatDoor

namespace Go.Proofs.YtimlomobbnnehaaGreatDoor
open Go.RowKit
set_option linter.unusedVariables false
set_option linter.unusedSimpArgs false
theorem markF_at {k : Nat} (hk : k < 11) (l : Bs) : markF (marksL.drop k) l = if Lib.hasPrefix l (txAt k) = true then (kdAt k, [], 0, (txAt k).length) else markF (marksL.drop (k + 1)) l := by
  have e : marksL.drop k = (kdAt k, txAt k) :: marksL.drop (k + 1) := by
    have hcase : k = 0 ∨ k = 1 ∨ k = 2 ∨ k = 3 ∨ k = 4 ∨ k = 5 ∨ k = 6 ∨ k = 7 ∨ k = 8 ∨ k = 9 ∨ k = 10 := by omega
    rcases hcase with rfl | rfl | rfl | rfl | rfl | rfl | rfl | rfl | rfl | rfl | rfl <;> rfl
  rw [e]
  rfl
set_option maxHeartbeats 8000000 in
set_option maxRecDepth 1000000 in
theorem cutMark_ok (s : ByteArray) (w : World) (hT : Tab w) : Calls Tryz.prog 45 #[.string s] w fun e w' => e = .returned (cv (markF marksL (lst s))) ∧ Bl w w' := by
  obtain ⟨MV, hMV⟩ : ∃ MV : Value, MV = .agg marksC.toArray := ⟨_, rfl⟩
  have hlv : ∀ o, (loadVar 68 ⟨0, 0, none⟩).run Tryz.prog (w.alloc o) = .ok MV (w.alloc o) := fun o => by rw [hMV]; exact load_marks (hT.mono (Bl.alloc w o))
  have hix : ∀ k : Nat, k < 11 → ∀ W, (Instr.index 68 MV (.int .i64 k)).run Tryz.prog W = .ok (.agg #[.int .i64 (kdAt k), .string (ba (txAt k))]) W := fun k hk W => by rw [hMV]; exact index_marks hk
  clear hMV hT
  go_enter Tryz.func45, Tryz.ntmps45
  go_wp2_with (refine wpList_loadV rfl 68 _ rfl ⟨0, 0, none⟩ rfl (hlv _) ?_)
  clear hlv
  go_loopw [7] (fun q wr => ∃ k : Nat, k ≤ 11 ∧ q = .int .i64 k ∧ Hid (markF marksL (lst s) = markF (marksL.drop k) (lst s) ∧ wr.heap[w.heap.size]? = some z4 ∧ Bl w wr)) (fun q _ => 11 - (intOf q).toNat)
  case atStart => exact ⟨0, by omega, rfl, rfl, heap_alloc_new w _, Bl.alloc w _⟩
  case round =>
    obtain ⟨k, hk, rfl, hH⟩ := hrel
    obtain ⟨r0, r1, r2, r3, y0, y1, y2, y3⟩ := resF hH.out.2.1
    have hlt := lt_of_heap hH.out.2.1
    by_cases hk11 : k < 11
    · have hx := hix k hk11
      have hki : (k : Int) < 11 := by omega
      clear hix
      by_cases hp : Lib.hasPrefix (lst s) (txAt k) = true
      · have hV : markF marksL (lst s) = (kdAt k, [], 0, (txAt k).length) := by rw [hH.out.1, markF_at hk11, if_pos hp]
        have hp' : Lib.hasPrefix s.data.toList (ba (txAt k)).data.toList = true := by
          rw [show (ba (txAt k)).data.toList = txAt k from lst_ba _]; exact hp
        have HV := mkHid hV
        clear hV hp
        generalize kdAt k = kd at *
        generalize txAt k = tx at *
        go_wp2_with (go_at_call 61; refine (prefix_b s _ true hp' _).mono ?_; rintro e w1 ⟨rfl, rfl⟩)
        go_region
        go_wp2
        rw [HV.out]
        exact ret4' (kd, [], 0, tx.length) Tryz.results45 ((Below.heap_alloc _ _ _ (lt_of_heap (set4_heap hH.out.2.1 _ _ _ _))).trans (set4_heap hH.out.2.1 _ _ _ _)) (((set4_bl hH.out.2.2 (Nat.le_refl _) _ _ _ _).trans (Bl.alloc _ _)).trans (Bl.drew _)) rfl (by show Value.int .i64 ((ba tx).size : Int) = _; rw [← lst_len, lst_ba])
      · have hV : markF marksL (lst s) = markF (marksL.drop (k + 1)) (lst s) := by rw [hH.out.1, markF_at hk11, if_neg hp]
        have hp' : Lib.hasPrefix s.data.toList (ba (txAt k)).data.toList = false := by
          rw [show (ba (txAt k)).data.toList = txAt k from lst_ba _]; simpa [lst] using hp
        have HV := mkHid hV
        clear hV hp
        generalize kdAt k = kd at *
        generalize txAt k = tx at *
        go_wp2_with (go_at_call 61; refine (prefix_b s _ false hp' _).mono ?_; rintro e w1 ⟨rfl, rfl⟩)
        go_roundw
        case rel => exact ⟨k + 1, by omega, by simp, HV.out, (Below.heap_alloc _ _ _ hlt).trans hH.out.2.1, hH.out.2.2.trans (Bl.alloc _ _)⟩
        case measure => simp [intOf]; omega
    · have hk' : k = 11 := by omega
      have hV : markF marksL (lst s) = (0, [], 0, 0) := by rw [hH.out.1, hk']; rfl
      have HV := mkHid hV
      clear hV hk hk11 hix
      subst hk'
      go_wp2_with (go_at_call 37; fail)
      go_wp2_with (go_at_call 37; refine (cutNothing_v s _).mono ?_; rintro e w2 ⟨rfl, rfl⟩)
      rw [HV.out]
      exact ret4' (0, [], 0, 0) Tryz.results45 ((Below.heap_alloc _ _ _ (lt_of_heap (set4_heap hH.out.2.1 _ _ _ _))).trans (set4_heap hH.out.2.1 _ _ _ _)) ((set4_bl hH.out.2.2 (Nat.le_refl _) _ _ _ _).trans (Bl.alloc _ _)) rfl rfl
/-- the marks, by the first bytes -/
theorem markF_is (l : Bs) : markF marksL l = if hd l = 35 ∧ hd (l.drop 1) = 40 then (7, [], 0, 2) else if hd l = 58 ∧ hd (l.drop 1) = 61 then (14, [], 0, 2) else if markK (hd l) = 0 then (0, [], 0, 0) else (markK (hd l), [], 0, 1) := by
  unfold marksL
  simp only [markF, pre1, pre2, decide_eq_true_eq]
  unfold markK
  simp only [show UInt8.toNat 35 = 35 from rfl, show UInt8.toNat 40 = 40 from rfl, show UInt8.toNat 58 = 58 from rfl, show UInt8.toNat 61 = 61 from rfl, show UInt8.toNat 41 = 41 from rfl, show UInt8.toNat 91 = 91 from rfl, show UInt8.toNat 93 = 93 from rfl, show UInt8.toNat 124 = 124 from rfl, show UInt8.toNat 94 = 94 from rfl, show UInt8.toNat 46 = 46 from rfl, show UInt8.toNat 59 = 59 from rfl]
  generalize hd l = n
  generalize hd (l.drop 1) = m
  by_cases h35 : n = 35
  · subst h35; simp
  by_cases h58 : n = 58
  · subst h58; simp
  by_cases h40 : n = 40
  · subst h40; simp
  by_cases h41 : n = 41
  · subst h41; simp
  by_cases h91 : n = 91
  · subst h91; simp
  by_cases h93 : n = 93
  · subst h93; simp
  by_cases h124 : n = 124
  · subst h124; simp
  by_cases h94 : n = 94
  · subst h94; simp
  by_cases h46 : n = 46
  · subst h46; simp
  by_cases h59 : n = 59
  · subst h59; simp
  simp [h35, h58, h40, h41, h91, h93, h124, h94, h46, h59]
end Go.Proofs.YtimlomobbnnehaaGreatDoor

