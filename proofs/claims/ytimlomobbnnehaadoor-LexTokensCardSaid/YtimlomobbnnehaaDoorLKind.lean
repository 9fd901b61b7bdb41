import Derived.Test.YtimlomobbnnehaaDoorLCut
namespace Go.Proofs.YtimlomobbnnehaaDoor
open Go.RowKit
set_option linter.unusedVariables false
set_option linter.unusedSimpArgs false
theorem isObN_ok (n : Nat) (hn : n < 256) (w : World) : Calls Tryd.prog 30 #[.int .u8 n] w fun e w' => e = .returned (.bool (isO n)) ∧ w' = w := by
  have h := isOb_ok (UInt8.ofNat n) w
  rw [UInt8.toNat_ofNat_of_lt' hn] at h
  exact h
set_option maxHeartbeats 4000000 in
set_option maxRecDepth 1000000 in
theorem kindOf_32 (w : World) : Calls Tryd.prog 13 #[.int .u8 32] w fun e w' => e = .returned (.int .i64 1) ∧ w' = w := by
  go_enter Tryd.func13, Tryd.ntmps13
  go_wp2
  go_ret
  exact ⟨rfl, rfl⟩
set_option maxHeartbeats 4000000 in
set_option maxRecDepth 1000000 in
theorem kindOf_9 (w : World) : Calls Tryd.prog 13 #[.int .u8 9] w fun e w' => e = .returned (.int .i64 1) ∧ w' = w := by
  go_enter Tryd.func13, Tryd.ntmps13
  go_wp2
  go_ret
  exact ⟨rfl, rfl⟩
set_option maxHeartbeats 4000000 in
set_option maxRecDepth 1000000 in
theorem kindOf_10 (w : World) : Calls Tryd.prog 13 #[.int .u8 10] w fun e w' => e = .returned (.int .i64 1) ∧ w' = w := by
  go_enter Tryd.func13, Tryd.ntmps13
  go_wp2
  go_ret
  exact ⟨rfl, rfl⟩
set_option maxHeartbeats 4000000 in
set_option maxRecDepth 1000000 in
theorem kindOf_13 (w : World) : Calls Tryd.prog 13 #[.int .u8 13] w fun e w' => e = .returned (.int .i64 1) ∧ w' = w := by
  go_enter Tryd.func13, Tryd.ntmps13
  go_wp2
  go_ret
  exact ⟨rfl, rfl⟩
set_option maxHeartbeats 4000000 in
set_option maxRecDepth 1000000 in
theorem kindOf_34 (w : World) : Calls Tryd.prog 13 #[.int .u8 34] w fun e w' => e = .returned (.int .i64 2) ∧ w' = w := by
  go_enter Tryd.func13, Tryd.ntmps13
  go_wp2
  go_ret
  exact ⟨rfl, rfl⟩
set_option maxHeartbeats 4000000 in
set_option maxRecDepth 1000000 in
theorem kindOf_35 (w : World) : Calls Tryd.prog 13 #[.int .u8 35] w fun e w' => e = .returned (.int .i64 5) ∧ w' = w := by
  go_enter Tryd.func13, Tryd.ntmps13
  go_wp2
  go_ret
  exact ⟨rfl, rfl⟩
set_option maxHeartbeats 4000000 in
set_option maxRecDepth 1000000 in
theorem kindOf_39 (w : World) : Calls Tryd.prog 13 #[.int .u8 39] w fun e w' => e = .returned (.int .i64 7) ∧ w' = w := by
  go_enter Tryd.func13, Tryd.ntmps13
  go_wp2
  go_ret
  exact ⟨rfl, rfl⟩
set_option maxHeartbeats 4000000 in
set_option maxRecDepth 1000000 in
theorem kindOf_40 (w : World) : Calls Tryd.prog 13 #[.int .u8 40] w fun e w' => e = .returned (.int .i64 8) ∧ w' = w := by
  go_enter Tryd.func13, Tryd.ntmps13
  go_wp2
  go_ret
  exact ⟨rfl, rfl⟩
set_option maxHeartbeats 4000000 in
set_option maxRecDepth 1000000 in
theorem kindOf_41 (w : World) : Calls Tryd.prog 13 #[.int .u8 41] w fun e w' => e = .returned (.int .i64 8) ∧ w' = w := by
  go_enter Tryd.func13, Tryd.ntmps13
  go_wp2
  go_ret
  exact ⟨rfl, rfl⟩
set_option maxHeartbeats 4000000 in
set_option maxRecDepth 1000000 in
theorem kindOf_91 (w : World) : Calls Tryd.prog 13 #[.int .u8 91] w fun e w' => e = .returned (.int .i64 8) ∧ w' = w := by
  go_enter Tryd.func13, Tryd.ntmps13
  go_wp2
  go_ret
  exact ⟨rfl, rfl⟩
set_option maxHeartbeats 4000000 in
set_option maxRecDepth 1000000 in
theorem kindOf_93 (w : World) : Calls Tryd.prog 13 #[.int .u8 93] w fun e w' => e = .returned (.int .i64 8) ∧ w' = w := by
  go_enter Tryd.func13, Tryd.ntmps13
  go_wp2
  go_ret
  exact ⟨rfl, rfl⟩
set_option maxHeartbeats 4000000 in
set_option maxRecDepth 1000000 in
theorem kindOf_124 (w : World) : Calls Tryd.prog 13 #[.int .u8 124] w fun e w' => e = .returned (.int .i64 8) ∧ w' = w := by
  go_enter Tryd.func13, Tryd.ntmps13
  go_wp2
  go_ret
  exact ⟨rfl, rfl⟩
set_option maxHeartbeats 4000000 in
set_option maxRecDepth 1000000 in
theorem kindOf_58 (w : World) : Calls Tryd.prog 13 #[.int .u8 58] w fun e w' => e = .returned (.int .i64 8) ∧ w' = w := by
  go_enter Tryd.func13, Tryd.ntmps13
  go_wp2
  go_ret
  exact ⟨rfl, rfl⟩
set_option maxHeartbeats 4000000 in
set_option maxRecDepth 1000000 in
theorem kindOf_94 (w : World) : Calls Tryd.prog 13 #[.int .u8 94] w fun e w' => e = .returned (.int .i64 8) ∧ w' = w := by
  go_enter Tryd.func13, Tryd.ntmps13
  go_wp2
  go_ret
  exact ⟨rfl, rfl⟩
set_option maxHeartbeats 4000000 in
set_option maxRecDepth 1000000 in
theorem kindOf_46 (w : World) : Calls Tryd.prog 13 #[.int .u8 46] w fun e w' => e = .returned (.int .i64 8) ∧ w' = w := by
  go_enter Tryd.func13, Tryd.ntmps13
  go_wp2
  go_ret
  exact ⟨rfl, rfl⟩
set_option maxHeartbeats 4000000 in
set_option maxRecDepth 1000000 in
theorem kindOf_59 (w : World) : Calls Tryd.prog 13 #[.int .u8 59] w fun e w' => e = .returned (.int .i64 8) ∧ w' = w := by
  go_enter Tryd.func13, Tryd.ntmps13
  go_wp2
  go_ret
  exact ⟨rfl, rfl⟩
set_option maxHeartbeats 4000000 in
set_option maxRecDepth 1000000 in
theorem kindOf_L (n : Nat) (hn : n < 256) (w : World) (q32 : ¬ (n : Int) = 32) (q9 : ¬ (n : Int) = 9) (q10 : ¬ (n : Int) = 10) (q13 : ¬ (n : Int) = 13) (q34 : ¬ (n : Int) = 34) (q35 : ¬ (n : Int) = 35) (q39 : ¬ (n : Int) = 39) (q40 : ¬ (n : Int) = 40) (q41 : ¬ (n : Int) = 41) (q91 : ¬ (n : Int) = 91) (q93 : ¬ (n : Int) = 93) (q124 : ¬ (n : Int) = 124) (q58 : ¬ (n : Int) = 58) (q94 : ¬ (n : Int) = 94) (q46 : ¬ (n : Int) = 46) (q59 : ¬ (n : Int) = 59) (hL : isL n = true) : Calls Tryd.prog 13 #[.int .u8 n] w fun e w' => e = .returned (.int .i64 3) ∧ w' = w := by
  go_enter Tryd.func13, Tryd.ntmps13
  go_wp2_with (first | (go_at_call 28; refine (isLetter_ok n _).mono ?_; rintro e w' ⟨rfl, rfl⟩) | (go_at_call 29; refine (isDigit_ok n _).mono ?_; rintro e w' ⟨rfl, rfl⟩) | (go_at_call 30; refine (isObN_ok n hn _).mono ?_; rintro e w' ⟨rfl, rfl⟩))
  go_ret
  exact ⟨rfl, rfl⟩
set_option maxHeartbeats 4000000 in
set_option maxRecDepth 1000000 in
theorem kindOf_D (n : Nat) (hn : n < 256) (w : World) (q32 : ¬ (n : Int) = 32) (q9 : ¬ (n : Int) = 9) (q10 : ¬ (n : Int) = 10) (q13 : ¬ (n : Int) = 13) (q34 : ¬ (n : Int) = 34) (q35 : ¬ (n : Int) = 35) (q39 : ¬ (n : Int) = 39) (q40 : ¬ (n : Int) = 40) (q41 : ¬ (n : Int) = 41) (q91 : ¬ (n : Int) = 91) (q93 : ¬ (n : Int) = 93) (q124 : ¬ (n : Int) = 124) (q58 : ¬ (n : Int) = 58) (q94 : ¬ (n : Int) = 94) (q46 : ¬ (n : Int) = 46) (q59 : ¬ (n : Int) = 59) (hL : isL n = false) (hD : isD n = true) : Calls Tryd.prog 13 #[.int .u8 n] w fun e w' => e = .returned (.int .i64 4) ∧ w' = w := by
  go_enter Tryd.func13, Tryd.ntmps13
  go_wp2_with (first | (go_at_call 28; refine (isLetter_ok n _).mono ?_; rintro e w' ⟨rfl, rfl⟩) | (go_at_call 29; refine (isDigit_ok n _).mono ?_; rintro e w' ⟨rfl, rfl⟩) | (go_at_call 30; refine (isObN_ok n hn _).mono ?_; rintro e w' ⟨rfl, rfl⟩))
  go_ret
  exact ⟨rfl, rfl⟩
set_option maxHeartbeats 4000000 in
set_option maxRecDepth 1000000 in
theorem kindOf_O (n : Nat) (hn : n < 256) (w : World) (q32 : ¬ (n : Int) = 32) (q9 : ¬ (n : Int) = 9) (q10 : ¬ (n : Int) = 10) (q13 : ¬ (n : Int) = 13) (q34 : ¬ (n : Int) = 34) (q35 : ¬ (n : Int) = 35) (q39 : ¬ (n : Int) = 39) (q40 : ¬ (n : Int) = 40) (q41 : ¬ (n : Int) = 41) (q91 : ¬ (n : Int) = 91) (q93 : ¬ (n : Int) = 93) (q124 : ¬ (n : Int) = 124) (q58 : ¬ (n : Int) = 58) (q94 : ¬ (n : Int) = 94) (q46 : ¬ (n : Int) = 46) (q59 : ¬ (n : Int) = 59) (hL : isL n = false) (hD : isD n = false) (hO : isO n = true) : Calls Tryd.prog 13 #[.int .u8 n] w fun e w' => e = .returned (.int .i64 6) ∧ w' = w := by
  go_enter Tryd.func13, Tryd.ntmps13
  go_wp2_with (first | (go_at_call 28; refine (isLetter_ok n _).mono ?_; rintro e w' ⟨rfl, rfl⟩) | (go_at_call 29; refine (isDigit_ok n _).mono ?_; rintro e w' ⟨rfl, rfl⟩) | (go_at_call 30; refine (isObN_ok n hn _).mono ?_; rintro e w' ⟨rfl, rfl⟩))
  go_ret
  exact ⟨rfl, rfl⟩
set_option maxHeartbeats 4000000 in
set_option maxRecDepth 1000000 in
theorem kindOf_X (n : Nat) (hn : n < 256) (w : World) (q32 : ¬ (n : Int) = 32) (q9 : ¬ (n : Int) = 9) (q10 : ¬ (n : Int) = 10) (q13 : ¬ (n : Int) = 13) (q34 : ¬ (n : Int) = 34) (q35 : ¬ (n : Int) = 35) (q39 : ¬ (n : Int) = 39) (q40 : ¬ (n : Int) = 40) (q41 : ¬ (n : Int) = 41) (q91 : ¬ (n : Int) = 91) (q93 : ¬ (n : Int) = 93) (q124 : ¬ (n : Int) = 124) (q58 : ¬ (n : Int) = 58) (q94 : ¬ (n : Int) = 94) (q46 : ¬ (n : Int) = 46) (q59 : ¬ (n : Int) = 59) (hL : isL n = false) (hD : isD n = false) (hO : isO n = false) : Calls Tryd.prog 13 #[.int .u8 n] w fun e w' => e = .returned (.int .i64 0) ∧ w' = w := by
  go_enter Tryd.func13, Tryd.ntmps13
  go_wp2_with (first | (go_at_call 28; refine (isLetter_ok n _).mono ?_; rintro e w' ⟨rfl, rfl⟩) | (go_at_call 29; refine (isDigit_ok n _).mono ?_; rintro e w' ⟨rfl, rfl⟩) | (go_at_call 30; refine (isObN_ok n hn _).mono ?_; rintro e w' ⟨rfl, rfl⟩))
  go_ret
  exact ⟨rfl, rfl⟩
end Go.Proofs.YtimlomobbnnehaaDoor

