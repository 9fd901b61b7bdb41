import Derived.Test.YtookbbephlllmabDoorChecked
import Derived.Test.YtookbbephlllmabDoorDMath
import Derived.WalkKit
import Derived.WalkSpells
import Derived.WalkLawsBesides
import Derived.BigQuiet
import Derived.Deep.QuietTactic
namespace Go.Proofs.YtookbbephlllmabDoor
open Go.RowKit
set_option linter.unusedVariables false
theorem ret_int {k : IntKind} {a b : Int} (h : a = b) : Ending.returned (.int k a) = .returned (.int k b) := by rw [h]
theorem ret_int2 {k l : IntKind} {a b c : Int} (h : a = b) : Ending.returned (.tuple #[.int k a, .int l c]) = .returned (.tuple #[.int k b, .int l c]) := by rw [h]
theorem ret_bool {a b : Bool} (h : a = b) : Ending.returned (.bool a) = .returned (.bool b) := by rw [h]
set_option maxHeartbeats 400000 in
theorem inRange_yes (n : Int) (w : World) (h0 : -1073741824 ≤ n) (h1 : n ≤ 1073741823) :
    Calls Tryd.prog 23 #[.int .i64 n] w fun e w' => e = .returned (.bool true) ∧ w' = w := by
  go_enter Tryd.func23, Tryd.ntmps23
  go_wp2
  go_ret
  exact ⟨ret_bool (by simp), rfl⟩
set_option maxHeartbeats 400000 in
theorem inRange_no (n : Int) (w : World) (h : n < -1073741824 ∨ 1073741823 < n) :
    Calls Tryd.prog 23 #[.int .i64 n] w fun e w' => e = .returned (.bool false) ∧ w' = w := by
  go_enter Tryd.func23, Tryd.ntmps23
  go_wp2
  · go_ret
    exact ⟨ret_bool (by simp; omega), rfl⟩
  · go_ret
    exact ⟨rfl, rfl⟩
set_option maxHeartbeats 400000 in
theorem num_any (n : Int) (w : World) (h0 : -9223372036854775808 ≤ n) (h1 : n ≤ 9223372036854775807) :
    Calls Tryd.prog 10 #[.int .i64 n] w fun e w' => e = .returned (.int .i64 (n)) ∧ w' = w := by
  go_enter Tryd.func10, Tryd.ntmps10
  go_wp2
  go_ret
  exact ⟨ret_int (by first | rfl | (unfold wrap64; omega)), rfl⟩
set_option maxHeartbeats 400000 in
theorem intWord_any (n : Int) (w : World) (h0 : -1073741824 ≤ n) (h1 : n ≤ 1073741823) :
    Calls Tryd.prog 24 #[.int .i64 n] w fun e w' => e = .returned (.int .i64 (2 * n + 1)) ∧ w' = w := by
  go_enter Tryd.func24, Tryd.ntmps24
  go_wp2
  go_ret
  exact ⟨rfl, rfl⟩
set_option maxHeartbeats 400000 in
theorem symbolWord_any (n : Int) (w : World) (h0 : 0 ≤ n) (h1 : n ≤ 4095) :
    Calls Tryd.prog 26 #[.int .i64 n] w fun e w' => e = .returned (.int .i64 (4 * n + 2)) ∧ w' = w := by
  go_enter Tryd.func26, Tryd.ntmps26
  go_wp2
  go_ret
  exact ⟨rfl, rfl⟩
set_option maxHeartbeats 400000 in
theorem objectWord_any (n : Int) (w : World) (h0 : 1 ≤ n) (h1 : n ≤ 65536) :
    Calls Tryd.prog 27 #[.int .i64 n] w fun e w' => e = .returned (.int .i64 (4 * n)) ∧ w' = w := by
  go_enter Tryd.func27, Tryd.ntmps27
  go_wp2
  go_ret
  exact ⟨rfl, rfl⟩
set_option maxHeartbeats 400000 in
theorem Int_in (n : Int) (w : World) (h0 : -1073741824 ≤ n) (h1 : n ≤ 1073741823) :
    Calls Tryd.prog 4 #[.int .i64 n] w fun e w' => e = .returned (.tuple #[.int .i64 (2 * n + 1), .int .i64 (0)]) ∧ w' = w := by
  go_enter Tryd.func4, Tryd.ntmps4
  go_wp2_with (first | (go_at_call 23; refine (inRange_yes _ _ (by omega) (by omega)).mono ?_; rintro e w' ⟨rfl, rfl⟩) | (go_at_call 23; refine (inRange_no _ _ (by omega)).mono ?_; rintro e w' ⟨rfl, rfl⟩) | (go_at_call 24; refine (intWord_any _ _ h0 h1).mono ?_; rintro e w' ⟨rfl, rfl⟩))
  go_ret2
  exact ⟨rfl, rfl⟩
set_option maxHeartbeats 400000 in
theorem Int_out (n : Int) (w : World) (h : n < -1073741824 ∨ 1073741823 < n) :
    Calls Tryd.prog 4 #[.int .i64 n] w fun e w' => e = .returned (.tuple #[.int .i64 (0), .int .i64 (1)]) ∧ w' = w := by
  rcases h with h | h
  all_goals
    go_enter Tryd.func4, Tryd.ntmps4
    go_wp2_with (first | (go_at_call 23; refine (inRange_yes _ _ (by omega) (by omega)).mono ?_; rintro e w' ⟨rfl, rfl⟩) | (go_at_call 23; refine (inRange_no _ _ (by omega)).mono ?_; rintro e w' ⟨rfl, rfl⟩))
    go_ret2
    exact ⟨rfl, rfl⟩
set_option maxHeartbeats 400000 in
theorem Symbol_in (n : Int) (w : World) (h0 : 0 ≤ n) (h1 : n ≤ 4095) :
    Calls Tryd.prog 6 #[.int .i64 n] w fun e w' => e = .returned (.tuple #[.int .i64 (4 * n + 2), .int .i64 (0)]) ∧ w' = w := by
  go_enter Tryd.func6, Tryd.ntmps6
  go_wp2_with (first | (go_at_call 23; refine (inRange_yes _ _ (by omega) (by omega)).mono ?_; rintro e w' ⟨rfl, rfl⟩) | (go_at_call 23; refine (inRange_no _ _ (by omega)).mono ?_; rintro e w' ⟨rfl, rfl⟩) | (go_at_call 26; refine (symbolWord_any _ _ h0 h1).mono ?_; rintro e w' ⟨rfl, rfl⟩))
  go_ret2
  exact ⟨rfl, rfl⟩
set_option maxHeartbeats 400000 in
theorem Symbol_out (n : Int) (w : World) (h : n < 0 ∨ 4095 < n) :
    Calls Tryd.prog 6 #[.int .i64 n] w fun e w' => e = .returned (.tuple #[.int .i64 (0), .int .i64 (1)]) ∧ w' = w := by
  rcases h with h | h
  all_goals
    go_enter Tryd.func6, Tryd.ntmps6
    go_wp2_with (first | (go_at_call 23; refine (inRange_yes _ _ (by omega) (by omega)).mono ?_; rintro e w' ⟨rfl, rfl⟩) | (go_at_call 23; refine (inRange_no _ _ (by omega)).mono ?_; rintro e w' ⟨rfl, rfl⟩))
    go_ret2
    exact ⟨rfl, rfl⟩
set_option maxHeartbeats 400000 in
theorem Object_in (n : Int) (w : World) (h0 : 1 ≤ n) (h1 : n ≤ 65536) :
    Calls Tryd.prog 8 #[.int .i64 n] w fun e w' => e = .returned (.tuple #[.int .i64 (4 * n), .int .i64 (0)]) ∧ w' = w := by
  go_enter Tryd.func8, Tryd.ntmps8
  go_wp2_with (first | (go_at_call 23; refine (inRange_yes _ _ (by omega) (by omega)).mono ?_; rintro e w' ⟨rfl, rfl⟩) | (go_at_call 23; refine (inRange_no _ _ (by omega)).mono ?_; rintro e w' ⟨rfl, rfl⟩) | (go_at_call 27; refine (objectWord_any _ _ h0 h1).mono ?_; rintro e w' ⟨rfl, rfl⟩))
  go_ret2
  exact ⟨rfl, rfl⟩
set_option maxHeartbeats 400000 in
theorem Object_out (n : Int) (w : World) (h : n < 1 ∨ 65536 < n) :
    Calls Tryd.prog 8 #[.int .i64 n] w fun e w' => e = .returned (.tuple #[.int .i64 (0), .int .i64 (1)]) ∧ w' = w := by
  rcases h with h | h
  all_goals
    go_enter Tryd.func8, Tryd.ntmps8
    go_wp2_with (first | (go_at_call 23; refine (inRange_yes _ _ (by omega) (by omega)).mono ?_; rintro e w' ⟨rfl, rfl⟩) | (go_at_call 23; refine (inRange_no _ _ (by omega)).mono ?_; rintro e w' ⟨rfl, rfl⟩))
    go_ret2
    exact ⟨rfl, rfl⟩
set_option maxHeartbeats 400000 in
theorem span1  (w : World)  :
    Calls Tryd.prog 31 #[.int .i64 1] w fun e w' => e = .returned (.tuple #[.int .i64 (-2147483647), .int .i64 (2147483647)]) ∧ w' = w := by
  go_enter Tryd.func31, Tryd.ntmps31
  go_wp2_with (first | (go_at_call 24; refine (intWord_any _ _ (by omega) (by omega)).mono ?_; rintro e w' ⟨rfl, rfl⟩) | (go_at_call 26; refine (symbolWord_any _ _ (by omega) (by omega)).mono ?_; rintro e w' ⟨rfl, rfl⟩) | (go_at_call 27; refine (objectWord_any _ _ (by omega) (by omega)).mono ?_; rintro e w' ⟨rfl, rfl⟩))
  go_ret2
  exact ⟨rfl, rfl⟩
set_option maxHeartbeats 400000 in
theorem span2  (w : World)  :
    Calls Tryd.prog 31 #[.int .i64 2] w fun e w' => e = .returned (.tuple #[.int .i64 (2), .int .i64 (16382)]) ∧ w' = w := by
  go_enter Tryd.func31, Tryd.ntmps31
  go_wp2_with (first | (go_at_call 24; refine (intWord_any _ _ (by omega) (by omega)).mono ?_; rintro e w' ⟨rfl, rfl⟩) | (go_at_call 26; refine (symbolWord_any _ _ (by omega) (by omega)).mono ?_; rintro e w' ⟨rfl, rfl⟩) | (go_at_call 27; refine (objectWord_any _ _ (by omega) (by omega)).mono ?_; rintro e w' ⟨rfl, rfl⟩))
  go_ret2
  exact ⟨rfl, rfl⟩
set_option maxHeartbeats 400000 in
theorem span3  (w : World)  :
    Calls Tryd.prog 31 #[.int .i64 3] w fun e w' => e = .returned (.tuple #[.int .i64 (4), .int .i64 (262144)]) ∧ w' = w := by
  go_enter Tryd.func31, Tryd.ntmps31
  go_wp2_with (first | (go_at_call 24; refine (intWord_any _ _ (by omega) (by omega)).mono ?_; rintro e w' ⟨rfl, rfl⟩) | (go_at_call 26; refine (symbolWord_any _ _ (by omega) (by omega)).mono ?_; rintro e w' ⟨rfl, rfl⟩) | (go_at_call 27; refine (objectWord_any _ _ (by omega) (by omega)).mono ?_; rintro e w' ⟨rfl, rfl⟩))
  go_ret2
  exact ⟨rfl, rfl⟩
/-- the table, as it lies -/
def Tab (w : World) : Prop := w.cell? ⟨0, 0, none⟩ = some (.int .i64 3) ∧ w.cell? ⟨0, 1, none⟩ = some (.int .i64 1) ∧ w.cell? ⟨0, 2, none⟩ = some (.int .i64 2) ∧ w.cell? ⟨0, 3, none⟩ = some (.int .i64 1)
set_option maxHeartbeats 400000 in
theorem kind_r0_in (n : Int) (w : World) (hT : Tab w) (hr : n % 4 = 0) (h0 : 4 ≤ n) (h1 : n ≤ 262144) :
    Calls Tryd.prog 15 #[.int .i64 n] w fun e w' => e = .returned (.int .i64 (3)) ∧ w' = w := by
  obtain ⟨c0, c1, c2, c3⟩ := hT
  have hb : bits .and .i64 n 3 = 0 := by rw [and3, hr]
  clear hr
  go_enter Tryd.func15, Tryd.ntmps15
  go_wp2_with (go_at_call 31; refine (span3 _).mono ?_; rintro e w' ⟨rfl, rfl⟩)
  go_ret
  exact ⟨rfl, rfl⟩
set_option maxHeartbeats 400000 in
theorem kind_r0_out (n : Int) (w : World) (hT : Tab w) (hr : n % 4 = 0) (h : n < 4 ∨ 262144 < n) :
    Calls Tryd.prog 15 #[.int .i64 n] w fun e w' => e = .returned (.int .i64 (0)) ∧ w' = w := by
  obtain ⟨c0, c1, c2, c3⟩ := hT
  have hb : bits .and .i64 n 3 = 0 := by rw [and3, hr]
  clear hr
  rcases h with h | h
  all_goals
    go_enter Tryd.func15, Tryd.ntmps15
    go_wp2_with (go_at_call 31; refine (span3 _).mono ?_; rintro e w' ⟨rfl, rfl⟩)
    go_ret
    exact ⟨rfl, rfl⟩
set_option maxHeartbeats 400000 in
theorem kind_r1_in (n : Int) (w : World) (hT : Tab w) (hr : n % 4 = 1) (h0 : -2147483647 ≤ n) (h1 : n ≤ 2147483647) :
    Calls Tryd.prog 15 #[.int .i64 n] w fun e w' => e = .returned (.int .i64 (1)) ∧ w' = w := by
  obtain ⟨c0, c1, c2, c3⟩ := hT
  have hb : bits .and .i64 n 3 = 1 := by rw [and3, hr]
  clear hr
  go_enter Tryd.func15, Tryd.ntmps15
  go_wp2_with (go_at_call 31; refine (span1 _).mono ?_; rintro e w' ⟨rfl, rfl⟩)
  go_ret
  exact ⟨rfl, rfl⟩
set_option maxHeartbeats 400000 in
theorem kind_r1_out (n : Int) (w : World) (hT : Tab w) (hr : n % 4 = 1) (h : n < -2147483647 ∨ 2147483647 < n) :
    Calls Tryd.prog 15 #[.int .i64 n] w fun e w' => e = .returned (.int .i64 (0)) ∧ w' = w := by
  obtain ⟨c0, c1, c2, c3⟩ := hT
  have hb : bits .and .i64 n 3 = 1 := by rw [and3, hr]
  clear hr
  rcases h with h | h
  all_goals
    go_enter Tryd.func15, Tryd.ntmps15
    go_wp2_with (go_at_call 31; refine (span1 _).mono ?_; rintro e w' ⟨rfl, rfl⟩)
    go_ret
    exact ⟨rfl, rfl⟩
set_option maxHeartbeats 400000 in
theorem kind_r2_in (n : Int) (w : World) (hT : Tab w) (hr : n % 4 = 2) (h0 : 2 ≤ n) (h1 : n ≤ 16382) :
    Calls Tryd.prog 15 #[.int .i64 n] w fun e w' => e = .returned (.int .i64 (2)) ∧ w' = w := by
  obtain ⟨c0, c1, c2, c3⟩ := hT
  have hb : bits .and .i64 n 3 = 2 := by rw [and3, hr]
  clear hr
  go_enter Tryd.func15, Tryd.ntmps15
  go_wp2_with (go_at_call 31; refine (span2 _).mono ?_; rintro e w' ⟨rfl, rfl⟩)
  go_ret
  exact ⟨rfl, rfl⟩
set_option maxHeartbeats 400000 in
theorem kind_r2_out (n : Int) (w : World) (hT : Tab w) (hr : n % 4 = 2) (h : n < 2 ∨ 16382 < n) :
    Calls Tryd.prog 15 #[.int .i64 n] w fun e w' => e = .returned (.int .i64 (0)) ∧ w' = w := by
  obtain ⟨c0, c1, c2, c3⟩ := hT
  have hb : bits .and .i64 n 3 = 2 := by rw [and3, hr]
  clear hr
  rcases h with h | h
  all_goals
    go_enter Tryd.func15, Tryd.ntmps15
    go_wp2_with (go_at_call 31; refine (span2 _).mono ?_; rintro e w' ⟨rfl, rfl⟩)
    go_ret
    exact ⟨rfl, rfl⟩
set_option maxHeartbeats 400000 in
theorem kind_r3_in (n : Int) (w : World) (hT : Tab w) (hr : n % 4 = 3) (h0 : -2147483647 ≤ n) (h1 : n ≤ 2147483647) :
    Calls Tryd.prog 15 #[.int .i64 n] w fun e w' => e = .returned (.int .i64 (1)) ∧ w' = w := by
  obtain ⟨c0, c1, c2, c3⟩ := hT
  have hb : bits .and .i64 n 3 = 3 := by rw [and3, hr]
  clear hr
  go_enter Tryd.func15, Tryd.ntmps15
  go_wp2_with (go_at_call 31; refine (span1 _).mono ?_; rintro e w' ⟨rfl, rfl⟩)
  go_ret
  exact ⟨rfl, rfl⟩
set_option maxHeartbeats 400000 in
theorem kind_r3_out (n : Int) (w : World) (hT : Tab w) (hr : n % 4 = 3) (h : n < -2147483647 ∨ 2147483647 < n) :
    Calls Tryd.prog 15 #[.int .i64 n] w fun e w' => e = .returned (.int .i64 (0)) ∧ w' = w := by
  obtain ⟨c0, c1, c2, c3⟩ := hT
  have hb : bits .and .i64 n 3 = 3 := by rw [and3, hr]
  clear hr
  rcases h with h | h
  all_goals
    go_enter Tryd.func15, Tryd.ntmps15
    go_wp2_with (go_at_call 31; refine (span1 _).mono ?_; rintro e w' ⟨rfl, rfl⟩)
    go_ret
    exact ⟨rfl, rfl⟩
theorem kind_any (n : Int) (w : World) (hT : Tab w) :
    Calls Tryd.prog 15 #[.int .i64 n] w fun e w' => e = .returned (.int .i64 (kindOf n)) ∧ w' = w := by
  have h4 : n % 4 = 0 ∨ n % 4 = 1 ∨ n % 4 = 2 ∨ n % 4 = 3 := by omega
  rcases h4 with h4 | h4 | h4 | h4
  · by_cases h : 4 ≤ n ∧ n ≤ 262144
    · have e : kindOf n = 3 := (kind3 n).2 ⟨h4, h⟩
      rw [e]; exact kind_r0_in n w hT h4 h.1 h.2
    · have e : kindOf n = 0 := by unfold kindOf; repeat' split
                                  all_goals omega
      rw [e]; exact kind_r0_out n w hT h4 (by omega)
  · by_cases h : -2147483647 ≤ n ∧ n ≤ 2147483647
    · have e : kindOf n = 1 := (kind1 n).2 ⟨by omega, h⟩
      rw [e]; exact kind_r1_in n w hT h4 h.1 h.2
    · have e : kindOf n = 0 := by unfold kindOf; repeat' split
                                  all_goals omega
      rw [e]; exact kind_r1_out n w hT h4 (by omega)
  · by_cases h : 2 ≤ n ∧ n ≤ 16382
    · have e : kindOf n = 2 := (kind2 n).2 ⟨h4, h⟩
      rw [e]; exact kind_r2_in n w hT h4 h.1 h.2
    · have e : kindOf n = 0 := by unfold kindOf; repeat' split
                                  all_goals omega
      rw [e]; exact kind_r2_out n w hT h4 (by omega)
  · by_cases h : -2147483647 ≤ n ∧ n ≤ 2147483647
    · have e : kindOf n = 1 := (kind1 n).2 ⟨by omega, h⟩
      rw [e]; exact kind_r3_in n w hT h4 h.1 h.2
    · have e : kindOf n = 0 := by unfold kindOf; repeat' split
                                  all_goals omega
      rw [e]; exact kind_r3_out n w hT h4 (by omega)
set_option maxHeartbeats 400000 in
theorem Num_yes (n : Int) (w : World) (hT : Tab w) (h : kindOf n = 1) :
    Calls Tryd.prog 17 #[.int .i64 n] w fun e w' => e = .returned (.tuple #[.int .i64 ((n - 1) / 2), .int .i64 (0)]) ∧ w' = w := by
  have hK := kind_any n w hT
  rw [h] at hK
  have hk := (kind1 n).1 h
  clear h
  obtain ⟨h2, h0, h1⟩ := hk
  have e : Hid ((n - 1).tdiv 2 = (n - 1) / 2) := half n h2
  clear h2
  go_enter Tryd.func17, Tryd.ntmps17
  go_wp2_with (go_at_call 15; refine hK.mono ?_; rintro e w' ⟨rfl, rfl⟩)
  go_ret2
  exact ⟨ret_int2 e.out, rfl⟩
set_option maxHeartbeats 400000 in
theorem Num_no (n : Int) (w : World) (hT : Tab w) (h : kindOf n ≠ 1) :
    Calls Tryd.prog 17 #[.int .i64 n] w fun e w' => e = .returned (.tuple #[.int .i64 (0), .int .i64 (10)]) ∧ w' = w := by
  have hK := kind_any n w hT
  have hz : (kindOf n != 1) = true := by simpa using h
  clear h
  generalize kindOf n = q at *
  go_enter Tryd.func17, Tryd.ntmps17
  go_wp2_with (go_at_call 15; refine hK.mono ?_; rintro e w' ⟨rfl, rfl⟩)
  go_ret2
  exact ⟨rfl, rfl⟩
set_option maxHeartbeats 400000 in
theorem Sym_yes (n : Int) (w : World) (hT : Tab w) (h : kindOf n = 2) :
    Calls Tryd.prog 19 #[.int .i64 n] w fun e w' => e = .returned (.tuple #[.int .i64 ((n - 2) / 4), .int .i64 (0)]) ∧ w' = w := by
  have hK := kind_any n w hT
  rw [h] at hK
  have hk := (kind2 n).1 h
  clear h
  obtain ⟨h2, h0, h1⟩ := hk
  skip
  clear h2
  go_enter Tryd.func19, Tryd.ntmps19
  go_wp2_with (go_at_call 15; refine hK.mono ?_; rintro e w' ⟨rfl, rfl⟩)
  go_ret2
  exact ⟨rfl, rfl⟩
set_option maxHeartbeats 400000 in
theorem Sym_no (n : Int) (w : World) (hT : Tab w) (h : kindOf n ≠ 2) :
    Calls Tryd.prog 19 #[.int .i64 n] w fun e w' => e = .returned (.tuple #[.int .i64 (0), .int .i64 (10)]) ∧ w' = w := by
  have hK := kind_any n w hT
  have hz : (kindOf n != 2) = true := by simpa using h
  clear h
  generalize kindOf n = q at *
  go_enter Tryd.func19, Tryd.ntmps19
  go_wp2_with (go_at_call 15; refine hK.mono ?_; rintro e w' ⟨rfl, rfl⟩)
  go_ret2
  exact ⟨rfl, rfl⟩
set_option maxHeartbeats 400000 in
theorem Oop_yes (n : Int) (w : World) (hT : Tab w) (h : kindOf n = 3) :
    Calls Tryd.prog 21 #[.int .i64 n] w fun e w' => e = .returned (.tuple #[.int .i64 (n / 4), .int .i64 (0)]) ∧ w' = w := by
  have hK := kind_any n w hT
  rw [h] at hK
  have hk := (kind3 n).1 h
  clear h
  obtain ⟨h2, h0, h1⟩ := hk
  skip
  clear h2
  go_enter Tryd.func21, Tryd.ntmps21
  go_wp2_with (go_at_call 15; refine hK.mono ?_; rintro e w' ⟨rfl, rfl⟩)
  go_ret2
  exact ⟨rfl, rfl⟩
set_option maxHeartbeats 400000 in
theorem Oop_no (n : Int) (w : World) (hT : Tab w) (h : kindOf n ≠ 3) :
    Calls Tryd.prog 21 #[.int .i64 n] w fun e w' => e = .returned (.tuple #[.int .i64 (0), .int .i64 (10)]) ∧ w' = w := by
  have hK := kind_any n w hT
  have hz : (kindOf n != 3) = true := by simpa using h
  clear h
  generalize kindOf n = q at *
  go_enter Tryd.func21, Tryd.ntmps21
  go_wp2_with (go_at_call 15; refine hK.mono ?_; rintro e w' ⟨rfl, rfl⟩)
  go_ret2
  exact ⟨rfl, rfl⟩
end Go.Proofs.YtookbbephlllmabDoor
