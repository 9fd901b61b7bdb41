import Derived.Test.YtookbbephlllmaaDoorChecked
import Derived.Test.YtookbbephlllmaaDoorDMath
import Derived.WalkKit
import Derived.WalkSpells
import Derived.WalkLawsBesides
import Derived.BigQuiet
import Derived.Deep.QuietTactic
namespace Go.Proofs.YtookbbephlllmaaDoor
open Go.RowKit
set_option linter.unusedVariables false
theorem ret_int {k : IntKind} {a b : Int} (h : a = b) : Ending.returned (.int k a) = .returned (.int k b) := by rw [h]
theorem ret_int2 {k l : IntKind} {a b c : Int} (h : a = b) : Ending.returned (.tuple #[.int k a, .int l c]) = .returned (.tuple #[.int k b, .int l c]) := by rw [h]
theorem ret_bool {a b : Bool} (h : a = b) : Ending.returned (.bool a) = .returned (.bool b) := by rw [h]
set_option maxHeartbeats 400000 in
theorem inRange_yes (n : Int) (w : World) (h0 : -1073741824 ≤ n) (h1 : n ≤ 1073741823) :
    Calls Tryd.prog 14 #[.int .i64 n] w fun e w' => e = .returned (.bool true) ∧ w' = w := by
  go_enter Tryd.func14, Tryd.ntmps14
  go_wp2
  go_ret
  exact ⟨ret_bool (by simp), rfl⟩
set_option maxHeartbeats 400000 in
theorem inRange_no (n : Int) (w : World) (h : n < -1073741824 ∨ 1073741823 < n) :
    Calls Tryd.prog 14 #[.int .i64 n] w fun e w' => e = .returned (.bool false) ∧ w' = w := by
  go_enter Tryd.func14, Tryd.ntmps14
  go_wp2
  · go_ret
    exact ⟨ret_bool (by simp; omega), rfl⟩
  · go_ret
    exact ⟨rfl, rfl⟩
set_option maxHeartbeats 400000 in
theorem num_any (n : Int) (w : World) (h0 : -9223372036854775808 ≤ n) (h1 : n ≤ 9223372036854775807) :
    Calls Tryd.prog 9 #[.int .i64 n] w fun e w' => e = .returned (.int .i64 (n)) ∧ w' = w := by
  go_enter Tryd.func9, Tryd.ntmps9
  go_wp2
  go_ret
  exact ⟨ret_int (by first | rfl | (unfold wrap64; omega)), rfl⟩
set_option maxHeartbeats 400000 in
theorem intWord_any (n : Int) (w : World) (h0 : -1073741824 ≤ n) (h1 : n ≤ 1073741823) :
    Calls Tryd.prog 15 #[.int .i64 n] w fun e w' => e = .returned (.int .i64 (2 * n + 1)) ∧ w' = w := by
  go_enter Tryd.func15, Tryd.ntmps15
  go_wp2
  go_ret
  exact ⟨rfl, rfl⟩
set_option maxHeartbeats 400000 in
theorem symbolWord_any (n : Int) (w : World) (h0 : 0 ≤ n) (h1 : n ≤ 4095) :
    Calls Tryd.prog 16 #[.int .i64 n] w fun e w' => e = .returned (.int .i64 (4 * n + 2)) ∧ w' = w := by
  go_enter Tryd.func16, Tryd.ntmps16
  go_wp2
  go_ret
  exact ⟨rfl, rfl⟩
set_option maxHeartbeats 400000 in
theorem objectWord_any (n : Int) (w : World) (h0 : 1 ≤ n) (h1 : n ≤ 65536) :
    Calls Tryd.prog 17 #[.int .i64 n] w fun e w' => e = .returned (.int .i64 (4 * n)) ∧ w' = w := by
  go_enter Tryd.func17, Tryd.ntmps17
  go_wp2
  go_ret
  exact ⟨rfl, rfl⟩
set_option maxHeartbeats 400000 in
theorem Int_in (n : Int) (w : World) (h0 : -1073741824 ≤ n) (h1 : n ≤ 1073741823) :
    Calls Tryd.prog 6 #[.int .i64 n] w fun e w' => e = .returned (.tuple #[.int .i64 (2 * n + 1), .int .i64 (0)]) ∧ w' = w := by
  go_enter Tryd.func6, Tryd.ntmps6
  go_wp2_with (first | (go_at_call 14; refine (inRange_yes _ _ (by omega) (by omega)).mono ?_; rintro e w' ⟨rfl, rfl⟩) | (go_at_call 14; refine (inRange_no _ _ (by omega)).mono ?_; rintro e w' ⟨rfl, rfl⟩) | (go_at_call 15; refine (intWord_any _ _ h0 h1).mono ?_; rintro e w' ⟨rfl, rfl⟩))
  go_ret2
  exact ⟨rfl, rfl⟩
set_option maxHeartbeats 400000 in
theorem Int_out (n : Int) (w : World) (h : n < -1073741824 ∨ 1073741823 < n) :
    Calls Tryd.prog 6 #[.int .i64 n] w fun e w' => e = .returned (.tuple #[.int .i64 (0), .int .i64 (1)]) ∧ w' = w := by
  rcases h with h | h
  all_goals
    go_enter Tryd.func6, Tryd.ntmps6
    go_wp2_with (first | (go_at_call 14; refine (inRange_yes _ _ (by omega) (by omega)).mono ?_; rintro e w' ⟨rfl, rfl⟩) | (go_at_call 14; refine (inRange_no _ _ (by omega)).mono ?_; rintro e w' ⟨rfl, rfl⟩))
    go_ret2
    exact ⟨rfl, rfl⟩
set_option maxHeartbeats 400000 in
theorem Symbol_in (n : Int) (w : World) (h0 : 0 ≤ n) (h1 : n ≤ 4095) :
    Calls Tryd.prog 7 #[.int .i64 n] w fun e w' => e = .returned (.tuple #[.int .i64 (4 * n + 2), .int .i64 (0)]) ∧ w' = w := by
  go_enter Tryd.func7, Tryd.ntmps7
  go_wp2_with (first | (go_at_call 14; refine (inRange_yes _ _ (by omega) (by omega)).mono ?_; rintro e w' ⟨rfl, rfl⟩) | (go_at_call 14; refine (inRange_no _ _ (by omega)).mono ?_; rintro e w' ⟨rfl, rfl⟩) | (go_at_call 16; refine (symbolWord_any _ _ h0 h1).mono ?_; rintro e w' ⟨rfl, rfl⟩))
  go_ret2
  exact ⟨rfl, rfl⟩
set_option maxHeartbeats 400000 in
theorem Symbol_out (n : Int) (w : World) (h : n < 0 ∨ 4095 < n) :
    Calls Tryd.prog 7 #[.int .i64 n] w fun e w' => e = .returned (.tuple #[.int .i64 (0), .int .i64 (1)]) ∧ w' = w := by
  rcases h with h | h
  all_goals
    go_enter Tryd.func7, Tryd.ntmps7
    go_wp2_with (first | (go_at_call 14; refine (inRange_yes _ _ (by omega) (by omega)).mono ?_; rintro e w' ⟨rfl, rfl⟩) | (go_at_call 14; refine (inRange_no _ _ (by omega)).mono ?_; rintro e w' ⟨rfl, rfl⟩))
    go_ret2
    exact ⟨rfl, rfl⟩
set_option maxHeartbeats 400000 in
theorem Object_in (n : Int) (w : World) (h0 : 1 ≤ n) (h1 : n ≤ 65536) :
    Calls Tryd.prog 8 #[.int .i64 n] w fun e w' => e = .returned (.tuple #[.int .i64 (4 * n), .int .i64 (0)]) ∧ w' = w := by
  go_enter Tryd.func8, Tryd.ntmps8
  go_wp2_with (first | (go_at_call 14; refine (inRange_yes _ _ (by omega) (by omega)).mono ?_; rintro e w' ⟨rfl, rfl⟩) | (go_at_call 14; refine (inRange_no _ _ (by omega)).mono ?_; rintro e w' ⟨rfl, rfl⟩) | (go_at_call 17; refine (objectWord_any _ _ h0 h1).mono ?_; rintro e w' ⟨rfl, rfl⟩))
  go_ret2
  exact ⟨rfl, rfl⟩
set_option maxHeartbeats 400000 in
theorem Object_out (n : Int) (w : World) (h : n < 1 ∨ 65536 < n) :
    Calls Tryd.prog 8 #[.int .i64 n] w fun e w' => e = .returned (.tuple #[.int .i64 (0), .int .i64 (1)]) ∧ w' = w := by
  rcases h with h | h
  all_goals
    go_enter Tryd.func8, Tryd.ntmps8
    go_wp2_with (first | (go_at_call 14; refine (inRange_yes _ _ (by omega) (by omega)).mono ?_; rintro e w' ⟨rfl, rfl⟩) | (go_at_call 14; refine (inRange_no _ _ (by omega)).mono ?_; rintro e w' ⟨rfl, rfl⟩))
    go_ret2
    exact ⟨rfl, rfl⟩
set_option maxHeartbeats 400000 in
theorem span1  (w : World)  :
    Calls Tryd.prog 18 #[.int .i64 1] w fun e w' => e = .returned (.tuple #[.int .i64 (-2147483647), .int .i64 (2147483647)]) ∧ w' = w := by
  go_enter Tryd.func18, Tryd.ntmps18
  go_wp2_with (first | (go_at_call 15; refine (intWord_any _ _ (by omega) (by omega)).mono ?_; rintro e w' ⟨rfl, rfl⟩) | (go_at_call 16; refine (symbolWord_any _ _ (by omega) (by omega)).mono ?_; rintro e w' ⟨rfl, rfl⟩) | (go_at_call 17; refine (objectWord_any _ _ (by omega) (by omega)).mono ?_; rintro e w' ⟨rfl, rfl⟩))
  go_ret2
  exact ⟨rfl, rfl⟩
set_option maxHeartbeats 400000 in
theorem span2  (w : World)  :
    Calls Tryd.prog 18 #[.int .i64 2] w fun e w' => e = .returned (.tuple #[.int .i64 (2), .int .i64 (16382)]) ∧ w' = w := by
  go_enter Tryd.func18, Tryd.ntmps18
  go_wp2_with (first | (go_at_call 15; refine (intWord_any _ _ (by omega) (by omega)).mono ?_; rintro e w' ⟨rfl, rfl⟩) | (go_at_call 16; refine (symbolWord_any _ _ (by omega) (by omega)).mono ?_; rintro e w' ⟨rfl, rfl⟩) | (go_at_call 17; refine (objectWord_any _ _ (by omega) (by omega)).mono ?_; rintro e w' ⟨rfl, rfl⟩))
  go_ret2
  exact ⟨rfl, rfl⟩
set_option maxHeartbeats 400000 in
theorem span3  (w : World)  :
    Calls Tryd.prog 18 #[.int .i64 3] w fun e w' => e = .returned (.tuple #[.int .i64 (4), .int .i64 (262144)]) ∧ w' = w := by
  go_enter Tryd.func18, Tryd.ntmps18
  go_wp2_with (first | (go_at_call 15; refine (intWord_any _ _ (by omega) (by omega)).mono ?_; rintro e w' ⟨rfl, rfl⟩) | (go_at_call 16; refine (symbolWord_any _ _ (by omega) (by omega)).mono ?_; rintro e w' ⟨rfl, rfl⟩) | (go_at_call 17; refine (objectWord_any _ _ (by omega) (by omega)).mono ?_; rintro e w' ⟨rfl, rfl⟩))
  go_ret2
  exact ⟨rfl, rfl⟩
/-- the table, as it lies -/
def Tab (w : World) : Prop := w.cell? ⟨0, 0, none⟩ = some (.int .i64 3) ∧ w.cell? ⟨0, 1, none⟩ = some (.int .i64 1) ∧ w.cell? ⟨0, 2, none⟩ = some (.int .i64 2) ∧ w.cell? ⟨0, 3, none⟩ = some (.int .i64 1)
set_option maxHeartbeats 400000 in
theorem kind_r0_in (n : Int) (w : World) (hT : Tab w) (hr : n % 4 = 0) (h0 : 4 ≤ n) (h1 : n ≤ 262144) :
    Calls Tryd.prog 13 #[.int .i64 n] w fun e w' => e = .returned (.int .i64 (3)) ∧ w' = w := by
  obtain ⟨c0, c1, c2, c3⟩ := hT
  have hb : bits .and .i64 n 3 = 0 := by rw [and3, hr]
  clear hr
  go_enter Tryd.func13, Tryd.ntmps13
  go_wp2_with (go_at_call 18; refine (span3 _).mono ?_; rintro e w' ⟨rfl, rfl⟩)
  go_ret
  exact ⟨rfl, rfl⟩
set_option maxHeartbeats 400000 in
theorem kind_r0_out (n : Int) (w : World) (hT : Tab w) (hr : n % 4 = 0) (h : n < 4 ∨ 262144 < n) :
    Calls Tryd.prog 13 #[.int .i64 n] w fun e w' => e = .returned (.int .i64 (0)) ∧ w' = w := by
  obtain ⟨c0, c1, c2, c3⟩ := hT
  have hb : bits .and .i64 n 3 = 0 := by rw [and3, hr]
  clear hr
  rcases h with h | h
  all_goals
    go_enter Tryd.func13, Tryd.ntmps13
    go_wp2_with (go_at_call 18; refine (span3 _).mono ?_; rintro e w' ⟨rfl, rfl⟩)
    go_ret
    exact ⟨rfl, rfl⟩
set_option maxHeartbeats 400000 in
theorem kind_r1_in (n : Int) (w : World) (hT : Tab w) (hr : n % 4 = 1) (h0 : -2147483647 ≤ n) (h1 : n ≤ 2147483647) :
    Calls Tryd.prog 13 #[.int .i64 n] w fun e w' => e = .returned (.int .i64 (1)) ∧ w' = w := by
  obtain ⟨c0, c1, c2, c3⟩ := hT
  have hb : bits .and .i64 n 3 = 1 := by rw [and3, hr]
  clear hr
  go_enter Tryd.func13, Tryd.ntmps13
  go_wp2_with (go_at_call 18; refine (span1 _).mono ?_; rintro e w' ⟨rfl, rfl⟩)
  go_ret
  exact ⟨rfl, rfl⟩
set_option maxHeartbeats 400000 in
theorem kind_r1_out (n : Int) (w : World) (hT : Tab w) (hr : n % 4 = 1) (h : n < -2147483647 ∨ 2147483647 < n) :
    Calls Tryd.prog 13 #[.int .i64 n] w fun e w' => e = .returned (.int .i64 (0)) ∧ w' = w := by
  obtain ⟨c0, c1, c2, c3⟩ := hT
  have hb : bits .and .i64 n 3 = 1 := by rw [and3, hr]
  clear hr
  rcases h with h | h
  all_goals
    go_enter Tryd.func13, Tryd.ntmps13
    go_wp2_with (go_at_call 18; refine (span1 _).mono ?_; rintro e w' ⟨rfl, rfl⟩)
    go_ret
    exact ⟨rfl, rfl⟩
set_option maxHeartbeats 400000 in
theorem kind_r2_in (n : Int) (w : World) (hT : Tab w) (hr : n % 4 = 2) (h0 : 2 ≤ n) (h1 : n ≤ 16382) :
    Calls Tryd.prog 13 #[.int .i64 n] w fun e w' => e = .returned (.int .i64 (2)) ∧ w' = w := by
  obtain ⟨c0, c1, c2, c3⟩ := hT
  have hb : bits .and .i64 n 3 = 2 := by rw [and3, hr]
  clear hr
  go_enter Tryd.func13, Tryd.ntmps13
  go_wp2_with (go_at_call 18; refine (span2 _).mono ?_; rintro e w' ⟨rfl, rfl⟩)
  go_ret
  exact ⟨rfl, rfl⟩
set_option maxHeartbeats 400000 in
theorem kind_r2_out (n : Int) (w : World) (hT : Tab w) (hr : n % 4 = 2) (h : n < 2 ∨ 16382 < n) :
    Calls Tryd.prog 13 #[.int .i64 n] w fun e w' => e = .returned (.int .i64 (0)) ∧ w' = w := by
  obtain ⟨c0, c1, c2, c3⟩ := hT
  have hb : bits .and .i64 n 3 = 2 := by rw [and3, hr]
  clear hr
  rcases h with h | h
  all_goals
    go_enter Tryd.func13, Tryd.ntmps13
    go_wp2_with (go_at_call 18; refine (span2 _).mono ?_; rintro e w' ⟨rfl, rfl⟩)
    go_ret
    exact ⟨rfl, rfl⟩
set_option maxHeartbeats 400000 in
theorem kind_r3_in (n : Int) (w : World) (hT : Tab w) (hr : n % 4 = 3) (h0 : -2147483647 ≤ n) (h1 : n ≤ 2147483647) :
    Calls Tryd.prog 13 #[.int .i64 n] w fun e w' => e = .returned (.int .i64 (1)) ∧ w' = w := by
  obtain ⟨c0, c1, c2, c3⟩ := hT
  have hb : bits .and .i64 n 3 = 3 := by rw [and3, hr]
  clear hr
  go_enter Tryd.func13, Tryd.ntmps13
  go_wp2_with (go_at_call 18; refine (span1 _).mono ?_; rintro e w' ⟨rfl, rfl⟩)
  go_ret
  exact ⟨rfl, rfl⟩
set_option maxHeartbeats 400000 in
theorem kind_r3_out (n : Int) (w : World) (hT : Tab w) (hr : n % 4 = 3) (h : n < -2147483647 ∨ 2147483647 < n) :
    Calls Tryd.prog 13 #[.int .i64 n] w fun e w' => e = .returned (.int .i64 (0)) ∧ w' = w := by
  obtain ⟨c0, c1, c2, c3⟩ := hT
  have hb : bits .and .i64 n 3 = 3 := by rw [and3, hr]
  clear hr
  rcases h with h | h
  all_goals
    go_enter Tryd.func13, Tryd.ntmps13
    go_wp2_with (go_at_call 18; refine (span1 _).mono ?_; rintro e w' ⟨rfl, rfl⟩)
    go_ret
    exact ⟨rfl, rfl⟩
theorem kind_any (n : Int) (w : World) (hT : Tab w) :
    Calls Tryd.prog 13 #[.int .i64 n] w fun e w' => e = .returned (.int .i64 (kindOf n)) ∧ w' = w := by
  have h4 : n % 4 = 0 ∨ n % 4 = 1 ∨ n % 4 = 2 ∨ n % 4 = 3 := by omega
  rcases h4 with h4 | h4 | h4 | h4
  · by_cases h : 4 ≤ n ∧ n ≤ 262144
    · have e : kindOf n = 3 := (kind3 n).2 ⟨h4, h⟩
      rw [e]; exact kind_r0_in n w hT h4 h.1 h.2
    · have e : kindOf n = 0 := by unfold kindOf; repeat' split
                                  all_goals omega
      rw [e]; exact kind_r0_out n w hT h4 (by omega)
  · by_cases h : -2147483647 ≤ n ∧ n ≤ 2147483647
    · have e : kindOf n = 1 := (kind1 n).2 ⟨by omega, h⟩
      rw [e]; exact kind_r1_in n w hT h4 h.1 h.2
    · have e : kindOf n = 0 := by unfold kindOf; repeat' split
                                  all_goals omega
      rw [e]; exact kind_r1_out n w hT h4 (by omega)
  · by_cases h : 2 ≤ n ∧ n ≤ 16382
    · have e : kindOf n = 2 := (kind2 n).2 ⟨h4, h⟩
      rw [e]; exact kind_r2_in n w hT h4 h.1 h.2
    · have e : kindOf n = 0 := by unfold kindOf; repeat' split
                                  all_goals omega
      rw [e]; exact kind_r2_out n w hT h4 (by omega)
  · by_cases h : -2147483647 ≤ n ∧ n ≤ 2147483647
    · have e : kindOf n = 1 := (kind1 n).2 ⟨by omega, h⟩
      rw [e]; exact kind_r3_in n w hT h4 h.1 h.2
    · have e : kindOf n = 0 := by unfold kindOf; repeat' split
                                  all_goals omega
      rw [e]; exact kind_r3_out n w hT h4 (by omega)
set_option maxHeartbeats 400000 in
theorem Num_yes (n : Int) (w : World) (hT : Tab w) (h : kindOf n = 1) :
    Calls Tryd.prog 10 #[.int .i64 n] w fun e w' => e = .returned (.tuple #[.int .i64 ((n - 1) / 2), .int .i64 (0)]) ∧ w' = w := by
  have hK := kind_any n w hT
  rw [h] at hK
  have hk := (kind1 n).1 h
  clear h
  obtain ⟨h2, h0, h1⟩ := hk
  have e : Hid ((n - 1).tdiv 2 = (n - 1) / 2) := half n h2
  clear h2
  go_enter Tryd.func10, Tryd.ntmps10
  go_wp2_with (go_at_call 13; refine hK.mono ?_; rintro e w' ⟨rfl, rfl⟩)
  go_ret2
  exact ⟨ret_int2 e.out, rfl⟩
set_option maxHeartbeats 400000 in
theorem Num_no (n : Int) (w : World) (hT : Tab w) (h : kindOf n ≠ 1) :
    Calls Tryd.prog 10 #[.int .i64 n] w fun e w' => e = .returned (.tuple #[.int .i64 (0), .int .i64 (10)]) ∧ w' = w := by
  have hK := kind_any n w hT
  have hz : (kindOf n != 1) = true := by simpa using h
  clear h
  generalize kindOf n = q at *
  go_enter Tryd.func10, Tryd.ntmps10
  go_wp2_with (go_at_call 13; refine hK.mono ?_; rintro e w' ⟨rfl, rfl⟩)
  go_ret2
  exact ⟨rfl, rfl⟩
set_option maxHeartbeats 400000 in
theorem Sym_yes (n : Int) (w : World) (hT : Tab w) (h : kindOf n = 2) :
    Calls Tryd.prog 11 #[.int .i64 n] w fun e w' => e = .returned (.tuple #[.int .i64 ((n - 2) / 4), .int .i64 (0)]) ∧ w' = w := by
  have hK := kind_any n w hT
  rw [h] at hK
  have hk := (kind2 n).1 h
  clear h
  obtain ⟨h2, h0, h1⟩ := hk
  skip
  clear h2
  go_enter Tryd.func11, Tryd.ntmps11
  go_wp2_with (go_at_call 13; refine hK.mono ?_; rintro e w' ⟨rfl, rfl⟩)
  go_ret2
  exact ⟨rfl, rfl⟩
set_option maxHeartbeats 400000 in
theorem Sym_no (n : Int) (w : World) (hT : Tab w) (h : kindOf n ≠ 2) :
    Calls Tryd.prog 11 #[.int .i64 n] w fun e w' => e = .returned (.tuple #[.int .i64 (0), .int .i64 (10)]) ∧ w' = w := by
  have hK := kind_any n w hT
  have hz : (kindOf n != 2) = true := by simpa using h
  clear h
  generalize kindOf n = q at *
  go_enter Tryd.func11, Tryd.ntmps11
  go_wp2_with (go_at_call 13; refine hK.mono ?_; rintro e w' ⟨rfl, rfl⟩)
  go_ret2
  exact ⟨rfl, rfl⟩
set_option maxHeartbeats 400000 in
theorem Oop_yes (n : Int) (w : World) (hT : Tab w) (h : kindOf n = 3) :
    Calls Tryd.prog 12 #[.int .i64 n] w fun e w' => e = .returned (.tuple #[.int .i64 (n / 4), .int .i64 (0)]) ∧ w' = w := by
  have hK := kind_any n w hT
  rw [h] at hK
  have hk := (kind3 n).1 h
  clear h
  obtain ⟨h2, h0, h1⟩ := hk
  skip
  clear h2
  go_enter Tryd.func12, Tryd.ntmps12
  go_wp2_with (go_at_call 13; refine hK.mono ?_; rintro e w' ⟨rfl, rfl⟩)
  go_ret2
  exact ⟨rfl, rfl⟩
set_option maxHeartbeats 400000 in
theorem Oop_no (n : Int) (w : World) (hT : Tab w) (h : kindOf n ≠ 3) :
    Calls Tryd.prog 12 #[.int .i64 n] w fun e w' => e = .returned (.tuple #[.int .i64 (0), .int .i64 (10)]) ∧ w' = w := by
  have hK := kind_any n w hT
  have hz : (kindOf n != 3) = true := by simpa using h
  clear h
  generalize kindOf n = q at *
  go_enter Tryd.func12, Tryd.ntmps12
  go_wp2_with (go_at_call 13; refine hK.mono ?_; rintro e w' ⟨rfl, rfl⟩)
  go_ret2
  exact ⟨rfl, rfl⟩
set_option maxHeartbeats 400000 in
theorem clipped_any (n lo hi : Int) (w : World) (h0 : -9223372036854775808 ≤ n) (h1 : n ≤ 9223372036854775807) (l0 : -1073741824 ≤ lo) (l1 : lo ≤ hi) (l2 : hi ≤ 1073741823) :
    Calls Tryd.prog 5 #[.int .i64 n, .int .i64 lo, .int .i64 hi] w fun e w' => (∃ a, e = .returned (.int .i64 a) ∧ lo ≤ a ∧ a ≤ hi) ∧ w' = w := by
  have t2 := tm_lt n (hi - lo + 1) (by omega)
  have t3 := tm_gt n (hi - lo + 1) (by omega)
  have hz : (hi - lo + 1 == 0) = false := by simp; omega
  by_cases c0 : lo ≤ n
  · by_cases c1 : n ≤ hi
    · go_enter Tryd.func5, Tryd.ntmps5
      go_wp2
      go_ret
      exact ⟨⟨n, rfl, c0, c1⟩, rfl⟩
    · go_enter Tryd.func5, Tryd.ntmps5
      go_wp2
      all_goals
        go_ret
        exact ⟨⟨_, rfl, by omega, by omega⟩, rfl⟩
  · go_enter Tryd.func5, Tryd.ntmps5
    go_wp2
    all_goals
      go_ret
      exact ⟨⟨_, rfl, by omega, by omega⟩, rfl⟩
set_option maxHeartbeats 400000 in
theorem ranged_any (n : Int) (w : World) (h0 : -9223372036854775808 ≤ n) (h1 : n ≤ 9223372036854775807) :
    Calls Tryd.prog 4 #[.int .i64 n] w fun e w' => (∃ a, e = .returned (.int .i64 a) ∧ -1073741824 ≤ a ∧ a ≤ 1073741823) ∧ w' = w := by
  go_enter Tryd.func4, Tryd.ntmps4
  go_wp2_with (go_at_call 5; refine (clipped_any _ _ _ _ h0 h1 (by omega) (by omega) (by omega)).mono ?_; rintro e w' ⟨⟨a, rfl, ha0, ha1⟩, rfl⟩)
  go_ret
  exact ⟨⟨a, rfl, ha0, ha1⟩, rfl⟩
end Go.Proofs.YtookbbephlllmaaDoor
