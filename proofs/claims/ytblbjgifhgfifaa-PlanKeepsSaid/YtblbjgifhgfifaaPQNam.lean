import Derived.Test.YtblbjgifhgfifaaPG01NFds
namespace Go.Proofs.Ytblbjgifhgfifaa
open Go.RowKit
set_option linter.unusedVariables false
set_option linter.unusedSimpArgs false
set_option maxHeartbeats 1000000 in
theorem plain_ok (n : Nat) (w : World) : Calls Try.prog 57 #[.int .u8 n] w fun e w' => e = .returned (.bool (alnB n)) ∧ w' = w := by
  go_enter Try.func57, Try.ntmps57
  go_wp2
  all_goals (go_ret; exact ⟨congrArg (fun b => Ending.returned (Value.bool b)) (by rw [Bool.eq_iff_iff, alnB_iff]; simp <;> omega), rfl⟩)
def shapedB (s : ByteArray) (lo hi : Nat) : Bool := decide (1 ≤ s.size) && decide (s.size ≤ 32) && (decide (lo ≤ bAt s 0) && decide (bAt s 0 ≤ hi)) && (List.range s.size).all (fun i => alnB (bAt s i))
theorem isEmp (s : ByteArray) : s.toList.isEmpty = decide (s.size = 0) := by
  rw [toList_data]
  by_cases e : s.size = 0
  · rw [decide_eq_true e, fitStr_no e]; simp
  · rw [decide_eq_false e]
    cases h : s.data.toList with
    | nil => exact absurd (by rw [ByteArray.size, ← Array.length_toList, h]; rfl) e
    | cons x xs => rfl
set_option maxHeartbeats 2000000 in
set_option maxRecDepth 20000 in
theorem shaped_ok (s : ByteArray) (lo hi : Nat) (w : World) : Calls Try.prog 45 #[.string s, .int .u8 lo, .int .u8 hi] w fun e w' => e = .returned (.bool (shapedB s lo hi)) ∧ w' = w := by
  by_cases h1 : 1 ≤ s.size
  rotate_left
  · have hp : shapedB s lo hi = false := by simp [shapedB, h1]
    have h2 : s.toList.isEmpty = true := by rw [isEmp]; exact decide_eq_true (by omega)
    rw [hp]
    clear h1 hp
    go_enter Try.func45, Try.ntmps45
    go_wp2
    go_ret
    exact ⟨rfl, rfl⟩
  have h2 : s.toList.isEmpty = false := by rw [isEmp]; exact decide_eq_false (by omega)
  by_cases h3 : s.size ≤ 32
  rotate_left
  · have hp : shapedB s lo hi = false := by simp [shapedB, h3]
    have h4 : (32 : Int) < (s.size : Int) := by omega
    rw [hp]
    clear h1 h3 hp
    go_enter Try.func45, Try.ntmps45
    go_wp2
    go_ret
    exact ⟨rfl, rfl⟩
  have h4 : ¬ (32 : Int) < (s.size : Int) := by omega
  have h0 : 0 < s.size := by omega
  have h0i : (0 : Int) < (s.size : Int) := by omega
  have e0 := bAt_eq h0
  by_cases hlo : lo ≤ bAt s 0
  rotate_left
  · have hp : shapedB s lo hi = false := by simp [shapedB, hlo]
    have d1 : ((s[0]'h0).toNat : Int) < (lo : Int) := by rw [← e0]; omega
    rw [hp]
    clear hp e0 hlo
    go_enter Try.func45, Try.ntmps45
    go_wp2
    go_ret
    exact ⟨rfl, rfl⟩
  have d1 : ¬ ((s[0]'h0).toNat : Int) < (lo : Int) := by rw [← e0]; omega
  by_cases hhi : bAt s 0 ≤ hi
  rotate_left
  · have hp : shapedB s lo hi = false := by simp [shapedB, hhi]
    have d2 : (hi : Int) < ((s[0]'h0).toNat : Int) := by rw [← e0]; omega
    rw [hp]
    clear hp e0 hlo hhi
    go_enter Try.func45, Try.ntmps45
    go_wp2
    go_ret
    exact ⟨rfl, rfl⟩
  have d2 : ¬ (hi : Int) < ((s[0]'h0).toNat : Int) := by rw [← e0]; omega
  have HP : Hid (shapedB s lo hi = (List.range s.size).all (fun i => alnB (bAt s i))) := mkHid (by unfold shapedB; simp [h1, h3, hlo, hhi])
  clear hlo hhi e0
  go_enter Try.func45, Try.ntmps45
  go_wp2_with fail
  go_loopw [27] (fun q wr => ∃ i : Nat, i ≤ s.size ∧ q = .int .i64 i ∧ wr = w ∧ Hid (∀ j, j < i → alnB (bAt s j) = true)) (fun q _ => s.size - (intOf q).toNat)
  case atStart => exact ⟨0, by omega, rfl, rfl, mkHid (fun j h => by omega)⟩
  case round =>
    obtain ⟨i, hil0, rfl, rfl, hj⟩ := hrel
    by_cases hlt : i < s.size
    · have hil : (i : Int) < (s.size : Int) := by omega
      have i0 : (0 : Int) ≤ (i : Int) := by omega
      have e1 := bAt_eq hlt
      have L1 := plain_ok (s[i]'hlt).toNat
      cases hb : alnB (bAt s i) with
      | true =>
        have HN2 : Hid (∀ j, j < i + 1 → alnB (bAt s j) = true) := mkHid (fun j hj1 => by
          by_cases hji : j < i
          · exact hj.out j hji
          · have : j = i := by omega
            subst this; exact hb)
        rw [← e1, hb] at L1
        rw [e1] at L1
        clear hb e1 hj
        go_wp2_with (go_at_call 57; refine (L1 _).mono ?_; rintro e w1 ⟨rfl, rfl⟩)
        go_roundw
        case rel => exact ⟨i + 1, by omega, by go_num, by simp, HN2⟩
        case measure => simp [intOf]; omega
      | false =>
        have HB : Hid (shapedB s lo hi = false) := mkHid (by
          rw [HP.out, Bool.eq_false_iff]
          intro ha
          rw [List.all_eq_true] at ha
          rw [ha i (List.mem_range.2 hlt)] at hb
          cases hb)
        rw [← e1, hb] at L1
        rw [e1] at L1
        clear hb e1 hj
        go_wp2_with (go_at_call 57; refine (L1 _).mono ?_; rintro e w1 ⟨rfl, rfl⟩)
        go_ret
        exact ⟨by rw [HB.out]; rfl, rfl⟩
    · have hie : i = s.size := by omega
      subst hie
      have HE : Hid (shapedB s lo hi = true) := mkHid (by
        rw [HP.out, List.all_eq_true]
        intro j hj1
        exact hj.out j (List.mem_range.1 hj1))
      clear hj
      go_wp2_with fail
      go_ret
      exact ⟨by rw [HE.out]; rfl, rfl⟩
theorem class_shaped (s : ByteArray) : shapedB s 65 90 = classB s := by
  unfold shapedB classB plainB
  rw [Bool.eq_iff_iff]
  simp only [Bool.and_eq_true, decide_eq_true_eq, letB_iff]
  constructor
  · rintro ⟨⟨⟨h1, h2⟩, h3, h4⟩, h5⟩; exact ⟨⟨⟨⟨h1, h2⟩, by omega⟩, h5⟩, h4⟩
  · rintro ⟨⟨⟨⟨h1, h2⟩, h3⟩, h5⟩, h4⟩; exact ⟨⟨⟨h1, h2⟩, by omega, h4⟩, h5⟩
theorem field_shaped (s : ByteArray) : (shapedB s 97 122 && decide (s ≠ sSelf) && decide (s ≠ sSuper) && decide (s ≠ sNil) && decide (s ≠ sTrue) && decide (s ≠ sFalse)) = fieldB s := by
  have : shapedB s 97 122 = (plainB s && decide (97 ≤ bAt s 0)) := by
    unfold shapedB plainB
    rw [Bool.eq_iff_iff]
    simp only [Bool.and_eq_true, decide_eq_true_eq, letB_iff]
    constructor
    · rintro ⟨⟨⟨h1, h2⟩, h3, h4⟩, h5⟩; exact ⟨⟨⟨⟨h1, h2⟩, by omega⟩, h5⟩, h3⟩
    · rintro ⟨⟨⟨⟨h1, h2⟩, h3⟩, h5⟩, h4⟩; exact ⟨⟨⟨h1, h2⟩, h4, by omega⟩, h5⟩
  rw [this]; rfl
set_option maxHeartbeats 2000000 in
set_option maxRecDepth 20000 in
theorem nField_ok (s : ByteArray) (w : World) : Calls Try.prog 26 #[.string s] w fun e w' => e = .returned (.bool (fieldB s)) ∧ w' = w := by
  have HS := shaped_ok s 97 122 w
  rw [← field_shaped, ne_lit s sSelf [115, 101, 108, 102] rfl, ne_lit s sSuper [115, 117, 112, 101, 114] rfl, ne_lit s sNil [110, 105, 108] rfl, ne_lit s sTrue [116, 114, 117, 101] rfl, ne_lit s sFalse [102, 97, 108, 115, 101] rfl]
  generalize shapedB s 97 122 = d at *
  go_enter Try.func26, Try.ntmps26
  go_wp2_with (go_at_call 45; refine HS.mono ?_; rintro e w1 ⟨rfl, rfl⟩)
  all_goals (go_ret; exact ⟨congrArg (fun b => Ending.returned (Value.bool b)) (by first | (simp_all; done) | (rw [show (s.toList == [115, 101, 108, 102]) = false from (by assumption), show (s.toList == [115, 117, 112, 101, 114]) = false from (by assumption), show (s.toList == [110, 105, 108]) = false from (by assumption), show (s.toList == [116, 114, 117, 101]) = false from (by assumption), show (s.toList == [102, 97, 108, 115, 101]) = false from (by assumption)]; simp)), rfl⟩)
theorem nClass_ok (s : ByteArray) (w : World) : Calls Try.prog 28 #[.string s] w fun e w' => e = .returned (.bool (classB s)) ∧ w' = w := by
  have HS := shaped_ok s 65 90 w
  rw [class_shaped] at HS
  generalize classB s = d at *
  go_enter Try.func28, Try.ntmps28
  go_wp2_with (go_at_call 45; refine HS.mono ?_; rintro e w1 ⟨rfl, rfl⟩)
  go_ret
  exact ⟨rfl, rfl⟩
theorem pField_ok (s : ByteArray) (w : World) : Calls Try.prog 7 #[.string s] w fun e w' => e = .returned (.bool (fieldB s)) ∧ w' = w := by
  have HS := nField_ok s w
  generalize fieldB s = d at *
  go_enter Try.func7, Try.ntmps7
  go_wp2_with (go_at_call 26; refine HS.mono ?_; rintro e w1 ⟨rfl, rfl⟩)
  go_ret
  exact ⟨rfl, rfl⟩
theorem pClass_ok (s : ByteArray) (w : World) : Calls Try.prog 9 #[.string s] w fun e w' => e = .returned (.bool (classB s)) ∧ w' = w := by
  have HS := nClass_ok s w
  generalize classB s = d at *
  go_enter Try.func9, Try.ntmps9
  go_wp2_with (go_at_call 28; refine HS.mono ?_; rintro e w1 ⟨rfl, rfl⟩)
  go_ret
  exact ⟨rfl, rfl⟩
end Go.Proofs.Ytblbjgifhgfifaa
