import Derived.Test.YtjbacibicnfaeaaDoorLPrint
import Derived.Test.YtjbacibicnfaeaaDoorLSel
namespace Go.Proofs.YtjbacibicnfaeaaDoor
open Go.RowKit Go.Maps
set_option linter.unusedVariables false
set_option linter.unusedSimpArgs false
/-- whether a token (as Go has it) can be, the stop among them -/
def canZ (k : Int) (x : Bs) (m : Int) : Prop := (k ≠ 4 → m = 0) ∧ ((k = 1 ∨ k = 2) ∧ nameB x = true ∨ k = 3 ∧ opB x = true ∨ k = 4 ∧ x = [] ∧ 0 ≤ m ∧ m ≤ 1073741824 ∨ k = 5 ∧ symB x = true ∨ k = 6 ∨ 7 ≤ k ∧ k ≤ 18 ∧ x = [])
instance (k : Int) (x : Bs) (m : Int) : Decidable (canZ k x m) := by unfold canZ; infer_instance
set_option maxHeartbeats 8000000 in
set_option maxRecDepth 1000000 in
theorem canBe_ok (k : Int) (s : ByteArray) (m a : Int) (w : World) (hs : s.size ≤ 140737488355328) : Calls Tryd.prog 34 #[.agg #[.int .i64 k, .string s, .int .i64 m, .int .i64 a]] w fun e w' => e = .returned (.bool (decide (canZ k (lst s) m))) ∧ Bl w w' := by
  have HN := mkHid (fun W => isName_ok s W hs)
  have HO := mkHid (fun W => isOp_ok s W hs)
  have HS := mkHid (fun W => isSym_ok s W hs)
  by_cases h4 : k = 4
  · have b4 : (k == 4) = true := by simpa using h4
    have n4 : (k != 4) = false := by simpa using h4
    have b1 : (k == 1) = false := by simp; omega
    have b2 : (k == 2) = false := by simp; omega
    have b3 : (k == 3) = false := by simp; omega
    have c1 : ¬ k = 1 := by omega
    have c2 : ¬ k = 2 := by omega
    have c3 : ¬ k = 3 := by omega
    by_cases h0 : s.size = 0
    · have hE : s.toList.isEmpty = true := isEmpty_of h0
      have hx : lst s = [] := lst_nil.2 h0
      by_cases hm : 0 ≤ m
      · by_cases hm2 : m ≤ 1073741824
        · have d1 : decide (m ≤ 1073741824) = true := decide_eq_true hm2
          have e : decide (canZ k (lst s) m) = true := decide_eq_true (by unfold canZ; simp [hx]; omega)
          rw [e]
          clear e
          go_enter Tryd.func34, Tryd.ntmps34
          go_wp2
          go_ret
          exact ⟨rfl, Bl.alloc _ _⟩
        · have d1 : decide (m ≤ 1073741824) = false := decide_eq_false hm2
          have e : decide (canZ k (lst s) m) = false := decide_eq_false (fun h => by unfold canZ at h; first | omega | (simp [hx] at h; omega) | (simp [hx] at h))
          rw [e]
          clear e
          go_enter Tryd.func34, Tryd.ntmps34
          go_wp2
          go_ret
          exact ⟨rfl, Bl.alloc _ _⟩
      · have d1 : decide (0 ≤ m) = false := decide_eq_false hm
        have e : decide (canZ k (lst s) m) = false := decide_eq_false (fun h => by unfold canZ at h; first | omega | (simp [hx] at h; omega) | (simp [hx] at h))
        rw [e]
        clear e
        go_enter Tryd.func34, Tryd.ntmps34
        go_wp2
        go_ret
        exact ⟨rfl, Bl.alloc _ _⟩
    · have hE : s.toList.isEmpty = false := not_empty_of h0
      have hx : ¬ lst s = [] := fun h => h0 (lst_nil.1 h)
      have e : decide (canZ k (lst s) m) = false := decide_eq_false (fun h => by unfold canZ at h; first | omega | (simp [hx] at h; omega) | (simp [hx] at h))
      rw [e]
      clear e
      go_enter Tryd.func34, Tryd.ntmps34
      go_wp2
      go_ret
      exact ⟨rfl, Bl.alloc _ _⟩
  · by_cases hm : m = 0
    · subst hm
      by_cases h1 : k = 1
      · subst h1
        have e : decide (canZ 1 (lst s) 0) = nameB (lst s) := by
          rw [Bool.eq_iff_iff]
          simp [canZ]
        rw [e]
        clear e
        go_enter Tryd.func34, Tryd.ntmps34
        go_wp2_with (go_at_call 24; refine (HN.out _).mono ?_; rintro e1 w1 ⟨rfl, b1⟩)
        go_ret
        exact ⟨rfl, (Bl.alloc _ _).trans b1⟩
      by_cases h2 : k = 2
      · subst h2
        have e : decide (canZ 2 (lst s) 0) = nameB (lst s) := by
          rw [Bool.eq_iff_iff]
          simp [canZ]
        rw [e]
        clear e
        go_enter Tryd.func34, Tryd.ntmps34
        go_wp2_with (go_at_call 24; refine (HN.out _).mono ?_; rintro e1 w1 ⟨rfl, b1⟩)
        go_ret
        exact ⟨rfl, (Bl.alloc _ _).trans b1⟩
      by_cases h3 : k = 3
      · subst h3
        have e : decide (canZ 3 (lst s) 0) = opB (lst s) := by
          rw [Bool.eq_iff_iff]
          simp [canZ]
        rw [e]
        clear e
        go_enter Tryd.func34, Tryd.ntmps34
        go_wp2_with (go_at_call 27; refine (HO.out _).mono ?_; rintro e1 w1 ⟨rfl, rfl⟩)
        go_ret
        exact ⟨rfl, Bl.alloc _ _⟩
      by_cases h5 : k = 5
      · subst h5
        have e : decide (canZ 5 (lst s) 0) = symB (lst s) := by
          rw [Bool.eq_iff_iff]
          simp [canZ]
        rw [e]
        clear e
        go_enter Tryd.func34, Tryd.ntmps34
        go_wp2_with (go_at_call 57; refine (HS.out _).mono ?_; rintro e1 w1 ⟨rfl, b1⟩)
        go_ret
        exact ⟨rfl, (Bl.alloc _ _).trans b1⟩
      by_cases h6 : k = 6
      · subst h6
        have e : decide (canZ 6 (lst s) 0) = true := by simp [canZ]
        rw [e]
        clear e
        go_enter Tryd.func34, Tryd.ntmps34
        go_wp2
        go_ret
        exact ⟨rfl, Bl.alloc _ _⟩
      by_cases h0 : s.size = 0
      · have hE : s.toList.isEmpty = true := isEmpty_of h0
        have hx : lst s = [] := lst_nil.2 h0
        by_cases h7 : 7 ≤ k
        · by_cases h8 : k ≤ 18
          · have d1 : decide (k ≤ 18) = true := decide_eq_true h8
            have d2 : decide (7 ≤ k) = true := decide_eq_true h7
            have e : decide (canZ k (lst s) 0) = true := decide_eq_true (by unfold canZ; simp [hx]; omega)
            rw [e]
            clear e
            go_enter Tryd.func34, Tryd.ntmps34
            go_wp2
            go_ret
            exact ⟨rfl, Bl.alloc _ _⟩
          · have d1 : decide (k ≤ 18) = false := decide_eq_false h8
            have d2 : decide (7 ≤ k) = true := decide_eq_true h7
            have e : decide (canZ k (lst s) 0) = false := decide_eq_false (fun h => by unfold canZ at h; first | omega | (simp [hx] at h; omega) | (simp [hx] at h))
            rw [e]
            clear e
            go_enter Tryd.func34, Tryd.ntmps34
            go_wp2
            go_ret
            exact ⟨rfl, Bl.alloc _ _⟩
        · have d2 : decide (7 ≤ k) = false := decide_eq_false h7
          have e : decide (canZ k (lst s) 0) = false := decide_eq_false (fun h => by unfold canZ at h; first | omega | (simp [hx] at h; omega) | (simp [hx] at h))
          rw [e]
          clear e
          go_enter Tryd.func34, Tryd.ntmps34
          go_wp2
          go_ret
          exact ⟨rfl, Bl.alloc _ _⟩
      · have hE : s.toList.isEmpty = false := not_empty_of h0
        have hx : ¬ lst s = [] := fun h => h0 (lst_nil.1 h)
        have e : decide (canZ k (lst s) 0) = false := decide_eq_false (fun h => by unfold canZ at h; first | omega | (simp [hx] at h; omega) | (simp [hx] at h))
        rw [e]
        clear e
        go_enter Tryd.func34, Tryd.ntmps34
        go_wp2
        go_ret
        exact ⟨rfl, Bl.alloc _ _⟩
    · have n4 : (k != 4) = true := by simpa using h4
      have nm : (m != 0) = true := by simpa using hm
      have e : decide (canZ k (lst s) m) = false := decide_eq_false (fun h => hm (h.1 h4))
      rw [e]
      clear e
      go_enter Tryd.func34, Tryd.ntmps34
      go_wp2
      go_ret
      exact ⟨rfl, Bl.alloc _ _⟩
end Go.Proofs.YtjbacibicnfaeaaDoor
