import Derived.Test.YtimlomobbnnehaaDoorLRefC
import Derived.Test.YtimlomobbnnehaaDoorLSym
import Derived.Test.YtimlomobbnnehaaDoorLText
namespace Go.Proofs.YtimlomobbnnehaaDoor
open Go.RowKit Go.Maps
set_option linter.unusedVariables false
set_option linter.unusedSimpArgs false
theorem rBlank_ok (n : Nat) (w : World) : Calls Tryd.prog 37 #[.int .u8 n] w fun e w' => e = .returned (.bool (isB n)) ∧ w' = w := by
  go_enter Tryd.func37, Tryd.ntmps37
  go_wp2
  all_goals (go_ret; exact ⟨congrArg (fun b => Ending.returned (Value.bool b)) (by rw [Bool.eq_iff_iff, isB_iff]; simp <;> omega), rfl⟩)
set_option maxHeartbeats 4000000 in
theorem rColon_ok (s : ByteArray) (a : Nat) (w : World) (ha : a ≤ s.size) (hs : s.size ≤ 140737488355328) : Calls Tryd.prog 40 #[.string s, .int .i64 a] w fun e w' => e = .returned (.bool (colonAt ((lst s).drop a))) ∧ w' = w := by
  have h1 := fun w => rIs_ok s a 58 w hs (by omega)
  have h2 := fun w => rIs_ok s (a + 1) 61 w hs (by omega)
  have key : colonAt ((lst s).drop a) = (decide (hd ((lst s).drop a) = 58) && !decide (hd ((lst s).drop (a + 1)) = 61)) := by
    unfold colonAt
    rw [List.drop_drop, Bool.eq_iff_iff]
    simp
  rw [key]
  generalize decide (hd ((lst s).drop a) = 58) = p at *
  generalize decide (hd ((lst s).drop (a + 1)) = 61) = q at *
  have h1 : ∀ w, Calls Tryd.prog 43 #[.string s, .int .i64 a, .int .u8 58] w fun e w' => e = .returned (.bool p) ∧ w' = w := h1
  have h2 : ∀ w, Calls Tryd.prog 43 #[.string s, .int .i64 ((a : Int) + 1), .int .u8 61] w fun e w' => e = .returned (.bool q) ∧ w' = w := h2
  cases p with
  | false =>
    go_enter Tryd.func40, Tryd.ntmps40
    go_wp2_with (go_at_call 43; refine (h1 _).mono ?_; rintro e w1 ⟨rfl, rfl⟩)
    go_ret
    exact ⟨rfl, rfl⟩
  | true =>
    go_enter Tryd.func40, Tryd.ntmps40
    go_wp2_with (first | (go_at_call 43; with_reducible refine (h1 _).mono ?_; rintro e w1 ⟨rfl, rfl⟩) | (go_at_call 43; with_reducible refine (h2 _).mono ?_; rintro e w2 ⟨rfl, rfl⟩))
    all_goals (go_ret; exact ⟨by cases q <;> rfl, rfl⟩)
theorem nameLen_zero {l : Bs} (h : isL (hd l) ≠ true) : nameLen l = 0 := by unfold nameLen; rw [if_neg h]
theorem opLen_zero {l : Bs} (h : isL (hd l) = true) : opLen l = 0 := by
  unfold opLen
  rw [if_neg]
  intro ho
  rw [isL_iff] at h
  rw [isO_iff] at ho
  omega
theorem kwLen_zero {l : Bs} (h : nameLen l = 0 ∨ colonAt (l.drop (nameLen l)) = false) : kwLen l = 0 := by
  unfold kwLen
  rw [if_neg]
  rintro ⟨h1, h2⟩
  rcases h with h | h
  · exact h1 h
  · rw [h2] at h; cases h
theorem kwsLen_zero {l : Bs} (h : kwLen l = 0) : kwsLen l = 0 := by rw [kwsLen_step, if_pos h]
theorem kwLen_yes {l : Bs} (h : nameLen l ≠ 0) (h2 : colonAt (l.drop (nameLen l)) = true) : kwLen l = nameLen l + 1 := by unfold kwLen; rw [if_pos ⟨h, h2⟩]
end Go.Proofs.YtimlomobbnnehaaDoor
namespace Go.Proofs.YtimlomobbnnehaaDoor
open Go.RowKit Go.Maps
set_option linter.unusedVariables false
set_option linter.unusedSimpArgs false
set_option maxHeartbeats 8000000 in
set_option maxRecDepth 1000000 in
theorem rSymbol_ok (s : ByteArray) (a : Nat) (w : World) (ha : a ≤ s.size) (hs : s.size ≤ 140737488355328) : Calls Tryd.prog 44 #[.string s, .int .i64 a] w fun e w' => e = .returned (.int .i64 ((a + symLen ((lst s).drop a) : Nat))) ∧ w' = w := by
  have hn := fun w => rName_ok s a w ha hs
  have hle := nameLen_le ((lst s).drop a)
  rw [List.length_drop, lst_len] at hle
  by_cases h0 : nameLen ((lst s).drop a) = 0
  · have hF : Hid (symLen ((lst s).drop a) = opLen ((lst s).drop a)) := by
      unfold Hid symLen
      rw [if_pos (kwsLen_zero (kwLen_zero (Or.inl h0))), h0]
      omega
    have hg := fun w => rSigns_ok s a w ha hs
    rw [h0] at hn
    have hn : ∀ w, Calls Tryd.prog 39 #[.string s, .int .i64 a] w fun e w' => e = .returned (.int .i64 a) ∧ w' = w := hn
    clear h0
    go_enter Tryd.func44, Tryd.ntmps44
    go_wp2_with (first | (go_at_call 39; refine (hn _).mono ?_; rintro e w1 ⟨rfl, h2⟩; have h3 := h2.symm; subst h3) | (go_at_call 46; refine (hg _).mono ?_; rintro e w1 ⟨rfl, h2⟩; have h3 := h2.symm; subst h3))
    go_ret
    exact ⟨by rw [hF.out]; rfl, rfl⟩
  · have hm : a + nameLen ((lst s).drop a) ≤ s.size := by omega
    have hc := fun w => rColon_ok s (a + nameLen ((lst s).drop a)) w hm hs
    rw [← List.drop_drop] at hc
    by_cases hC : colonAt (((lst s).drop a).drop (nameLen ((lst s).drop a))) = true
    · rw [hC] at hc
      have hk := kwLen_yes h0 hC
      have hkle := kwLen_le ((lst s).drop a)
      rw [List.length_drop, lst_len] at hkle
      have hst := kwsLen_step ((lst s).drop a)
      rw [if_neg (by omega), hk] at hst
      have HS : Hid (kwsLen ((lst s).drop a) = nameLen ((lst s).drop a) + 1 + kwsLen (((lst s).drop a).drop (nameLen ((lst s).drop a) + 1))) := hst
      have hm1 : a + (nameLen ((lst s).drop a) + 1) ≤ s.size := by omega
      clear hst hkle hk hC
      generalize nameLen ((lst s).drop a) = n0 at *
      have hne : ¬ ((a : Int) + n0 = a) := by omega
      have hn : ∀ w, Calls Tryd.prog 39 #[.string s, .int .i64 a] w fun e w' => e = .returned (.int .i64 ((a : Int) + n0)) ∧ w' = w := hn
      have hc : ∀ w, Calls Tryd.prog 40 #[.string s, .int .i64 ((a : Int) + n0)] w fun e w' => e = .returned (.bool true) ∧ w' = w := hc
      go_enter Tryd.func44, Tryd.ntmps44
      go_wp2_with (first | (go_at_call 39; refine (hn _).mono ?_; rintro e w1 ⟨rfl, h2⟩; have h3 := h2.symm; subst h3) | (go_at_call 40; refine (hc _).mono ?_; rintro e w1 ⟨rfl, h2⟩; have h3 := h2.symm; subst h3))
      go_loopw [5] (fun q wr => ∃ n m : Nat, 0 < n ∧ Hid (m = a + n) ∧ m ≤ s.size ∧ q = .int .i64 (m : Int) ∧ wr = w ∧ Hid (kwsLen ((lst s).drop a) = n + kwsLen ((lst s).drop m))) (fun q _ => s.size - (intOf q).toNat)
      case atStart => exact ⟨n0 + 1, a + (n0 + 1), by omega, mkHid rfl, hm1, by simp; omega, rfl, by have := HS.out; rw [List.drop_drop] at this; exact this⟩
      case round =>
        obtain ⟨n, m, hn0, hmn, hnm, rfl, rfl, HK⟩ := hrel
        have hn2 := fun w => rName_ok s m w hnm hs
        have hle2 := nameLen_le ((lst s).drop m)
        rw [List.length_drop, lst_len] at hle2
        have hst := kwsLen_step ((lst s).drop m)
        have hend : Hid (kwLen ((lst s).drop m) = 0 → symLen ((lst s).drop a) = n) := mkHid fun hz => by
          rw [if_pos hz] at hst
          have := HK.out
          rw [hst] at this
          unfold symLen
          rw [if_neg (by omega)]
          omega
        by_cases z0 : nameLen ((lst s).drop m) = 0
        · have HE := mkHid (hend.out (kwLen_zero (Or.inl z0)))
          rw [z0] at hn2
          have hn2 : ∀ w, Calls Tryd.prog 39 #[.string s, .int .i64 (m : Int)] w fun e w' => e = .returned (.int .i64 (m : Int)) ∧ w' = w := hn2
          clear z0 hst hend
          go_wp2_with (first | (go_at_call 39; refine (hn2 _).mono ?_; rintro e w1 ⟨rfl, h2⟩; have h3 := h2.symm; subst h3))
          go_ret
          exact ⟨by rw [HE.out, hmn.out]; rfl, rfl⟩
        · have hm2 : m + nameLen ((lst s).drop m) ≤ s.size := by omega
          have hc2 := fun w => rColon_ok s (m + nameLen ((lst s).drop m)) w hm2 hs
          have ed : (lst s).drop (m + nameLen ((lst s).drop m)) = ((lst s).drop m).drop (nameLen ((lst s).drop m)) := by rw [List.drop_drop]
          rw [ed] at hc2
          by_cases hC : colonAt (((lst s).drop m).drop (nameLen ((lst s).drop m))) = true
          · have hk := kwLen_yes z0 hC
            rw [hC] at hc2
            have hkle := kwLen_le ((lst s).drop m)
            rw [List.length_drop, lst_len] at hkle
            rw [if_neg (by omega), hk, List.drop_drop] at hst
            have HN : Hid (kwsLen ((lst s).drop a) = (n + (nameLen ((lst s).drop m) + 1)) + kwsLen ((lst s).drop (m + (nameLen ((lst s).drop m) + 1)))) := by
              have := HK.out
              rw [hst] at this
              unfold Hid
              omega
            have hm3 : m + (nameLen ((lst s).drop m) + 1) ≤ s.size := by omega
            clear hk hkle hst hC hend HK ed
            generalize nameLen ((lst s).drop m) = n1 at *
            have hne : ¬ ((m : Int) + n1 = (m : Int)) := by omega
            have hn2 : ∀ w, Calls Tryd.prog 39 #[.string s, .int .i64 (m : Int)] w fun e w' => e = .returned (.int .i64 ((m : Int) + n1)) ∧ w' = w := hn2
            have hc2 : ∀ w, Calls Tryd.prog 40 #[.string s, .int .i64 ((m : Int) + n1)] w fun e w' => e = .returned (.bool true) ∧ w' = w := hc2
            go_wp2_with (first | (go_at_call 39; refine (hn2 _).mono ?_; rintro e w1 ⟨rfl, h2⟩; have h3 := h2.symm; subst h3) | (go_at_call 40; refine (hc2 _).mono ?_; rintro e w1 ⟨rfl, h2⟩; have h3 := h2.symm; subst h3))
            go_roundw
            case rel => exact ⟨n + (n1 + 1), m + (n1 + 1), by omega, mkHid (by have := hmn.out; omega), hm3, by simp; omega, by simp, HN.out⟩
            case measure => simp [intOf]; omega
          · have hC' : colonAt (((lst s).drop m).drop (nameLen ((lst s).drop m))) = false := by simpa using hC
            have HE := mkHid (hend.out (kwLen_zero (Or.inr hC')))
            rw [hC'] at hc2
            clear hC hC' hst hend ed
            generalize nameLen ((lst s).drop m) = n1 at *
            have hne : ¬ ((m : Int) + n1 = (m : Int)) := by omega
            have hn2 : ∀ w, Calls Tryd.prog 39 #[.string s, .int .i64 (m : Int)] w fun e w' => e = .returned (.int .i64 ((m : Int) + n1)) ∧ w' = w := hn2
            have hc2 : ∀ w, Calls Tryd.prog 40 #[.string s, .int .i64 ((m : Int) + n1)] w fun e w' => e = .returned (.bool false) ∧ w' = w := hc2
            go_wp2_with (first | (go_at_call 39; refine (hn2 _).mono ?_; rintro e w1 ⟨rfl, h2⟩; have h3 := h2.symm; subst h3) | (go_at_call 40; refine (hc2 _).mono ?_; rintro e w1 ⟨rfl, h2⟩; have h3 := h2.symm; subst h3))
            go_ret
            exact ⟨by rw [HE.out, hmn.out]; rfl, rfl⟩
    · have hC' : colonAt (((lst s).drop a).drop (nameLen ((lst s).drop a))) = false := by simpa using hC
      have hL : isL (hd ((lst s).drop a)) = true := by
        by_cases hL : isL (hd ((lst s).drop a)) = true
        · exact hL
        · exact absurd (nameLen_zero hL) h0
      have hF : Hid (symLen ((lst s).drop a) = nameLen ((lst s).drop a)) := by
        unfold Hid symLen
        rw [if_pos (kwsLen_zero (kwLen_zero (Or.inr hC'))), opLen_zero hL]
        omega
      rw [hC'] at hc
      clear hC hC' hL
      generalize nameLen ((lst s).drop a) = n0 at *
      have hne : ¬ ((a : Int) + n0 = a) := by omega
      have hn : ∀ w, Calls Tryd.prog 39 #[.string s, .int .i64 a] w fun e w' => e = .returned (.int .i64 ((a : Int) + n0)) ∧ w' = w := hn
      have hc : ∀ w, Calls Tryd.prog 40 #[.string s, .int .i64 ((a : Int) + n0)] w fun e w' => e = .returned (.bool false) ∧ w' = w := hc
      go_enter Tryd.func44, Tryd.ntmps44
      go_wp2_with (first | (go_at_call 39; refine (hn _).mono ?_; rintro e w1 ⟨rfl, h2⟩; have h3 := h2.symm; subst h3) | (go_at_call 40; refine (hc _).mono ?_; rintro e w1 ⟨rfl, h2⟩; have h3 := h2.symm; subst h3))
      go_ret
      exact ⟨by rw [hF.out]; rfl, rfl⟩
end Go.Proofs.YtimlomobbnnehaaDoor
