import Derived.Test.YtimlomobbnnehaaDoorLRefA
namespace Go.Proofs.YtimlomobbnnehaaDoor
open Go.RowKit Go.Maps
set_option linter.unusedVariables false
set_option linter.unusedSimpArgs false
theorem toNat_lt8 (c : UInt8) : c.toNat < 256 := c.toNat_lt
set_option maxHeartbeats 4000000 in
set_option maxRecDepth 1000000 in
theorem rName_ok (s : ByteArray) (a : Nat) (w : World) (ha : a ≤ s.size) (hs : s.size ≤ 140737488355328) : Calls Tryd.prog 39 #[.string s, .int .i64 a] w fun e w' => e = .returned (.int .i64 ((a + nameLen ((lst s).drop a) : Nat))) ∧ w' = w := by
  by_cases h0 : a < s.size
  · have h0i : (a : Int) < s.size := by omega
    have hb := get_lst s a h0
    have hl := rLetter_ok (s[a]'h0).toNat
    by_cases cL : isL (hd ((lst s).drop a)) = true
    · have cL' : isL (s[a]'h0).toNat = true := by rw [← hb]; exact cL
      rw [cL'] at hl
      clear cL'
      have hdn : decide (s.size ≤ a) = false := decide_eq_false (by omega)
      have hdi : decide ((s.size : Int) ≤ (a : Int)) = false := decide_eq_false (by omega)
      go_enter Tryd.func39, Tryd.ntmps39
      go_wp2_with (go_at_call 38; refine (hl _).mono ?_; rintro e w1 ⟨rfl, rfl⟩)
      go_loopw [1] (fun q wr => ∃ m : Nat, a ≤ m ∧ m ≤ s.size ∧ q = .int .i64 m ∧ wr = w1 ∧ Hid (∀ j, j < m - a → isW (hd (((lst s).drop a).drop j)) = true)) (fun q _ => s.size - (intOf q).toNat)
      case atStart => exact ⟨a, Nat.le_refl _, ha, rfl, rfl, fun j h => by omega⟩
      case round =>
        obtain ⟨m, hm1, hm2, rfl, rfl, hj⟩ := hrel
        have hfin : (m < s.size → isL (hd ((lst s).drop m)) = false ∧ isD (hd ((lst s).drop m)) = false) → nameLen ((lst s).drop a) = m - a := fun h => by
          refine nameLen_at (by rw [List.length_drop, lst_len]; omega) (fun _ => cL) hj.out (fun h2 => ?_)
          rw [List.length_drop, lst_len] at h2
          rw [List.drop_drop, show a + (m - a) = m by omega]
          have := h (by omega)
          exact ⟨this.1, fun _ => this.2⟩
        by_cases hms : m < s.size
        · have hmi : (m : Int) < s.size := by omega
          have hbm := get_lst s m hms
          have hlm := rLetter_ok (s[m]'hms).toNat
          have hdm := rDigit_ok (s[m]'hms).toNat
          rw [← hbm] at hlm hdm
          have hnew : (isL (hd ((lst s).drop m)) = true ∨ isD (hd ((lst s).drop m)) = true) → ∀ j, j < m + 1 - a → isW (hd (((lst s).drop a).drop j)) = true := fun h j hj2 => by
            by_cases hjm : j < m - a
            · exact hj.out j hjm
            · have : j = m - a := by omega
              subst this
              rw [List.drop_drop, show a + (m - a) = m by omega]
              unfold isW
              rcases h with h | h <;> simp [h]
          by_cases dL : isL (hd ((lst s).drop m)) = true
          · have hN := mkHid (hnew (Or.inl dL))
            rw [dL, hbm] at hlm
            rw [hbm] at hdm
            clear hnew hfin dL hbm
            go_wp2_with (first | (go_at_call 38; refine (hlm _).mono ?_; rintro e w2 ⟨rfl, h2⟩; have h3 := h2.symm; subst h3) | (go_at_call 41; refine (hdm _).mono ?_; rintro e w2 ⟨rfl, h2⟩; have h3 := h2.symm; subst h3))
            go_roundw
            case rel => exact ⟨m + 1, by omega, by omega, by simp, by simp, hN.out⟩
            case measure => simp [intOf]; omega
          · have dL' : isL (hd ((lst s).drop m)) = false := by simpa using dL
            by_cases dD : isD (hd ((lst s).drop m)) = true
            · have hN := mkHid (hnew (Or.inr dD))
              rw [dL', hbm] at hlm
              rw [dD, hbm] at hdm
              clear hnew hfin dL dL' dD hbm
              go_wp2_with (first | (go_at_call 38; refine (hlm _).mono ?_; rintro e w2 ⟨rfl, h2⟩; have h3 := h2.symm; subst h3) | (go_at_call 41; refine (hdm _).mono ?_; rintro e w2 ⟨rfl, h2⟩; have h3 := h2.symm; subst h3))
              go_roundw
              case rel => exact ⟨m + 1, by omega, by omega, by simp, by simp, hN.out⟩
              case measure => simp [intOf]; omega
            · have dD' : isD (hd ((lst s).drop m)) = false := by simpa using dD
              have hF := mkHid (hfin (fun _ => ⟨dL', dD'⟩))
              rw [dL', hbm] at hlm
              rw [dD', hbm] at hdm
              clear hnew hfin dL dL' dD dD' hbm
              go_wp2_with (first | (go_at_call 38; refine (hlm _).mono ?_; rintro e w2 ⟨rfl, h2⟩; have h3 := h2.symm; subst h3) | (go_at_call 41; refine (hdm _).mono ?_; rintro e w2 ⟨rfl, h2⟩; have h3 := h2.symm; subst h3))
              go_ret
              exact ⟨by rw [hF.out, show a + (m - a) = m by omega]; rfl, rfl⟩
        · have hF := mkHid (hfin (fun h => absurd h hms))
          have hme : m = s.size := by omega
          subst hme
          go_wp2_with fail
          go_wp2_with fail
          go_ret
          exact ⟨by rw [hF.out, show a + (s.size - a) = s.size by omega]; rfl, rfl⟩
    · have cL' : isL (s[a]'h0).toNat = false := by rw [← hb]; simpa using cL
      have hF : Hid (nameLen ((lst s).drop a) = 0) := by unfold Hid nameLen; rw [if_neg cL]
      rw [cL'] at hl
      clear cL cL' hb
      go_enter Tryd.func39, Tryd.ntmps39
      go_wp2_with (go_at_call 38; refine (hl _).mono ?_; rintro e w1 ⟨rfl, rfl⟩)
      go_ret
      exact ⟨by rw [hF.out]; rfl, rfl⟩
  · have hae : a = s.size := by omega
    subst hae
    have hF : Hid (nameLen ((lst s).drop s.size) = 0) := by rw [List.drop_eq_nil_of_le (by rw [lst_len]; exact Nat.le_refl _)]; rfl
    go_enter Tryd.func39, Tryd.ntmps39
    go_wp2_with fail
    go_ret
    exact ⟨by rw [hF.out]; rfl, rfl⟩
set_option maxHeartbeats 4000000 in
theorem rIs_ok (s : ByteArray) (a c : Nat) (w : World) (hs : s.size ≤ 140737488355328) (hc : c < 256) : Calls Tryd.prog 43 #[.string s, .int .i64 a, .int .u8 c] w fun e w' => e = .returned (.bool (decide (hd ((lst s).drop a) = c))) ∧ w' = w := by
  by_cases h0 : a < s.size
  · have h0i : (a : Int) < s.size := by omega
    have hb := mkHid (get_lst s a h0)
    go_enter Tryd.func43, Tryd.ntmps43
    go_wp2_with fail
    all_goals (go_ret; exact ⟨congrArg (fun b => Ending.returned (Value.bool b)) (by rw [hb.out, Bool.eq_iff_iff]; simp <;> omega), rfl⟩)
  · have h0i : ¬ (a : Int) < s.size := by omega
    have hF : Hid (decide (hd ((lst s).drop a) = c) = false) := by unfold Hid; rw [hd_drop_end (by rw [lst_len]; omega)]; exact decide_eq_false (by omega)
    go_enter Tryd.func43, Tryd.ntmps43
    go_wp2_with fail
    go_ret
    exact ⟨by rw [hF.out]; rfl, rfl⟩
end Go.Proofs.YtimlomobbnnehaaDoor

