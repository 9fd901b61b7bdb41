import Derived.Test.YtjbacibicnfaeaaDoorLRefC
import Derived.Test.YtjbacibicnfaeaaDoorLRefD
import Derived.Test.YtjbacibicnfaeaaDoorLSelect
namespace Go.Proofs.YtjbacibicnfaeaaDoor
open Go.RowKit Go.Maps
set_option linter.unusedVariables false
set_option linter.unusedSimpArgs false
theorem kwsN_none {l : Bs} (hl : l ≠ []) (h : nameLen l = 0 ∨ isS (hd l) = false ∨ hd (l.drop (nameLen l)) ≠ 58) : kwsN l = none := by
  rw [kwsN_step, if_neg hl, if_pos]
  rcases h with h | h | h
  · left; unfold kwLen; rw [if_neg]; rintro ⟨h1, _⟩; exact h1 h
  · right; exact h
  · left; unfold kwLen; rw [if_neg]; rintro ⟨_, h2⟩; unfold colonAt at h2; exact h (of_decide_eq_true h2).1
theorem kwsN_next {l : Bs} (hl : l ≠ []) (h1 : nameLen l ≠ 0) (h2 : isS (hd l) = true) (h3 : hd (l.drop (nameLen l)) = 58) : kwsN l = (kwsN (l.drop (nameLen l + 1))).map (· + 1) := by
  by_cases h4 : hd (l.drop (nameLen l + 1)) = 61
  · have hk : kwLen l = 0 := by
      unfold kwLen; rw [if_neg]; rintro ⟨_, h5⟩; unfold colonAt at h5
      have := (of_decide_eq_true h5).2
      rw [List.drop_drop] at this
      exact this h4
    have e1 : kwsN l = none := by rw [kwsN_step, if_neg hl, if_pos (Or.inl hk)]
    have hne : l.drop (nameLen l + 1) ≠ [] := by intro e; rw [e] at h4; simp [hd] at h4
    have e2 : kwsN (l.drop (nameLen l + 1)) = none := kwsN_none hne (Or.inr (Or.inl (by rw [h4]; rfl)))
    rw [e1, e2]; rfl
  · have hk : kwLen l = nameLen l + 1 := by
      unfold kwLen
      rw [if_pos ⟨h1, by unfold colonAt; exact decide_eq_true ⟨h3, by rw [List.drop_drop]; exact h4⟩⟩]
    conv => lhs; rw [kwsN_step, if_neg hl, if_neg (by rintro (h | h); omega; rw [h2] at h; cases h), hk]
theorem sel_op_no {l : Bs} (hO : isO (hd l) = true) (h : opLen l ≠ l.length) : sel l = (0, 1) := by
  have hl : l ≠ [] := by rintro rfl; simp [hd, isO] at hO
  have hN : nameLen l = 0 := by unfold nameLen; rw [if_neg]; intro h2; rw [isL_iff] at h2; rw [isO_iff] at hO; omega
  unfold sel
  rw [if_neg (by rintro ⟨h1, _⟩; have := (of_decide_eq_true h1).2; have h0 := List.length_pos_iff.2 hl; omega), if_neg (by intro h1; exact h (of_decide_eq_true h1).2), kwsN_none hl (Or.inl hN)]
  rfl
theorem sel_op_yes {l : Bs} (hO : isO (hd l) = true) (h : opLen l = l.length) : sel l = (1, 0) := by
  have hl : l ≠ [] := by rintro rfl; simp [hd, isO] at hO
  have hN : nameLen l = 0 := by unfold nameLen; rw [if_neg]; intro h2; rw [isL_iff] at h2; rw [isO_iff] at hO; omega
  unfold sel
  rw [if_neg (by rintro ⟨h1, _⟩; have := (of_decide_eq_true h1).2; have h0 := List.length_pos_iff.2 hl; omega), if_pos (show opB l = true from decide_eq_true ⟨hl, h⟩)]
theorem sel_rest {l : Bs} (hl : l ≠ []) (hO : isO (hd l) = false) : sel l = if vari l = 0 ∧ isS (hd l) = true then (0, 0) else kwAns (kwsN l) := by
  have ho : opB l = false := by
    refine decide_eq_false (fun h => ?_)
    have : opLen l = 0 := by unfold opLen; rw [if_neg (by rw [hO]; decide)]
    have h0 := List.length_pos_iff.2 hl
    omega
  unfold sel vari smallB
  rw [ho]
  cases hr : resB l <;> cases hn : nameB l <;> simp
set_option maxHeartbeats 8000000 in
set_option maxRecDepth 1000000 in
theorem rSel_ok (s : ByteArray) (w : World) (hs : s.size ≤ 140737488355328) : Calls Tryd.prog 16 #[.string s] w fun e w' => e = .returned (.tuple #[.int .i64 (sel (lst s)).1, .int .i64 (sel (lst s)).2]) ∧ Bl w w' := by
  by_cases h0 : s.size = 0
  · have hE : s.toList.isEmpty = true := isEmpty_of h0
    have HS : Hid (sel (lst s) = (0, 1)) := by unfold Hid; rw [lst_nil.2 h0]; decide
    go_enter Tryd.func16, Tryd.ntmps16
    go_wp2_with fail
    go_ret2
    exact ⟨by rw [HS.out]; rfl, Bl.refl _⟩
  · have hE : s.toList.isEmpty = false := not_empty_of h0
    have hp : 0 < s.size := by omega
    have hl : lst s ≠ [] := fun h => h0 (lst_nil.1 h)
    have hb := get_lst s 0 hp
    rw [List.drop_zero] at hb
    have hsg := fun w => rSigns_ok s 0 w (Nat.zero_le _) hs
    rw [List.drop_zero, Nat.zero_add] at hsg
    have hsg : ∀ w, Calls Tryd.prog 30 #[.string s, .int .i64 0] w fun e w' => e = .returned (.int .i64 (opLen (lst s))) ∧ w' = w := hsg
    by_cases cO : isO (s[0]'hp).toNat = true
    · by_cases ho : opLen (lst s) = s.size
      · have HS := mkHid (sel_op_yes (by rw [hb]; exact cO) (by rw [lst_len]; exact ho))
        rw [ho] at hsg
        clear ho hb
        go_enter Tryd.func16, Tryd.ntmps16
        go_wp2_with (first | (go_at_call 29; refine (rOp_ok _ (toNat_lt8 _) _).mono ?_; rintro e w1 ⟨rfl, rfl⟩) | (go_at_call 30; refine (hsg _).mono ?_; rintro e w1 ⟨rfl, rfl⟩))
        go_ret2
        exact ⟨by rw [HS.out]; rfl, Bl.refl _⟩
      · have HS := mkHid (sel_op_no (by rw [hb]; exact cO) (by rw [lst_len]; exact ho))
        have hoi : (((opLen (lst s) : Nat) : Int) != (s.size : Int)) = true := by rw [bne_iff_ne]; omega
        clear hb
        generalize opLen (lst s) = ol at *
        go_enter Tryd.func16, Tryd.ntmps16
        go_wp2_with (first | (go_at_call 29; refine (rOp_ok _ (toNat_lt8 _) _).mono ?_; rintro e w1 ⟨rfl, rfl⟩) | (go_at_call 30; refine (hsg _).mono ?_; rintro e w1 ⟨rfl, rfl⟩))
        go_ret2
        exact ⟨by rw [HS.out]; rfl, Bl.refl _⟩
    · have cO' : isO (s[0]'hp).toNat = false := by simpa using cO
      have hsr := sel_rest hl (by rw [hb]; exact cO')
      have hv := fun w => rVari_ok s w hs
      by_cases cV : vari (lst s) = 0 ∧ isS (s[0]'hp).toNat = true
      · have HS : Hid (sel (lst s) = (0, 0)) := by unfold Hid; rw [hsr, if_pos ⟨cV.1, by rw [hb]; exact cV.2⟩]
        rw [cV.1] at hv
        have cS := cV.2
        clear cV hsr hb cO
        go_enter Tryd.func16, Tryd.ntmps16
        go_wp2_with (first | (go_at_call 29; refine (rOp_ok _ (toNat_lt8 _) _).mono ?_; rintro e w1 ⟨rfl, rfl⟩) | (go_at_call 17; refine (hv _).mono ?_; rintro e w2 ⟨rfl, b2⟩) | (go_at_call 31; refine (rSmall_ok _ _).mono ?_; rintro e w1 ⟨rfl, rfl⟩))
        go_ret2
        exact ⟨by rw [HS.out]; rfl, b2⟩
      · have HS : Hid (sel (lst s) = kwAns (kwsN (lst s))) := by unfold Hid; rw [hsr, if_neg (fun h => cV ⟨h.1, by rw [← hb]; exact h.2⟩)]
        have HL : Hid (∀ V, Calls Tryd.prog 17 #[.string s] V fun e w' => ∃ v : Nat, e = .returned (.int .i64 v) ∧ (v = 0 → isS (s[0]'hp).toNat = false) ∧ Bl V w') := mkHid fun V => by
          refine (hv V).mono ?_
          rintro e w' ⟨rfl, b⟩
          exact ⟨_, rfl, fun h => by by_cases h2 : isS (s[0]'hp).toNat = true; exact absurd ⟨h, h2⟩ cV; simpa using h2, b⟩
        clear cV hsr hb cO hv hsg
        go_enter Tryd.func16, Tryd.ntmps16
        go_wp2_with (first | (go_at_call 29; refine (rOp_ok _ (toNat_lt8 _) _).mono ?_; rintro e w1 ⟨rfl, rfl⟩) | (go_at_call 17; fail))
        refine (HL.out _).mono ?_
        rintro e w2 ⟨v, rfl, hvS, b2⟩
        by_cases v0 : v = 0
        · have hvs := hvS v0
          subst v0
          clear hvS HL
          go_wp2_with (first | (go_at_call 31; refine (rSmall_ok _ _).mono ?_; rintro e w4 ⟨rfl, h2⟩; have h3 := h2.symm; subst h3))
          go_loopw [4, 5] (fun c q wr => ∃ n at' : Nat, c = .int .i64 n ∧ q = .int .i64 at' ∧ at' ≤ s.size ∧ n ≤ at' ∧ (at' = 0 ∨ 1 ≤ n) ∧ wr = w2 ∧ Hid (kwsN (lst s) = (kwsN ((lst s).drop at')).map (· + n))) (fun _ q _ => s.size - (intOf q).toNat)
          case atStart => exact ⟨0, 0, rfl, rfl, Nat.zero_le _, Nat.le_refl _, Or.inl rfl, rfl, by unfold Hid; simp⟩
          case round =>
            obtain ⟨n, at', rfl, rfl, hat, hna, hor, rfl, hK⟩ := hrel
            by_cases hlt : at' < s.size
            · have hli : (at' : Int) < s.size := by omega
              have hne : (lst s).drop at' ≠ [] := by intro e; have := congrArg List.length e; simp [lst_len] at this; omega
              have hba := get_lst s at' hlt
              have hnl := nameLen_le ((lst s).drop at')
              rw [List.length_drop, lst_len] at hnl
              have hnm : ∀ w, Calls Tryd.prog 32 #[.string s, .int .i64 at'] w fun e w' => e = .returned (.int .i64 ((at' : Int) + (nameLen ((lst s).drop at') : Int))) ∧ w' = w := fun w => by
                have := rName_ok s at' w hat hs
                rw [show ((at' + nameLen ((lst s).drop at') : Nat) : Int) = (at' : Int) + (nameLen ((lst s).drop at') : Int) from Int.natCast_add _ _] at this
                exact this
              have hisB : ∀ b : Bool, decide (hd ((lst s).drop (at' + nameLen ((lst s).drop at'))) = 58) = b → ∀ w, Calls Tryd.prog 33 #[.string s, .int .i64 ((at' : Int) + (nameLen ((lst s).drop at') : Int)), .int .u8 58] w fun e w' => e = .returned (.bool b) ∧ w' = w := fun b hbb w => by
                have := rIs_ok s (at' + nameLen ((lst s).drop at')) 58 w hs (by omega)
                rw [show ((at' + nameLen ((lst s).drop at') : Nat) : Int) = (at' : Int) + (nameLen ((lst s).drop at') : Int) from Int.natCast_add _ _, hbb] at this
                exact this
              by_cases c1 : nameLen ((lst s).drop at') = 0
              · have HN : Hid (kwAns (kwsN (lst s)) = (0, 1)) := by unfold Hid; rw [hK.out, kwsN_none hne (Or.inl c1)]; rfl
                have his := hisB _ rfl
                rw [c1] at hnm his
                simp only [Int.natCast_zero, Int.add_zero] at hnm his
                clear c1 hisB
                generalize decide (hd ((lst s).drop (at' + 0)) = 58) = bb at *
                go_wp2_with (first | (go_at_call 32; refine (hnm _).mono ?_; rintro e w4 ⟨rfl, h2⟩; have h3 := h2.symm; subst h3) | (go_at_call 31; refine (rSmall_ok _ _).mono ?_; rintro e w4 ⟨rfl, h2⟩; have h3 := h2.symm; subst h3) | (go_at_call 33; refine (his _).mono ?_; rintro e w4 ⟨rfl, h2⟩; have h3 := h2.symm; subst h3))
                go_ret2
                exact ⟨by rw [HS.out, HN.out]; rfl, b2⟩
              · have hnz : ¬ (nameLen ((lst s).drop at') : Int) = 0 := by omega
                by_cases c2 : isS (s[at']'hlt).toNat = true
                · by_cases c3 : hd ((lst s).drop (at' + nameLen ((lst s).drop at'))) = 58
                  · have hX := kwsN_next hne c1 (by rw [hba]; exact c2) (by rw [List.drop_drop]; exact c3)
                    rw [List.drop_drop] at hX
                    have hle3 : at' + (nameLen ((lst s).drop at') + 1) ≤ s.size := by
                      have := hd_lt c3 (by omega)
                      rw [List.length_drop, lst_len] at this
                      omega
                    have HX : Hid (kwsN (lst s) = (kwsN ((lst s).drop (at' + (nameLen ((lst s).drop at') + 1)))).map (· + (n + 1))) := by
                      unfold Hid
                      rw [hK.out, hX, Option.map_map]
                      congr 1
                      funext x
                      simp
                      omega
                    have his := hisB true (decide_eq_true c3)
                    clear hX c3 hisB hba hne
                    generalize nameLen ((lst s).drop at') = nl at *
                    go_wp2_with (first | (go_at_call 32; refine (hnm _).mono ?_; rintro e w4 ⟨rfl, h2⟩; have h3 := h2.symm; subst h3) | (go_at_call 31; refine (rSmall_ok _ _).mono ?_; rintro e w4 ⟨rfl, h2⟩; have h3 := h2.symm; subst h3) | (go_at_call 33; refine (his _).mono ?_; rintro e w4 ⟨rfl, h2⟩; have h3 := h2.symm; subst h3))
                    go_roundw
                    case rel => exact ⟨n + 1, at' + (nl + 1), by simp, by simp; omega, hle3, by omega, Or.inr (by omega), by simp, HX.out⟩
                    case measure => simp [intOf]; omega
                  · have HN : Hid (kwAns (kwsN (lst s)) = (0, 1)) := by unfold Hid; rw [hK.out, kwsN_none hne (Or.inr (Or.inr (by rw [List.drop_drop]; exact c3)))]; rfl
                    have his := hisB false (decide_eq_false c3)
                    clear c3 hisB hba hne
                    generalize nameLen ((lst s).drop at') = nl at *
                    go_wp2_with (first | (go_at_call 32; refine (hnm _).mono ?_; rintro e w4 ⟨rfl, h2⟩; have h3 := h2.symm; subst h3) | (go_at_call 31; refine (rSmall_ok _ _).mono ?_; rintro e w4 ⟨rfl, h2⟩; have h3 := h2.symm; subst h3) | (go_at_call 33; refine (his _).mono ?_; rintro e w4 ⟨rfl, h2⟩; have h3 := h2.symm; subst h3))
                    go_ret2
                    exact ⟨by rw [HS.out, HN.out]; rfl, b2⟩
                · have c2' : isS (s[at']'hlt).toNat = false := by simpa using c2
                  have HN : Hid (kwAns (kwsN (lst s)) = (0, 1)) := by unfold Hid; rw [hK.out, kwsN_none hne (Or.inr (Or.inl (by rw [hba]; exact c2')))]; rfl
                  have his := hisB _ rfl
                  clear c2 hisB hba hne
                  generalize decide (hd ((lst s).drop (at' + nameLen ((lst s).drop at'))) = 58) = bb at *
                  generalize nameLen ((lst s).drop at') = nl at *
                  go_wp2_with (first | (go_at_call 32; refine (hnm _).mono ?_; rintro e w4 ⟨rfl, h2⟩; have h3 := h2.symm; subst h3) | (go_at_call 31; refine (rSmall_ok _ _).mono ?_; rintro e w4 ⟨rfl, h2⟩; have h3 := h2.symm; subst h3) | (go_at_call 33; refine (his _).mono ?_; rintro e w4 ⟨rfl, h2⟩; have h3 := h2.symm; subst h3))
                  go_ret2
                  exact ⟨by rw [HS.out, HN.out]; rfl, b2⟩
            · have hae : at' = s.size := by omega
              subst hae
              have HN : Hid (kwAns (kwsN (lst s)) = (n, 0)) := by
                unfold Hid
                rw [hK.out, List.drop_eq_nil_of_le (by rw [lst_len]; exact Nat.le_refl _), show kwsN [] = some 0 from rfl, Option.map_some, Nat.zero_add]
                exact kwAns_pos (by omega)
              go_wp2_with fail
              go_wp2_with fail
              go_ret2
              exact ⟨by rw [HS.out, HN.out]; rfl, b2⟩

        · have hvi : ¬ (v : Int) = 0 := by omega
          have hvb : ((v : Int) == 0) = false := by rw [beq_eq_false_iff_ne]; omega
          clear hvS HL
          go_wp2_with (first | (go_at_call 31; refine (rSmall_ok _ _).mono ?_; rintro e w4 ⟨rfl, h2⟩; have h3 := h2.symm; subst h3))
          go_loopw [4, 5] (fun c q wr => ∃ n at' : Nat, c = .int .i64 n ∧ q = .int .i64 at' ∧ at' ≤ s.size ∧ n ≤ at' ∧ (at' = 0 ∨ 1 ≤ n) ∧ wr = w2 ∧ Hid (kwsN (lst s) = (kwsN ((lst s).drop at')).map (· + n))) (fun _ q _ => s.size - (intOf q).toNat)
          case atStart => exact ⟨0, 0, rfl, rfl, Nat.zero_le _, Nat.le_refl _, Or.inl rfl, rfl, by unfold Hid; simp⟩
          case round =>
            obtain ⟨n, at', rfl, rfl, hat, hna, hor, rfl, hK⟩ := hrel
            by_cases hlt : at' < s.size
            · have hli : (at' : Int) < s.size := by omega
              have hne : (lst s).drop at' ≠ [] := by intro e; have := congrArg List.length e; simp [lst_len] at this; omega
              have hba := get_lst s at' hlt
              have hnl := nameLen_le ((lst s).drop at')
              rw [List.length_drop, lst_len] at hnl
              have hnm : ∀ w, Calls Tryd.prog 32 #[.string s, .int .i64 at'] w fun e w' => e = .returned (.int .i64 ((at' : Int) + (nameLen ((lst s).drop at') : Int))) ∧ w' = w := fun w => by
                have := rName_ok s at' w hat hs
                rw [show ((at' + nameLen ((lst s).drop at') : Nat) : Int) = (at' : Int) + (nameLen ((lst s).drop at') : Int) from Int.natCast_add _ _] at this
                exact this
              have hisB : ∀ b : Bool, decide (hd ((lst s).drop (at' + nameLen ((lst s).drop at'))) = 58) = b → ∀ w, Calls Tryd.prog 33 #[.string s, .int .i64 ((at' : Int) + (nameLen ((lst s).drop at') : Int)), .int .u8 58] w fun e w' => e = .returned (.bool b) ∧ w' = w := fun b hbb w => by
                have := rIs_ok s (at' + nameLen ((lst s).drop at')) 58 w hs (by omega)
                rw [show ((at' + nameLen ((lst s).drop at') : Nat) : Int) = (at' : Int) + (nameLen ((lst s).drop at') : Int) from Int.natCast_add _ _, hbb] at this
                exact this
              by_cases c1 : nameLen ((lst s).drop at') = 0
              · have HN : Hid (kwAns (kwsN (lst s)) = (0, 1)) := by unfold Hid; rw [hK.out, kwsN_none hne (Or.inl c1)]; rfl
                have his := hisB _ rfl
                rw [c1] at hnm his
                simp only [Int.natCast_zero, Int.add_zero] at hnm his
                clear c1 hisB
                generalize decide (hd ((lst s).drop (at' + 0)) = 58) = bb at *
                go_wp2_with (first | (go_at_call 32; refine (hnm _).mono ?_; rintro e w4 ⟨rfl, h2⟩; have h3 := h2.symm; subst h3) | (go_at_call 31; refine (rSmall_ok _ _).mono ?_; rintro e w4 ⟨rfl, h2⟩; have h3 := h2.symm; subst h3) | (go_at_call 33; refine (his _).mono ?_; rintro e w4 ⟨rfl, h2⟩; have h3 := h2.symm; subst h3))
                go_ret2
                exact ⟨by rw [HS.out, HN.out]; rfl, b2⟩
              · have hnz : ¬ (nameLen ((lst s).drop at') : Int) = 0 := by omega
                by_cases c2 : isS (s[at']'hlt).toNat = true
                · by_cases c3 : hd ((lst s).drop (at' + nameLen ((lst s).drop at'))) = 58
                  · have hX := kwsN_next hne c1 (by rw [hba]; exact c2) (by rw [List.drop_drop]; exact c3)
                    rw [List.drop_drop] at hX
                    have hle3 : at' + (nameLen ((lst s).drop at') + 1) ≤ s.size := by
                      have := hd_lt c3 (by omega)
                      rw [List.length_drop, lst_len] at this
                      omega
                    have HX : Hid (kwsN (lst s) = (kwsN ((lst s).drop (at' + (nameLen ((lst s).drop at') + 1)))).map (· + (n + 1))) := by
                      unfold Hid
                      rw [hK.out, hX, Option.map_map]
                      congr 1
                      funext x
                      simp
                      omega
                    have his := hisB true (decide_eq_true c3)
                    clear hX c3 hisB hba hne
                    generalize nameLen ((lst s).drop at') = nl at *
                    go_wp2_with (first | (go_at_call 32; refine (hnm _).mono ?_; rintro e w4 ⟨rfl, h2⟩; have h3 := h2.symm; subst h3) | (go_at_call 31; refine (rSmall_ok _ _).mono ?_; rintro e w4 ⟨rfl, h2⟩; have h3 := h2.symm; subst h3) | (go_at_call 33; refine (his _).mono ?_; rintro e w4 ⟨rfl, h2⟩; have h3 := h2.symm; subst h3))
                    go_roundw
                    case rel => exact ⟨n + 1, at' + (nl + 1), by simp, by simp; omega, hle3, by omega, Or.inr (by omega), by simp, HX.out⟩
                    case measure => simp [intOf]; omega
                  · have HN : Hid (kwAns (kwsN (lst s)) = (0, 1)) := by unfold Hid; rw [hK.out, kwsN_none hne (Or.inr (Or.inr (by rw [List.drop_drop]; exact c3)))]; rfl
                    have his := hisB false (decide_eq_false c3)
                    clear c3 hisB hba hne
                    generalize nameLen ((lst s).drop at') = nl at *
                    go_wp2_with (first | (go_at_call 32; refine (hnm _).mono ?_; rintro e w4 ⟨rfl, h2⟩; have h3 := h2.symm; subst h3) | (go_at_call 31; refine (rSmall_ok _ _).mono ?_; rintro e w4 ⟨rfl, h2⟩; have h3 := h2.symm; subst h3) | (go_at_call 33; refine (his _).mono ?_; rintro e w4 ⟨rfl, h2⟩; have h3 := h2.symm; subst h3))
                    go_ret2
                    exact ⟨by rw [HS.out, HN.out]; rfl, b2⟩
                · have c2' : isS (s[at']'hlt).toNat = false := by simpa using c2
                  have HN : Hid (kwAns (kwsN (lst s)) = (0, 1)) := by unfold Hid; rw [hK.out, kwsN_none hne (Or.inr (Or.inl (by rw [hba]; exact c2')))]; rfl
                  have his := hisB _ rfl
                  clear c2 hisB hba hne
                  generalize decide (hd ((lst s).drop (at' + nameLen ((lst s).drop at'))) = 58) = bb at *
                  generalize nameLen ((lst s).drop at') = nl at *
                  go_wp2_with (first | (go_at_call 32; refine (hnm _).mono ?_; rintro e w4 ⟨rfl, h2⟩; have h3 := h2.symm; subst h3) | (go_at_call 31; refine (rSmall_ok _ _).mono ?_; rintro e w4 ⟨rfl, h2⟩; have h3 := h2.symm; subst h3) | (go_at_call 33; refine (his _).mono ?_; rintro e w4 ⟨rfl, h2⟩; have h3 := h2.symm; subst h3))
                  go_ret2
                  exact ⟨by rw [HS.out, HN.out]; rfl, b2⟩
            · have hae : at' = s.size := by omega
              subst hae
              have HN : Hid (kwAns (kwsN (lst s)) = (n, 0)) := by
                unfold Hid
                rw [hK.out, List.drop_eq_nil_of_le (by rw [lst_len]; exact Nat.le_refl _), show kwsN [] = some 0 from rfl, Option.map_some, Nat.zero_add]
                exact kwAns_pos (by omega)
              go_wp2_with fail
              go_wp2_with fail
              go_ret2
              exact ⟨by rw [HS.out, HN.out]; rfl, b2⟩

end Go.Proofs.YtjbacibicnfaeaaDoor
