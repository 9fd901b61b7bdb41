import Derived.Test.YtimlomobbnnehaaGreatDoorG08LRefA
import Derived.Test.YtimlomobbnnehaaGreatDoorG02LCut
import Derived.Test.YtimlomobbnnehaaGreatDoorG04LCutT
namespace Go.Proofs.YtimlomobbnnehaaGreatDoor
open Go.RowKit Go.Maps
set_option linter.unusedVariables false
set_option linter.unusedSimpArgs false
theorem toNat_lt8 (c : UInt8) : c.toNat < 256 := c.toNat_lt
set_option maxHeartbeats 4000000 in
set_option maxRecDepth 1000000 in
theorem rName_ok (s : ByteArray) (a : Nat) (w : World) (ha : a ≤ s.size) (hs : s.size ≤ 140737488355328) : Calls Tryz.prog 69 #[.string s, .int .i64 a] w fun e w' => e = .returned (.int .i64 ((a + nameLen ((lst s).drop a) : Nat))) ∧ w' = w := by
  by_cases h0 : a < s.size
  · have h0i : (a : Int) < s.size := by omega
    have hb := get_lst s a h0
    have hl := rLetter_ok (s[a]'h0).toNat
    by_cases cL : isL (hd ((lst s).drop a)) = true
    · have cL' : isL (s[a]'h0).toNat = true := by rw [← hb]; exact cL
      rw [cL'] at hl
      clear cL'
      have hdn : decide (s.size ≤ a) = false := decide_eq_false (by omega)
      have hdi : decide ((s.size : Int) ≤ (a : Int)) = false := decide_eq_false (by omega)
      go_enter Tryz.func69, Tryz.ntmps69
      go_wp2_with (go_at_call 68; refine (hl _).mono ?_; rintro e w1 ⟨rfl, rfl⟩)
      go_loopw [1] (fun q wr => ∃ m : Nat, a ≤ m ∧ m ≤ s.size ∧ q = .int .i64 m ∧ wr = w1 ∧ Hid (∀ j, j < m - a → isW (hd (((lst s).drop a).drop j)) = true)) (fun q _ => s.size - (intOf q).toNat)
      case atStart => exact ⟨a, Nat.le_refl _, ha, rfl, rfl, fun j h => by omega⟩
      case round =>
        obtain ⟨m, hm1, hm2, rfl, rfl, hj⟩ := hrel
        have hfin : (m < s.size → isL (hd ((lst s).drop m)) = false ∧ isD (hd ((lst s).drop m)) = false) → nameLen ((lst s).drop a) = m - a := fun h => by
          refine nameLen_at (by rw [List.length_drop, lst_len]; omega) (fun _ => cL) hj.out (fun h2 => ?_)
          rw [List.length_drop, lst_len] at h2
          rw [List.drop_drop, show a + (m - a) = m by omega]
          have := h (by omega)
          exact ⟨this.1, fun _ => this.2⟩
        by_cases hms : m < s.size
        · have hmi : (m : Int) < s.size := by omega
          have hbm := get_lst s m hms
          have hlm := rLetter_ok (s[m]'hms).toNat
          have hdm := rDigit_ok (s[m]'hms).toNat
          rw [← hbm] at hlm hdm
          have hnew : (isL (hd ((lst s).drop m)) = true ∨ isD (hd ((lst s).drop m)) = true) → ∀ j, j < m + 1 - a → isW (hd (((lst s).drop a).drop j)) = true := fun h j hj2 => by
            by_cases hjm : j < m - a
            · exact hj.out j hjm
            · have : j = m - a := by omega
              subst this
              rw [List.drop_drop, show a + (m - a) = m by omega]
              unfold isW
              rcases h with h | h <;> simp [h]
          by_cases dL : isL (hd ((lst s).drop m)) = true
          · have hN := mkHid (hnew (Or.inl dL))
            rw [dL, hbm] at hlm
            rw [hbm] at hdm
            clear hnew hfin dL hbm
            go_wp2_with (first | (go_at_call 68; refine (hlm _).mono ?_; rintro e w2 ⟨rfl, h2⟩; have h3 := h2.symm; subst h3) | (go_at_call 71; refine (hdm _).mono ?_; rintro e w2 ⟨rfl, h2⟩; have h3 := h2.symm; subst h3))
            go_roundw
            case rel => exact ⟨m + 1, by omega, by omega, by simp, by simp, hN.out⟩
            case measure => simp [intOf]; omega
          · have dL' : isL (hd ((lst s).drop m)) = false := by simpa using dL
            by_cases dD : isD (hd ((lst s).drop m)) = true
            · have hN := mkHid (hnew (Or.inr dD))
              rw [dL', hbm] at hlm
              rw [dD, hbm] at hdm
              clear hnew hfin dL dL' dD hbm
              go_wp2_with (first | (go_at_call 68; refine (hlm _).mono ?_; rintro e w2 ⟨rfl, h2⟩; have h3 := h2.symm; subst h3) | (go_at_call 71; refine (hdm _).mono ?_; rintro e w2 ⟨rfl, h2⟩; have h3 := h2.symm; subst h3))
              go_roundw
              case rel => exact ⟨m + 1, by omega, by omega, by simp, by simp, hN.out⟩
              case measure => simp [intOf]; omega
            · have dD' : isD (hd ((lst s).drop m)) = false := by simpa using dD
              have hF := mkHid (hfin (fun _ => ⟨dL', dD'⟩))
              rw [dL', hbm] at hlm
              rw [dD', hbm] at hdm
              clear hnew hfin dL dL' dD dD' hbm
              go_wp2_with (first | (go_at_call 68; refine (hlm _).mono ?_; rintro e w2 ⟨rfl, h2⟩; have h3 := h2.symm; subst h3) | (go_at_call 71; refine (hdm _).mono ?_; rintro e w2 ⟨rfl, h2⟩; have h3 := h2.symm; subst h3))
              go_ret
              exact ⟨by rw [hF.out, show a + (m - a) = m by omega]; rfl, rfl⟩
        · have hF := mkHid (hfin (fun h => absurd h hms))
          have hme : m = s.size := by omega
          subst hme
          go_wp2_with fail
          go_wp2_with fail
          go_ret
          exact ⟨by rw [hF.out, show a + (s.size - a) = s.size by omega]; rfl, rfl⟩
    · have cL' : isL (s[a]'h0).toNat = false := by rw [← hb]; simpa using cL
      have hF : Hid (nameLen ((lst s).drop a) = 0) := by unfold Hid nameLen; rw [if_neg cL]
      rw [cL'] at hl
      clear cL cL' hb
      go_enter Tryz.func69, Tryz.ntmps69
      go_wp2_with (go_at_call 68; refine (hl _).mono ?_; rintro e w1 ⟨rfl, rfl⟩)
      go_ret
      exact ⟨by rw [hF.out]; rfl, rfl⟩
  · have hae : a = s.size := by omega
    subst hae
    have hF : Hid (nameLen ((lst s).drop s.size) = 0) := by rw [List.drop_eq_nil_of_le (by rw [lst_len]; exact Nat.le_refl _)]; rfl
    go_enter Tryz.func69, Tryz.ntmps69
    go_wp2_with fail
    go_ret
    exact ⟨by rw [hF.out]; rfl, rfl⟩
set_option maxHeartbeats 4000000 in
theorem rIs_ok (s : ByteArray) (a c : Nat) (w : World) (hs : s.size ≤ 140737488355328) (hc : c < 256) : Calls Tryz.prog 73 #[.string s, .int .i64 a, .int .u8 c] w fun e w' => e = .returned (.bool (decide (hd ((lst s).drop a) = c))) ∧ w' = w := by
  by_cases h0 : a < s.size
  · have h0i : (a : Int) < s.size := by omega
    have hb := mkHid (get_lst s a h0)
    go_enter Tryz.func73, Tryz.ntmps73
    go_wp2_with fail
    all_goals (go_ret; exact ⟨congrArg (fun b => Ending.returned (Value.bool b)) (by rw [hb.out, Bool.eq_iff_iff]; simp <;> omega), rfl⟩)
  · have h0i : ¬ (a : Int) < s.size := by omega
    have hF : Hid (decide (hd ((lst s).drop a) = c) = false) := by unfold Hid; rw [hd_drop_end (by rw [lst_len]; omega)]; exact decide_eq_false (by omega)
    go_enter Tryz.func73, Tryz.ntmps73
    go_wp2_with fail
    go_ret
    exact ⟨by rw [hF.out]; rfl, rfl⟩
end Go.Proofs.YtimlomobbnnehaaGreatDoor

namespace Go.Proofs.YtimlomobbnnehaaGreatDoor
open Go.RowKit Go.Maps
set_option linter.unusedVariables false
set_option linter.unusedSimpArgs false
set_option maxHeartbeats 4000000 in
set_option maxRecDepth 1000000 in
theorem rSigns_ok (s : ByteArray) (a : Nat) (w : World) (ha : a ≤ s.size) (hs : s.size ≤ 140737488355328) : Calls Tryz.prog 76 #[.string s, .int .i64 a] w fun e w' => e = .returned (.int .i64 ((a + opLen ((lst s).drop a) : Nat))) ∧ w' = w := by
  by_cases h0 : a < s.size
  · have h0i : (a : Int) < s.size := by omega
    have hdn : decide (s.size ≤ a) = false := decide_eq_false (by omega)
    have hb := get_lst s a h0
    by_cases cO : isO (hd ((lst s).drop a)) = true
    · have cO' : isO (s[a]'h0).toNat = true := by rw [← hb]; exact cO
      by_cases h1 : a + 1 < s.size
      · have h1i : (a : Int) + 1 < s.size := by omega
        have hb1 := get_lst s (a + 1) h1
        by_cases cP : isO (hd ((lst s).drop (a + 1))) = true
        · have cP' : isO (s[a + 1]'h1).toNat = true := by rw [← hb1]; exact cP
          have e1 : Hid ((s[a]'h0).toNat = 45 → opLen ((lst s).drop a) = 1) := mkHid fun c2 => by
            unfold opLen
            rw [if_pos cO, if_neg (by rintro ⟨_, h, _⟩; exact h (hb.trans c2))]
          have e2 : Hid ((s[a + 1]'h1).toNat = 45 → opLen ((lst s).drop a) = 1) := mkHid fun c3 => by
            unfold opLen
            rw [if_pos cO, if_neg (by rintro ⟨_, _, h⟩; rw [List.drop_drop] at h; exact h (hb1.trans c3))]
          have e3 : Hid ((s[a]'h0).toNat ≠ 45 → (s[a + 1]'h1).toNat ≠ 45 → opLen ((lst s).drop a) = 2) := mkHid fun c2 c3 => by
            unfold opLen
            rw [if_pos cO, List.drop_drop, if_pos ⟨cP, by rw [hb]; exact c2, by rw [hb1]; exact c3⟩]
          by_cases c2 : (s[a]'h0).toNat = 45
          · have c2' : ((((s[a]'h0).toNat : Int)) != 45) = false := by rw [bne_eq_false_iff_eq]; omega
            have E := mkHid (e1.out c2)
            clear cO cP hb hb1 c2 e1 e2 e3
            go_enter Tryz.func76, Tryz.ntmps76
            go_wp2_with (go_at_call 75; refine (rOp_ok _ (toNat_lt8 _) _).mono ?_; rintro e w1 ⟨rfl, rfl⟩)
            go_ret
            exact ⟨by rw [E.out]; simp, rfl⟩
          · have c2' : ((((s[a]'h0).toNat : Int)) != 45) = true := by rw [bne_iff_ne]; omega
            by_cases c3 : (s[a + 1]'h1).toNat = 45
            · have c3' : ((((s[a + 1]'h1).toNat : Int)) != 45) = false := by rw [bne_eq_false_iff_eq]; omega
              have E := mkHid (e2.out c3)
              clear cO cP hb hb1 c2 c3 e1 e2 e3
              go_enter Tryz.func76, Tryz.ntmps76
              go_wp2_with (go_at_call 75; refine (rOp_ok _ (toNat_lt8 _) _).mono ?_; rintro e w1 ⟨rfl, rfl⟩)
              go_ret
              exact ⟨by rw [E.out]; simp, rfl⟩
            · have c3' : ((((s[a + 1]'h1).toNat : Int)) != 45) = true := by rw [bne_iff_ne]; omega
              have E := mkHid (e3.out c2 c3)
              clear cO cP hb hb1 c2 c3 e1 e2 e3
              go_enter Tryz.func76, Tryz.ntmps76
              go_wp2_with (go_at_call 75; refine (rOp_ok _ (toNat_lt8 _) _).mono ?_; rintro e w1 ⟨rfl, rfl⟩)
              go_ret
              exact ⟨by rw [E.out]; simp, rfl⟩
        · have cP' : isO (s[a + 1]'h1).toNat = false := by rw [← hb1]; simpa using cP
          have E : Hid (opLen ((lst s).drop a) = 1) := by
            unfold Hid opLen
            rw [if_pos cO, if_neg (by rintro ⟨h, _⟩; rw [List.drop_drop] at h; exact cP h)]
          clear cO cP hb hb1
          go_enter Tryz.func76, Tryz.ntmps76
          go_wp2_with (go_at_call 75; refine (rOp_ok _ (toNat_lt8 _) _).mono ?_; rintro e w1 ⟨rfl, rfl⟩)
          go_ret
          exact ⟨by rw [E.out]; simp, rfl⟩
      · have h1i : ¬ (a : Int) + 1 < s.size := by omega
        have E : Hid (opLen ((lst s).drop a) = 1) := by
          unfold Hid opLen
          rw [if_pos cO, List.drop_drop, hd_drop_end (by rw [lst_len]; omega), if_neg (by rintro ⟨h, _⟩; exact absurd h (by decide))]
        clear cO hb
        go_enter Tryz.func76, Tryz.ntmps76
        go_wp2_with (go_at_call 75; refine (rOp_ok _ (toNat_lt8 _) _).mono ?_; rintro e w1 ⟨rfl, rfl⟩)
        go_ret
        exact ⟨by rw [E.out]; simp, rfl⟩
    · have cO' : isO (s[a]'h0).toNat = false := by rw [← hb]; simpa using cO
      have E : Hid (opLen ((lst s).drop a) = 0) := by unfold Hid opLen; rw [if_neg cO]
      clear cO hb
      go_enter Tryz.func76, Tryz.ntmps76
      go_wp2_with (go_at_call 75; refine (rOp_ok _ (toNat_lt8 _) _).mono ?_; rintro e w1 ⟨rfl, rfl⟩)
      go_ret
      exact ⟨by rw [E.out]; rfl, rfl⟩
  · have hae : a = s.size := by omega
    subst hae
    have E : Hid (opLen ((lst s).drop s.size) = 0) := by rw [List.drop_eq_nil_of_le (by rw [lst_len]; exact Nat.le_refl _)]; rfl
    go_enter Tryz.func76, Tryz.ntmps76
    go_wp2_with fail
    go_ret
    exact ⟨by rw [E.out]; rfl, rfl⟩
end Go.Proofs.YtimlomobbnnehaaGreatDoor

namespace Go.Proofs.YtimlomobbnnehaaGreatDoor
open Go.RowKit Go.Maps
set_option linter.unusedVariables false
set_option linter.unusedSimpArgs false
theorem rBlank_ok (n : Nat) (w : World) : Calls Tryz.prog 67 #[.int .u8 n] w fun e w' => e = .returned (.bool (isB n)) ∧ w' = w := by
  go_enter Tryz.func67, Tryz.ntmps67
  go_wp2
  all_goals (go_ret; exact ⟨congrArg (fun b => Ending.returned (Value.bool b)) (by rw [Bool.eq_iff_iff, isB_iff]; simp <;> omega), rfl⟩)
set_option maxHeartbeats 4000000 in
theorem rColon_ok (s : ByteArray) (a : Nat) (w : World) (ha : a ≤ s.size) (hs : s.size ≤ 140737488355328) : Calls Tryz.prog 70 #[.string s, .int .i64 a] w fun e w' => e = .returned (.bool (colonAt ((lst s).drop a))) ∧ w' = w := by
  have h1 := fun w => rIs_ok s a 58 w hs (by omega)
  have h2 := fun w => rIs_ok s (a + 1) 61 w hs (by omega)
  have key : colonAt ((lst s).drop a) = (decide (hd ((lst s).drop a) = 58) && !decide (hd ((lst s).drop (a + 1)) = 61)) := by
    unfold colonAt
    rw [List.drop_drop, Bool.eq_iff_iff]
    simp
  rw [key]
  generalize decide (hd ((lst s).drop a) = 58) = p at *
  generalize decide (hd ((lst s).drop (a + 1)) = 61) = q at *
  have h1 : ∀ w, Calls Tryz.prog 73 #[.string s, .int .i64 a, .int .u8 58] w fun e w' => e = .returned (.bool p) ∧ w' = w := h1
  have h2 : ∀ w, Calls Tryz.prog 73 #[.string s, .int .i64 ((a : Int) + 1), .int .u8 61] w fun e w' => e = .returned (.bool q) ∧ w' = w := h2
  cases p with
  | false =>
    go_enter Tryz.func70, Tryz.ntmps70
    go_wp2_with (go_at_call 73; refine (h1 _).mono ?_; rintro e w1 ⟨rfl, rfl⟩)
    go_ret
    exact ⟨rfl, rfl⟩
  | true =>
    go_enter Tryz.func70, Tryz.ntmps70
    go_wp2_with (first | (go_at_call 73; with_reducible refine (h1 _).mono ?_; rintro e w1 ⟨rfl, rfl⟩) | (go_at_call 73; with_reducible refine (h2 _).mono ?_; rintro e w2 ⟨rfl, rfl⟩))
    all_goals (go_ret; exact ⟨by cases q <;> rfl, rfl⟩)
theorem nameLen_zero {l : Bs} (h : isL (hd l) ≠ true) : nameLen l = 0 := by unfold nameLen; rw [if_neg h]
theorem opLen_zero {l : Bs} (h : isL (hd l) = true) : opLen l = 0 := by
  unfold opLen
  rw [if_neg]
  intro ho
  rw [isL_iff] at h
  rw [isO_iff] at ho
  omega
theorem kwLen_zero {l : Bs} (h : nameLen l = 0 ∨ colonAt (l.drop (nameLen l)) = false) : kwLen l = 0 := by
  unfold kwLen
  rw [if_neg]
  rintro ⟨h1, h2⟩
  rcases h with h | h
  · exact h1 h
  · rw [h2] at h; cases h
theorem kwsLen_nil {l : Bs} (h : kwLen l = 0) : kwsLen l = 0 := by rw [kwsLen_step, if_pos h]
theorem kwLen_yes {l : Bs} (h : nameLen l ≠ 0) (h2 : colonAt (l.drop (nameLen l)) = true) : kwLen l = nameLen l + 1 := by unfold kwLen; rw [if_pos ⟨h, h2⟩]
end Go.Proofs.YtimlomobbnnehaaGreatDoor

namespace Go.Proofs.YtimlomobbnnehaaGreatDoor
open Go.RowKit Go.Maps
set_option linter.unusedVariables false
set_option linter.unusedSimpArgs false
set_option maxHeartbeats 8000000 in
set_option maxRecDepth 1000000 in
theorem rSymbol_ok (s : ByteArray) (a : Nat) (w : World) (ha : a ≤ s.size) (hs : s.size ≤ 140737488355328) : Calls Tryz.prog 74 #[.string s, .int .i64 a] w fun e w' => e = .returned (.int .i64 ((a + symLen ((lst s).drop a) : Nat))) ∧ w' = w := by
  have hn := fun w => rName_ok s a w ha hs
  have hle := nameLen_le ((lst s).drop a)
  rw [List.length_drop, lst_len] at hle
  by_cases h0 : nameLen ((lst s).drop a) = 0
  · have hF : Hid (symLen ((lst s).drop a) = opLen ((lst s).drop a)) := by
      unfold Hid symLen
      rw [if_pos (kwsLen_nil (kwLen_zero (Or.inl h0))), h0]
      omega
    have hg := fun w => rSigns_ok s a w ha hs
    rw [h0] at hn
    have hn : ∀ w, Calls Tryz.prog 69 #[.string s, .int .i64 a] w fun e w' => e = .returned (.int .i64 a) ∧ w' = w := hn
    clear h0
    go_enter Tryz.func74, Tryz.ntmps74
    go_wp2_with (first | (go_at_call 69; refine (hn _).mono ?_; rintro e w1 ⟨rfl, h2⟩; have h3 := h2.symm; subst h3) | (go_at_call 76; refine (hg _).mono ?_; rintro e w1 ⟨rfl, h2⟩; have h3 := h2.symm; subst h3))
    go_ret
    exact ⟨by rw [hF.out]; rfl, rfl⟩
  · have hm : a + nameLen ((lst s).drop a) ≤ s.size := by omega
    have hc := fun w => rColon_ok s (a + nameLen ((lst s).drop a)) w hm hs
    rw [← List.drop_drop] at hc
    by_cases hC : colonAt (((lst s).drop a).drop (nameLen ((lst s).drop a))) = true
    · rw [hC] at hc
      have hk := kwLen_yes h0 hC
      have hkle := kwLen_le ((lst s).drop a)
      rw [List.length_drop, lst_len] at hkle
      have hst := kwsLen_step ((lst s).drop a)
      rw [if_neg (by omega), hk] at hst
      have HS : Hid (kwsLen ((lst s).drop a) = nameLen ((lst s).drop a) + 1 + kwsLen (((lst s).drop a).drop (nameLen ((lst s).drop a) + 1))) := hst
      have hm1 : a + (nameLen ((lst s).drop a) + 1) ≤ s.size := by omega
      clear hst hkle hk hC
      generalize nameLen ((lst s).drop a) = n0 at *
      have hne : ¬ ((a : Int) + n0 = a) := by omega
      have hn : ∀ w, Calls Tryz.prog 69 #[.string s, .int .i64 a] w fun e w' => e = .returned (.int .i64 ((a : Int) + n0)) ∧ w' = w := hn
      have hc : ∀ w, Calls Tryz.prog 70 #[.string s, .int .i64 ((a : Int) + n0)] w fun e w' => e = .returned (.bool true) ∧ w' = w := hc
      go_enter Tryz.func74, Tryz.ntmps74
      go_wp2_with (first | (go_at_call 69; refine (hn _).mono ?_; rintro e w1 ⟨rfl, h2⟩; have h3 := h2.symm; subst h3) | (go_at_call 70; refine (hc _).mono ?_; rintro e w1 ⟨rfl, h2⟩; have h3 := h2.symm; subst h3))
      go_loopw [5] (fun q wr => ∃ n m : Nat, 0 < n ∧ Hid (m = a + n) ∧ m ≤ s.size ∧ q = .int .i64 (m : Int) ∧ wr = w ∧ Hid (kwsLen ((lst s).drop a) = n + kwsLen ((lst s).drop m))) (fun q _ => s.size - (intOf q).toNat)
      case atStart => exact ⟨n0 + 1, a + (n0 + 1), by omega, mkHid rfl, hm1, by simp; omega, rfl, by have := HS.out; rw [List.drop_drop] at this; exact this⟩
      case round =>
        obtain ⟨n, m, hn0, hmn, hnm, rfl, rfl, HK⟩ := hrel
        have hn2 := fun w => rName_ok s m w hnm hs
        have hle2 := nameLen_le ((lst s).drop m)
        rw [List.length_drop, lst_len] at hle2
        have hst := kwsLen_step ((lst s).drop m)
        have hend : Hid (kwLen ((lst s).drop m) = 0 → symLen ((lst s).drop a) = n) := mkHid fun hz => by
          rw [if_pos hz] at hst
          have := HK.out
          rw [hst] at this
          unfold symLen
          rw [if_neg (by omega)]
          omega
        by_cases z0 : nameLen ((lst s).drop m) = 0
        · have HE := mkHid (hend.out (kwLen_zero (Or.inl z0)))
          rw [z0] at hn2
          have hn2 : ∀ w, Calls Tryz.prog 69 #[.string s, .int .i64 (m : Int)] w fun e w' => e = .returned (.int .i64 (m : Int)) ∧ w' = w := hn2
          clear z0 hst hend
          go_wp2_with (first | (go_at_call 69; refine (hn2 _).mono ?_; rintro e w1 ⟨rfl, h2⟩; have h3 := h2.symm; subst h3))
          go_ret
          exact ⟨by rw [HE.out, hmn.out]; rfl, rfl⟩
        · have hm2 : m + nameLen ((lst s).drop m) ≤ s.size := by omega
          have hc2 := fun w => rColon_ok s (m + nameLen ((lst s).drop m)) w hm2 hs
          have ed : (lst s).drop (m + nameLen ((lst s).drop m)) = ((lst s).drop m).drop (nameLen ((lst s).drop m)) := by rw [List.drop_drop]
          rw [ed] at hc2
          by_cases hC : colonAt (((lst s).drop m).drop (nameLen ((lst s).drop m))) = true
          · have hk := kwLen_yes z0 hC
            rw [hC] at hc2
            have hkle := kwLen_le ((lst s).drop m)
            rw [List.length_drop, lst_len] at hkle
            rw [if_neg (by omega), hk, List.drop_drop] at hst
            have HN : Hid (kwsLen ((lst s).drop a) = (n + (nameLen ((lst s).drop m) + 1)) + kwsLen ((lst s).drop (m + (nameLen ((lst s).drop m) + 1)))) := by
              have := HK.out
              rw [hst] at this
              unfold Hid
              omega
            have hm3 : m + (nameLen ((lst s).drop m) + 1) ≤ s.size := by omega
            clear hk hkle hst hC hend HK ed
            generalize nameLen ((lst s).drop m) = n1 at *
            have hne : ¬ ((m : Int) + n1 = (m : Int)) := by omega
            have hn2 : ∀ w, Calls Tryz.prog 69 #[.string s, .int .i64 (m : Int)] w fun e w' => e = .returned (.int .i64 ((m : Int) + n1)) ∧ w' = w := hn2
            have hc2 : ∀ w, Calls Tryz.prog 70 #[.string s, .int .i64 ((m : Int) + n1)] w fun e w' => e = .returned (.bool true) ∧ w' = w := hc2
            go_wp2_with (first | (go_at_call 69; refine (hn2 _).mono ?_; rintro e w1 ⟨rfl, h2⟩; have h3 := h2.symm; subst h3) | (go_at_call 70; refine (hc2 _).mono ?_; rintro e w1 ⟨rfl, h2⟩; have h3 := h2.symm; subst h3))
            go_roundw
            case rel => exact ⟨n + (n1 + 1), m + (n1 + 1), by omega, mkHid (by have := hmn.out; omega), hm3, by simp; omega, by simp, HN.out⟩
            case measure => simp [intOf]; omega
          · have hC' : colonAt (((lst s).drop m).drop (nameLen ((lst s).drop m))) = false := by simpa using hC
            have HE := mkHid (hend.out (kwLen_zero (Or.inr hC')))
            rw [hC'] at hc2
            clear hC hC' hst hend ed
            generalize nameLen ((lst s).drop m) = n1 at *
            have hne : ¬ ((m : Int) + n1 = (m : Int)) := by omega
            have hn2 : ∀ w, Calls Tryz.prog 69 #[.string s, .int .i64 (m : Int)] w fun e w' => e = .returned (.int .i64 ((m : Int) + n1)) ∧ w' = w := hn2
            have hc2 : ∀ w, Calls Tryz.prog 70 #[.string s, .int .i64 ((m : Int) + n1)] w fun e w' => e = .returned (.bool false) ∧ w' = w := hc2
            go_wp2_with (first | (go_at_call 69; refine (hn2 _).mono ?_; rintro e w1 ⟨rfl, h2⟩; have h3 := h2.symm; subst h3) | (go_at_call 70; refine (hc2 _).mono ?_; rintro e w1 ⟨rfl, h2⟩; have h3 := h2.symm; subst h3))
            go_ret
            exact ⟨by rw [HE.out, hmn.out]; rfl, rfl⟩
    · have hC' : colonAt (((lst s).drop a).drop (nameLen ((lst s).drop a))) = false := by simpa using hC
      have hL : isL (hd ((lst s).drop a)) = true := by
        by_cases hL : isL (hd ((lst s).drop a)) = true
        · exact hL
        · exact absurd (nameLen_zero hL) h0
      have hF : Hid (symLen ((lst s).drop a) = nameLen ((lst s).drop a)) := by
        unfold Hid symLen
        rw [if_pos (kwsLen_nil (kwLen_zero (Or.inr hC'))), opLen_zero hL]
        omega
      rw [hC'] at hc
      clear hC hC' hL
      generalize nameLen ((lst s).drop a) = n0 at *
      have hne : ¬ ((a : Int) + n0 = a) := by omega
      have hn : ∀ w, Calls Tryz.prog 69 #[.string s, .int .i64 a] w fun e w' => e = .returned (.int .i64 ((a : Int) + n0)) ∧ w' = w := hn
      have hc : ∀ w, Calls Tryz.prog 70 #[.string s, .int .i64 ((a : Int) + n0)] w fun e w' => e = .returned (.bool false) ∧ w' = w := hc
      go_enter Tryz.func74, Tryz.ntmps74
      go_wp2_with (first | (go_at_call 69; refine (hn _).mono ?_; rintro e w1 ⟨rfl, h2⟩; have h3 := h2.symm; subst h3) | (go_at_call 70; refine (hc _).mono ?_; rintro e w1 ⟨rfl, h2⟩; have h3 := h2.symm; subst h3))
      go_ret
      exact ⟨by rw [hF.out]; rfl, rfl⟩
end Go.Proofs.YtimlomobbnnehaaGreatDoor

namespace Go.Proofs.YtimlomobbnnehaaGreatDoor
open Go.RowKit Go.Maps
set_option linter.unusedVariables false
set_option linter.unusedSimpArgs false
theorem digLen_at {l : Bs} {k : Nat} (hk : k ≤ l.length) (h1 : ∀ j, j < k → isD (hd (l.drop j)) = true) (h2 : k < l.length → isD (hd (l.drop k)) = false) : digLen l = k := by
  unfold digLen
  exact tw_eq dN l k hk (fun j h hj => by unfold dN; rw [hd_at h]; exact h1 j hj) (fun h => by unfold dN; rw [hd_at h]; exact h2 h)
def numV (n : Nat) : Int := if n ≤ 1073741824 then n else -1
theorem numV_small {n : Nat} (h : n ≤ 1073741824) : numV n = n := by unfold numV; rw [if_pos h]
theorem numV_great {n : Nat} (h : ¬ n ≤ 1073741824) : numV n = -1 := by unfold numV; rw [if_neg h]
set_option maxHeartbeats 8000000 in
set_option maxRecDepth 1000000 in
theorem rNumber_ok (s : ByteArray) (a : Nat) (w : World) (ha : a ≤ s.size) (hs : s.size ≤ 140737488355328) : Calls Tryz.prog 72 #[.string s, .int .i64 a] w fun e w' =>
    e = .returned (.tuple #[.int .i64 (numV (numOf (((lst s).drop a).take (digLen ((lst s).drop a))))), .int .i64 ((a + digLen ((lst s).drop a) : Nat))]) ∧ w' = w := by
  go_enter Tryz.func72, Tryz.ntmps72
  go_wp2
  go_loopw [1, 6] (fun q n wr => ∃ m : Nat, a ≤ m ∧ m ≤ s.size ∧ q = .int .i64 m ∧ wr = w ∧ n = .int .i64 (numV (numOf (((lst s).drop a).take (m - a)))) ∧ Hid (∀ j, j < m - a → isD (hd (((lst s).drop a).drop j)) = true)) (fun q _ _ => s.size - (intOf q).toNat)
  case atStart => exact ⟨a, Nat.le_refl _, ha, rfl, rfl, by simp [numOf, numV], fun j h => by omega⟩
  case round =>
    obtain ⟨m, hm1, hm2, rfl, rfl, rfl, hj⟩ := hrel
    have hfin : (m < s.size → isD (hd ((lst s).drop m)) = false) → digLen ((lst s).drop a) = m - a := fun h => by
      refine digLen_at (by rw [List.length_drop, lst_len]; omega) hj.out (fun h2 => ?_)
      rw [List.length_drop, lst_len] at h2
      rw [List.drop_drop, show a + (m - a) = m by omega]
      exact h (by omega)
    by_cases hms : m < s.size
    · have hmi : (m : Int) < s.size := by omega
      have hbm := get_lst s m hms
      have hdm := rDigit_ok (s[m]'hms).toNat
      by_cases dD : isD (hd ((lst s).drop m)) = true
      · have hN : Hid (∀ j, j < m + 1 - a → isD (hd (((lst s).drop a).drop j)) = true) := mkHid fun j hj2 => by
          by_cases hjm : j < m - a
          · exact hj.out j hjm
          · have : j = m - a := by omega
            subst this
            rw [List.drop_drop, show a + (m - a) = m by omega]
            exact dD
        have hnu := numOf_take (l := (lst s).drop a) (k := m - a) (by rw [List.length_drop, lst_len]; omega)
        rw [List.drop_drop, show a + (m - a) = m by omega, show m - a + 1 = m + 1 - a by omega, hbm] at hnu
        rw [hbm] at dD
        rw [dD] at hdm
        rw [isD_iff] at dD
        have HU : Hid (numOf (((lst s).drop a).take (m + 1 - a)) = 10 * numOf (((lst s).drop a).take (m - a)) + ((s[m]'hms).toNat - 48)) := hnu
        clear hnu hfin hbm
        generalize numOf (((lst s).drop a).take (m - a)) = N at *
        by_cases hsm : N ≤ 1073741824
        · rw [numV_small hsm]
          by_cases hgr : 10 * N + ((s[m]'hms).toNat - 48) ≤ 1073741824
          · have hgi : ¬ (1073741824 : Int) < 10 * (N : Int) + ((s[m]'hms).toNat : Int) - 48 := by omega
            have hge : (0 : Int) ≤ N := by omega
            go_wp2_with (go_at_call 71; refine (hdm _).mono ?_; rintro e w2 ⟨rfl, h2⟩; have h3 := h2.symm; subst h3)
            go_roundw
            case rel => exact ⟨m + 1, by omega, by omega, by simp, by simp, by rw [HU.out, numV_small hgr]; first | rfl | (simp; omega), hN.out⟩
            case measure => simp [intOf]; omega
          · have hgi : (1073741824 : Int) < 10 * (N : Int) + ((s[m]'hms).toNat : Int) - 48 := by omega
            have hge : (0 : Int) ≤ N := by omega
            go_wp2_with (go_at_call 71; refine (hdm _).mono ?_; rintro e w2 ⟨rfl, h2⟩; have h3 := h2.symm; subst h3)
            go_roundw
            case rel => exact ⟨m + 1, by omega, by omega, by simp, by simp, by rw [HU.out, numV_great hgr], hN.out⟩
            case measure => simp [intOf]; omega
        · rw [numV_great hsm]
          have hgr : ¬ 10 * N + ((s[m]'hms).toNat - 48) ≤ 1073741824 := by omega
          go_wp2_with (go_at_call 71; refine (hdm _).mono ?_; rintro e w2 ⟨rfl, h2⟩; have h3 := h2.symm; subst h3)
          go_roundw
          case rel => exact ⟨m + 1, by omega, by omega, by simp, by simp, by rw [HU.out, numV_great hgr], hN.out⟩
          case measure => simp [intOf]; omega
      · have dD' : isD (hd ((lst s).drop m)) = false := by simpa using dD
        have hF := mkHid (hfin (fun _ => dD'))
        rw [hbm] at dD'
        rw [dD'] at hdm
        clear dD dD' hbm hfin
        go_wp2_with (go_at_call 71; refine (hdm _).mono ?_; rintro e w2 ⟨rfl, h2⟩; have h3 := h2.symm; subst h3)
        go_ret2
        exact ⟨by rw [hF.out, show a + (m - a) = m by omega]; rfl, rfl⟩
    · have hF := mkHid (hfin (fun h => absurd h hms))
      have hme : m = s.size := by omega
      clear hfin
      subst hme
      go_wp2_with fail
      go_wp2_with fail
      go_ret2
      exact ⟨by rw [hF.out, show a + (s.size - a) = s.size by omega]; rfl, rfl⟩
end Go.Proofs.YtimlomobbnnehaaGreatDoor

namespace Go.Proofs.YtimlomobbnnehaaGreatDoor
open Go.RowKit Go.Maps
set_option linter.unusedVariables false
set_option linter.unusedSimpArgs false
theorem cmt_at : ∀ (l : Bs) (k : Nat), (∀ j, j < k → hd (l.drop j) ≠ 34) → hd (l.drop k) = 34 → cmt l = some (k + 1) := by
  intro l
  induction l with
  | nil => intro k h1 h2; rw [List.drop_nil] at h2; cases h2
  | cons c r ih =>
    intro k h1 h2
    unfold cmt
    cases k with
    | zero => rw [if_pos (show c.toNat = 34 from h2)]
    | succ k =>
      rw [if_neg (show ¬ c.toNat = 34 from h1 0 (by omega)), ih k (fun j hj => h1 (j + 1) (by omega)) h2]
      rfl
theorem cmt_none : ∀ (l : Bs), (∀ j, j < l.length → hd (l.drop j) ≠ 34) → cmt l = none := by
  intro l
  induction l with
  | nil => intro h; rfl
  | cons c r ih =>
    intro h1
    unfold cmt
    rw [if_neg (show ¬ c.toNat = 34 from h1 0 (by simp)), ih (fun j hj => h1 (j + 1) (by simp; omega))]
    rfl
theorem cut_blank {l : Bs} (h : isB (hd l) = true) : cut l = some (none, 1) := by
  cases l with
  | nil => simp [hd, isB] at h
  | cons c r => unfold cut; simp only; rw [if_pos (show isB c.toNat = true from h)]
theorem cut_quote {l : Bs} (h : hd l = 34) : cut l = (cmt (l.drop 1)).map (fun n => (none, n + 1)) := by
  cases l with
  | nil => simp [hd] at h
  | cons c r =>
    have h' : c.toNat = 34 := h
    unfold cut
    simp only
    rw [if_neg (by rw [h']; decide), if_pos h']
    rfl
/-- behind blanks and comments -/
structure Psd (l : Bs) (a n : Nat) (ok : Bool) : Prop where
  lo : a ≤ n
  hi : n ≤ l.length
  go : ok = true → (∀ ts e, Lx n (l.drop n) ts e → Lx a (l.drop a) ts e) ∧ (n < l.length → isB (hd (l.drop n)) = false ∧ hd (l.drop n) ≠ 34)
  no : ok = false → Lx a (l.drop a) [] (some n)
set_option maxHeartbeats 8000000 in
set_option maxRecDepth 1000000 in
theorem rPassed_ok (s : ByteArray) (a : Nat) (w : World) (ha : a ≤ s.size) (hs : s.size ≤ 140737488355328) : Calls Tryz.prog 57 #[.string s, .int .i64 a] w fun e w' =>
    ∃ n ok, e = .returned (.tuple #[.int .i64 (n : Nat), .bool ok]) ∧ Psd (lst s) a n ok ∧ w' = w := by
  go_enter Tryz.func57, Tryz.ntmps57
  go_wp2
  go_loopw [1] (fun q wr => ∃ m : Nat, a ≤ m ∧ m ≤ s.size ∧ q = .int .i64 m ∧ wr = w ∧ Hid (∀ ts e, Lx m ((lst s).drop m) ts e → Lx a ((lst s).drop a) ts e)) (fun q _ => s.size - (intOf q).toNat)
  case atStart => exact ⟨a, Nat.le_refl _, ha, rfl, rfl, fun ts e h => h⟩
  case round =>
    obtain ⟨m, hm1, hm2, rfl, rfl, HL⟩ := hrel
    by_cases hms : m < s.size
    · have hmi : (m : Int) < s.size := by omega
      have hbm := get_lst s m hms
      have hbl := rBlank_ok (s[m]'hms).toNat
      by_cases dB : isB (hd ((lst s).drop m)) = true
      · have HN : Hid (∀ ts e, Lx (m + 1) ((lst s).drop (m + 1)) ts e → Lx a ((lst s).drop a) ts e) := mkHid fun ts e h => HL.out ts e (.pass _ _ 1 _ _ (cut_blank dB) (by rw [List.drop_drop]; exact h))
        rw [hbm] at dB
        rw [dB] at hbl
        clear dB hbm
        go_wp2_with (go_at_call 67; refine (hbl _).mono ?_; rintro e w2 ⟨rfl, h2⟩; have h3 := h2.symm; subst h3)
        go_roundw
        case rel => exact ⟨m + 1, by omega, by omega, by simp, by simp, HN.out⟩
        case measure => simp [intOf]; omega
      · have dB' : isB (hd ((lst s).drop m)) = false := by simpa using dB
        by_cases dQ : hd ((lst s).drop m) = 34
        · have hcq := cut_quote dQ
          rw [List.drop_drop] at hcq
          have HC : Hid (cut ((lst s).drop m) = (cmt ((lst s).drop (m + 1))).map (fun n => (none, n + 1))) := hcq
          have hne : Hid ((lst s).drop m ≠ []) := mkHid fun h => by rw [h] at dQ; cases dQ
          rw [hbm] at dQ dB'
          rw [dB'] at hbl
          have dQi : (((s[m]'hms).toNat : Int) != 34) = false := by rw [bne_eq_false_iff_eq]; omega
          clear dB dB' hbm hcq dQ
          go_wp2_with (go_at_call 67; refine (hbl _).mono ?_; rintro e w2 ⟨rfl, h2⟩; have h3 := h2.symm; subst h3)
          go_loopw [6] (fun q ws => ∃ k : Nat, m + 1 ≤ k ∧ k ≤ s.size ∧ q = .int .i64 k ∧ ws = wr ∧ Hid (∀ j, j < k - (m + 1) → hd (((lst s).drop (m + 1)).drop j) ≠ 34)) (fun q _ => s.size - (intOf q).toNat)
          case atStart => exact ⟨m + 1, by omega, by omega, by simp, rfl, fun j h => by omega⟩
          case round =>
            obtain ⟨k, hk1, hk2, rfl, rfl, HJ⟩ := hrel
            by_cases hks : k < s.size
            · have hki : (k : Int) < s.size := by omega
              have hbk := get_lst s k hks
              by_cases dK : (s[k]'hks).toNat = 34
              · have hcm : cmt ((lst s).drop (m + 1)) = some (k - (m + 1) + 1) := cmt_at _ _ HJ.out (by rw [List.drop_drop, show m + 1 + (k - (m + 1)) = k by omega, hbk]; exact dK)
                have HN : Hid (∀ ts e, Lx (k + 1) ((lst s).drop (k + 1)) ts e → Lx a ((lst s).drop a) ts e) := mkHid fun ts e h => HL.out ts e (.pass _ _ (k - (m + 1) + 1 + 1) _ _ (by rw [HC.out, hcm]; rfl) (by
                  rw [List.drop_drop, show m + (k - (m + 1) + 1 + 1) = k + 1 by omega]; exact h))
                have dKi : (((s[k]'hks).toNat : Int) != 34) = false := by rw [bne_eq_false_iff_eq]; omega
                clear hcm hbk dK
                go_wp2_with fail
                go_wp2_with fail
                go_roundw
                case rel => exact ⟨k + 1, by omega, by omega, by simp, by simp, HN.out⟩
                case measure => simp [intOf]; omega
              · have dKi : (((s[k]'hks).toNat : Int) != 34) = true := by rw [bne_iff_ne]; omega
                have HN : Hid (∀ j, j < k + 1 - (m + 1) → hd (((lst s).drop (m + 1)).drop j) ≠ 34) := mkHid fun j hj => by
                  by_cases hjk : j < k - (m + 1)
                  · exact HJ.out j hjk
                  · have : j = k - (m + 1) := by omega
                    subst this
                    rw [List.drop_drop, show m + 1 + (k - (m + 1)) = k by omega, hbk]
                    exact dK
                clear hbk dK
                go_wp2_with fail
                go_roundw
                case rel => exact ⟨k + 1, by omega, by omega, by simp, by simp, HN.out⟩
                case measure => simp [intOf]; omega
            · have hke : k = s.size := by omega
              have hcm : cmt ((lst s).drop (m + 1)) = none := cmt_none _ (fun j hj => HJ.out j (by rw [List.length_drop, lst_len] at hj; omega))
              have HN : Hid (Lx a ((lst s).drop a) [] (some m)) := mkHid (HL.out _ _ (.bad _ _ hne.out (by rw [HC.out, hcm]; rfl)))
              clear hcm
              subst hke
              go_wp2_with fail
              go_wp2_with fail
              go_ret2
              exact ⟨m, false, rfl, ⟨hm1, hm2, fun h => (by cases h), fun _ => HN.out⟩, rfl⟩
        · have HE : Hid (isB (hd ((lst s).drop m)) = false ∧ hd ((lst s).drop m) ≠ 34) := ⟨dB', dQ⟩
          rw [hbm] at dQ dB'
          rw [dB'] at hbl
          have dQi : (((s[m]'hms).toNat : Int) != 34) = true := by rw [bne_iff_ne]; omega
          clear dB dB' hbm dQ
          go_wp2_with (go_at_call 67; refine (hbl _).mono ?_; rintro e w2 ⟨rfl, h2⟩; have h3 := h2.symm; subst h3)
          go_ret2
          exact ⟨m, true, rfl, ⟨hm1, hm2, fun _ => ⟨HL.out, fun _ => HE.out⟩, fun h => (by cases h)⟩, rfl⟩
    · have hme : m = s.size := by omega
      subst hme
      go_wp2_with fail
      go_wp2_with fail
      go_ret2
      exact ⟨s.size, true, rfl, ⟨hm1, hm2, fun _ => ⟨HL.out, fun h => by rw [lst_len] at h; omega⟩, fun h => (by cases h)⟩, rfl⟩
end Go.Proofs.YtimlomobbnnehaaGreatDoor

namespace Go.Proofs.YtimlomobbnnehaaGreatDoor
open Go.RowKit Go.Maps
set_option linter.unusedVariables false
set_option linter.unusedSimpArgs false
theorem RdT.lt {w : World} {g n cap : Nat} {ts : List (Tok × Nat)} (h : RdT w (.slice (some ⟨g, 0, none⟩) n cap) ts) (h0 : 0 < ts.length) : g < w.heap.size := by
  obtain ⟨p, c, e, hp⟩ := h.at_
  injection e with e1 e2 e3
  obtain ⟨b, off, e4, hb, hc⟩ := hp h0
  subst e1
  injection e4 with e4
  injection e4 with e5 e6
  subst e5
  exact hb
theorem Lx.first {p : Nat} {l : Bs} {t : Tok} {rest : List (Tok × Nat)} {e : Option Nat} (h : Lx p l ((t, p) :: rest) e) : ∀ x ∈ rest, p < x.2 := by
  intro x hx
  rcases h.inv with ⟨_, h1, _⟩ | ⟨_, _, h1, _⟩ | ⟨n, h1, h2⟩ | ⟨t', n, ts', h1, h2, h3⟩
  · cases h1
  · cases h1
  · exfalso
    have hn := cut_n h1
    have := (h2.places.1 (t, p) (by simp)).1
    simp at this
    omega
  · injection h2 with _ h2
    subst h2
    have hn := cut_n h1
    have := (h3.places.1 x hx).1
    omega
theorem Lx.ahead {l : Bs} {us : List (Tok × Nat)} (h : Lx 0 l us none) : Lx 0 (l.take ((us ++ [(stopT, l.length)]).getD 0 noT).2) [] none ∧ ((us ++ [(stopT, l.length)]).getD 0 noT).2 ≤ l.length := by
  cases us with
  | nil =>
    have := h.split rfl [] [] l.length rfl (Nat.le_refl _) (Or.inl ⟨rfl, rfl⟩)
    exact ⟨this.2.1, Nat.le_refl _⟩
  | cons x us =>
    have hp := (h.places.1 x (by simp)).2
    rw [Nat.zero_add] at hp
    have := h.split rfl [] (x :: us) x.2 rfl (by omega) (Or.inr ⟨x.1, us, by rw [Nat.zero_add]⟩)
    exact ⟨this.2.1, Nat.le_of_lt hp⟩
theorem getD_mid (us : List (Tok × Nat)) (z : Tok × Nat) {i : Nat} (hi : i < us.length) : (us ++ [z]).getD i noT = us[i] := by
  rw [List.getD_eq_getElem?_getD, List.getElem?_append_left hi, List.getElem?_eq_getElem hi]; rfl
theorem getD_last (us : List (Tok × Nat)) (z : Tok × Nat) : (us ++ [z]).getD us.length noT = z := by
  rw [List.getD_eq_getElem?_getD, List.getElem?_append_right (Nat.le_refl _)]; simp
/-- each piece of a source, alone -/
theorem Lx.piece {l : Bs} {us : List (Tok × Nat)} (h : Lx 0 l us none) {i : Nat} (hi : i < us.length) :
    ((us ++ [(stopT, l.length)]).getD i noT).2 < ((us ++ [(stopT, l.length)]).getD (i + 1) noT).2 ∧ ((us ++ [(stopT, l.length)]).getD (i + 1) noT).2 ≤ l.length ∧
    Lx 0 ((l.drop ((us ++ [(stopT, l.length)]).getD i noT).2).take (((us ++ [(stopT, l.length)]).getD (i + 1) noT).2 - ((us ++ [(stopT, l.length)]).getD i noT).2)) [(((us ++ [(stopT, l.length)]).getD i noT).1, 0)] none := by
  rw [getD_mid us _ hi]
  have hdr : us.drop i = us[i] :: us.drop (i + 1) := List.drop_eq_getElem_cons hi
  have hp := (h.places.1 us[i] (List.getElem_mem hi)).2
  rw [Nat.zero_add] at hp
  obtain ⟨_, _, h2⟩ := h.split rfl (us.take i) (us.drop i) us[i].2 (List.take_append_drop i us).symm (by omega) (Or.inr ⟨us[i].1, us.drop (i + 1), by rw [hdr, Nat.zero_add]⟩)
  rw [Nat.zero_add, hdr] at h2
  have hfi := h2.first
  obtain ⟨q, hq, hq1, hq2, hcase⟩ : ∃ q, q = ((us ++ [(stopT, l.length)]).getD (i + 1) noT).2 ∧ us[i].2 < q ∧ q ≤ l.length ∧ ((us.drop (i + 1) = [] ∧ q - us[i].2 = (l.drop us[i].2).length) ∨ ∃ t rest, us.drop (i + 1) = (t, us[i].2 + (q - us[i].2)) :: rest) := by
    refine ⟨_, rfl, ?_⟩
    by_cases hn : i + 1 < us.length
    · rw [getD_mid us _ hn]
      have hd2 : us.drop (i + 1) = us[i + 1] :: us.drop (i + 2) := List.drop_eq_getElem_cons hn
      have h3 := hfi us[i + 1] (hd2 ▸ List.mem_cons_self)
      have h4 := (h.places.1 us[i + 1] (List.getElem_mem hn)).2
      rw [Nat.zero_add] at h4
      exact ⟨h3, by omega, Or.inr ⟨us[i + 1].1, us.drop (i + 2), by rw [hd2, show us[i].2 + (us[i + 1].2 - us[i].2) = us[i + 1].2 by omega]⟩⟩
    · have he : i + 1 = us.length := by omega
      rw [he, getD_last]
      exact ⟨hp, Nat.le_refl _, Or.inl ⟨by simp, by simp⟩⟩
  rw [← hq]
  refine ⟨hq1, hq2, ?_⟩
  obtain ⟨_, h3, _⟩ := h2.split rfl [us[i]] (us.drop (i + 1)) (q - us[i].2) rfl (by simp; omega) hcase
  obtain ⟨ts0, h4, h5⟩ := h3.down
  have h6 : ts0 = [(us[i].1, 0)] := by
    cases ts0 with
    | nil => simp [Lx.sh] at h5
    | cons x r =>
      simp [Lx.sh] at h5
      obtain ⟨h7, h8⟩ := h5
      subst h8
      have h9 := congrArg Prod.fst h7
      have h10 := congrArg Prod.snd h7
      simp at h9 h10
      rw [h9]
      have : x.2 = 0 := by omega
      rw [← this]
  rw [h6] at h4
  exact h4
end Go.Proofs.YtimlomobbnnehaaGreatDoor

