import Derived.Test.YtimlomobbnnehaaDoorLAllAm
namespace Go.Proofs.YtimlomobbnnehaaDoor
open Go.RowKit Go.Maps
set_option linter.unusedVariables false
set_option linter.unusedSimpArgs false
theorem digLen_at {l : Bs} {k : Nat} (hk : k ≤ l.length) (h1 : ∀ j, j < k → isD (hd (l.drop j)) = true) (h2 : k < l.length → isD (hd (l.drop k)) = false) : digLen l = k := by
  unfold digLen
  exact tw_eq dN l k hk (fun j h hj => by unfold dN; rw [hd_at h]; exact h1 j hj) (fun h => by unfold dN; rw [hd_at h]; exact h2 h)
def numV (n : Nat) : Int := if n ≤ 1073741824 then n else -1
theorem numV_small {n : Nat} (h : n ≤ 1073741824) : numV n = n := by unfold numV; rw [if_pos h]
theorem numV_great {n : Nat} (h : ¬ n ≤ 1073741824) : numV n = -1 := by unfold numV; rw [if_neg h]
set_option maxHeartbeats 8000000 in
set_option maxRecDepth 1000000 in
theorem rNumber_ok (s : ByteArray) (a : Nat) (w : World) (ha : a ≤ s.size) (hs : s.size ≤ 140737488355328) : Calls Tryd.prog 42 #[.string s, .int .i64 a] w fun e w' =>
    e = .returned (.tuple #[.int .i64 (numV (numOf (((lst s).drop a).take (digLen ((lst s).drop a))))), .int .i64 ((a + digLen ((lst s).drop a) : Nat))]) ∧ w' = w := by
  go_enter Tryd.func42, Tryd.ntmps42
  go_wp2
  go_loopw [1, 6] (fun q n wr => ∃ m : Nat, a ≤ m ∧ m ≤ s.size ∧ q = .int .i64 m ∧ wr = w ∧ n = .int .i64 (numV (numOf (((lst s).drop a).take (m - a)))) ∧ Hid (∀ j, j < m - a → isD (hd (((lst s).drop a).drop j)) = true)) (fun q _ _ => s.size - (intOf q).toNat)
  case atStart => exact ⟨a, Nat.le_refl _, ha, rfl, rfl, by simp [numOf, numV], fun j h => by omega⟩
  case round =>
    obtain ⟨m, hm1, hm2, rfl, rfl, rfl, hj⟩ := hrel
    have hfin : (m < s.size → isD (hd ((lst s).drop m)) = false) → digLen ((lst s).drop a) = m - a := fun h => by
      refine digLen_at (by rw [List.length_drop, lst_len]; omega) hj.out (fun h2 => ?_)
      rw [List.length_drop, lst_len] at h2
      rw [List.drop_drop, show a + (m - a) = m by omega]
      exact h (by omega)
    by_cases hms : m < s.size
    · have hmi : (m : Int) < s.size := by omega
      have hbm := get_lst s m hms
      have hdm := rDigit_ok (s[m]'hms).toNat
      by_cases dD : isD (hd ((lst s).drop m)) = true
      · have hN : Hid (∀ j, j < m + 1 - a → isD (hd (((lst s).drop a).drop j)) = true) := mkHid fun j hj2 => by
          by_cases hjm : j < m - a
          · exact hj.out j hjm
          · have : j = m - a := by omega
            subst this
            rw [List.drop_drop, show a + (m - a) = m by omega]
            exact dD
        have hnu := numOf_take (l := (lst s).drop a) (k := m - a) (by rw [List.length_drop, lst_len]; omega)
        rw [List.drop_drop, show a + (m - a) = m by omega, show m - a + 1 = m + 1 - a by omega, hbm] at hnu
        rw [hbm] at dD
        rw [dD] at hdm
        rw [isD_iff] at dD
        have HU : Hid (numOf (((lst s).drop a).take (m + 1 - a)) = 10 * numOf (((lst s).drop a).take (m - a)) + ((s[m]'hms).toNat - 48)) := hnu
        clear hnu hfin hbm
        generalize numOf (((lst s).drop a).take (m - a)) = N at *
        by_cases hsm : N ≤ 1073741824
        · rw [numV_small hsm]
          by_cases hgr : 10 * N + ((s[m]'hms).toNat - 48) ≤ 1073741824
          · have hgi : ¬ (1073741824 : Int) < 10 * (N : Int) + ((s[m]'hms).toNat : Int) - 48 := by omega
            have hge : (0 : Int) ≤ N := by omega
            go_wp2_with (go_at_call 41; refine (hdm _).mono ?_; rintro e w2 ⟨rfl, h2⟩; have h3 := h2.symm; subst h3)
            go_roundw
            case rel => exact ⟨m + 1, by omega, by omega, by simp, by simp, by rw [HU.out, numV_small hgr]; first | rfl | (simp; omega), hN.out⟩
            case measure => simp [intOf]; omega
          · have hgi : (1073741824 : Int) < 10 * (N : Int) + ((s[m]'hms).toNat : Int) - 48 := by omega
            have hge : (0 : Int) ≤ N := by omega
            go_wp2_with (go_at_call 41; refine (hdm _).mono ?_; rintro e w2 ⟨rfl, h2⟩; have h3 := h2.symm; subst h3)
            go_roundw
            case rel => exact ⟨m + 1, by omega, by omega, by simp, by simp, by rw [HU.out, numV_great hgr], hN.out⟩
            case measure => simp [intOf]; omega
        · rw [numV_great hsm]
          have hgr : ¬ 10 * N + ((s[m]'hms).toNat - 48) ≤ 1073741824 := by omega
          go_wp2_with (go_at_call 41; refine (hdm _).mono ?_; rintro e w2 ⟨rfl, h2⟩; have h3 := h2.symm; subst h3)
          go_roundw
          case rel => exact ⟨m + 1, by omega, by omega, by simp, by simp, by rw [HU.out, numV_great hgr], hN.out⟩
          case measure => simp [intOf]; omega
      · have dD' : isD (hd ((lst s).drop m)) = false := by simpa using dD
        have hF := mkHid (hfin (fun _ => dD'))
        rw [hbm] at dD'
        rw [dD'] at hdm
        clear dD dD' hbm hfin
        go_wp2_with (go_at_call 41; refine (hdm _).mono ?_; rintro e w2 ⟨rfl, h2⟩; have h3 := h2.symm; subst h3)
        go_ret2
        exact ⟨by rw [hF.out, show a + (m - a) = m by omega]; rfl, rfl⟩
    · have hF := mkHid (hfin (fun h => absurd h hms))
      have hme : m = s.size := by omega
      clear hfin
      subst hme
      go_wp2_with fail
      go_wp2_with fail
      go_ret2
      exact ⟨by rw [hF.out, show a + (s.size - a) = s.size by omega]; rfl, rfl⟩
end Go.Proofs.YtimlomobbnnehaaDoor
namespace Go.Proofs.YtimlomobbnnehaaDoor
open Go.RowKit Go.Maps
set_option linter.unusedVariables false
set_option linter.unusedSimpArgs false
theorem cmt_at : ∀ (l : Bs) (k : Nat), (∀ j, j < k → hd (l.drop j) ≠ 34) → hd (l.drop k) = 34 → cmt l = some (k + 1) := by
  intro l
  induction l with
  | nil => intro k h1 h2; rw [List.drop_nil] at h2; cases h2
  | cons c r ih =>
    intro k h1 h2
    unfold cmt
    cases k with
    | zero => rw [if_pos (show c.toNat = 34 from h2)]
    | succ k =>
      rw [if_neg (show ¬ c.toNat = 34 from h1 0 (by omega)), ih k (fun j hj => h1 (j + 1) (by omega)) h2]
      rfl
theorem cmt_none : ∀ (l : Bs), (∀ j, j < l.length → hd (l.drop j) ≠ 34) → cmt l = none := by
  intro l
  induction l with
  | nil => intro h; rfl
  | cons c r ih =>
    intro h1
    unfold cmt
    rw [if_neg (show ¬ c.toNat = 34 from h1 0 (by simp)), ih (fun j hj => h1 (j + 1) (by simp; omega))]
    rfl
theorem cut_blank {l : Bs} (h : isB (hd l) = true) : cut l = some (none, 1) := by
  cases l with
  | nil => simp [hd, isB] at h
  | cons c r => unfold cut; simp only; rw [if_pos (show isB c.toNat = true from h)]
theorem cut_quote {l : Bs} (h : hd l = 34) : cut l = (cmt (l.drop 1)).map (fun n => (none, n + 1)) := by
  cases l with
  | nil => simp [hd] at h
  | cons c r =>
    have h' : c.toNat = 34 := h
    unfold cut
    simp only
    rw [if_neg (by rw [h']; decide), if_pos h']
    rfl
/-- behind blanks and comments -/
structure Psd (l : Bs) (a n : Nat) (ok : Bool) : Prop where
  lo : a ≤ n
  hi : n ≤ l.length
  go : ok = true → (∀ ts e, Lx n (l.drop n) ts e → Lx a (l.drop a) ts e) ∧ (n < l.length → isB (hd (l.drop n)) = false ∧ hd (l.drop n) ≠ 34)
  no : ok = false → Lx a (l.drop a) [] (some n)
set_option maxHeartbeats 8000000 in
set_option maxRecDepth 1000000 in
theorem rPassed_ok (s : ByteArray) (a : Nat) (w : World) (ha : a ≤ s.size) (hs : s.size ≤ 140737488355328) : Calls Tryd.prog 17 #[.string s, .int .i64 a] w fun e w' =>
    ∃ n ok, e = .returned (.tuple #[.int .i64 (n : Nat), .bool ok]) ∧ Psd (lst s) a n ok ∧ w' = w := by
  go_enter Tryd.func17, Tryd.ntmps17
  go_wp2
  go_loopw [1] (fun q wr => ∃ m : Nat, a ≤ m ∧ m ≤ s.size ∧ q = .int .i64 m ∧ wr = w ∧ Hid (∀ ts e, Lx m ((lst s).drop m) ts e → Lx a ((lst s).drop a) ts e)) (fun q _ => s.size - (intOf q).toNat)
  case atStart => exact ⟨a, Nat.le_refl _, ha, rfl, rfl, fun ts e h => h⟩
  case round =>
    obtain ⟨m, hm1, hm2, rfl, rfl, HL⟩ := hrel
    by_cases hms : m < s.size
    · have hmi : (m : Int) < s.size := by omega
      have hbm := get_lst s m hms
      have hbl := rBlank_ok (s[m]'hms).toNat
      by_cases dB : isB (hd ((lst s).drop m)) = true
      · have HN : Hid (∀ ts e, Lx (m + 1) ((lst s).drop (m + 1)) ts e → Lx a ((lst s).drop a) ts e) := mkHid fun ts e h => HL.out ts e (.pass _ _ 1 _ _ (cut_blank dB) (by rw [List.drop_drop]; exact h))
        rw [hbm] at dB
        rw [dB] at hbl
        clear dB hbm
        go_wp2_with (go_at_call 37; refine (hbl _).mono ?_; rintro e w2 ⟨rfl, h2⟩; have h3 := h2.symm; subst h3)
        go_roundw
        case rel => exact ⟨m + 1, by omega, by omega, by simp, by simp, HN.out⟩
        case measure => simp [intOf]; omega
      · have dB' : isB (hd ((lst s).drop m)) = false := by simpa using dB
        by_cases dQ : hd ((lst s).drop m) = 34
        · have hcq := cut_quote dQ
          rw [List.drop_drop] at hcq
          have HC : Hid (cut ((lst s).drop m) = (cmt ((lst s).drop (m + 1))).map (fun n => (none, n + 1))) := hcq
          have hne : Hid ((lst s).drop m ≠ []) := mkHid fun h => by rw [h] at dQ; cases dQ
          rw [hbm] at dQ dB'
          rw [dB'] at hbl
          have dQi : (((s[m]'hms).toNat : Int) != 34) = false := by rw [bne_eq_false_iff_eq]; omega
          clear dB dB' hbm hcq dQ
          go_wp2_with (go_at_call 37; refine (hbl _).mono ?_; rintro e w2 ⟨rfl, h2⟩; have h3 := h2.symm; subst h3)
          go_loopw [6] (fun q ws => ∃ k : Nat, m + 1 ≤ k ∧ k ≤ s.size ∧ q = .int .i64 k ∧ ws = wr ∧ Hid (∀ j, j < k - (m + 1) → hd (((lst s).drop (m + 1)).drop j) ≠ 34)) (fun q _ => s.size - (intOf q).toNat)
          case atStart => exact ⟨m + 1, by omega, by omega, by simp, rfl, fun j h => by omega⟩
          case round =>
            obtain ⟨k, hk1, hk2, rfl, rfl, HJ⟩ := hrel
            by_cases hks : k < s.size
            · have hki : (k : Int) < s.size := by omega
              have hbk := get_lst s k hks
              by_cases dK : (s[k]'hks).toNat = 34
              · have hcm : cmt ((lst s).drop (m + 1)) = some (k - (m + 1) + 1) := cmt_at _ _ HJ.out (by rw [List.drop_drop, show m + 1 + (k - (m + 1)) = k by omega, hbk]; exact dK)
                have HN : Hid (∀ ts e, Lx (k + 1) ((lst s).drop (k + 1)) ts e → Lx a ((lst s).drop a) ts e) := mkHid fun ts e h => HL.out ts e (.pass _ _ (k - (m + 1) + 1 + 1) _ _ (by rw [HC.out, hcm]; rfl) (by
                  rw [List.drop_drop, show m + (k - (m + 1) + 1 + 1) = k + 1 by omega]; exact h))
                have dKi : (((s[k]'hks).toNat : Int) != 34) = false := by rw [bne_eq_false_iff_eq]; omega
                clear hcm hbk dK
                go_wp2_with fail
                go_wp2_with fail
                go_roundw
                case rel => exact ⟨k + 1, by omega, by omega, by simp, by simp, HN.out⟩
                case measure => simp [intOf]; omega
              · have dKi : (((s[k]'hks).toNat : Int) != 34) = true := by rw [bne_iff_ne]; omega
                have HN : Hid (∀ j, j < k + 1 - (m + 1) → hd (((lst s).drop (m + 1)).drop j) ≠ 34) := mkHid fun j hj => by
                  by_cases hjk : j < k - (m + 1)
                  · exact HJ.out j hjk
                  · have : j = k - (m + 1) := by omega
                    subst this
                    rw [List.drop_drop, show m + 1 + (k - (m + 1)) = k by omega, hbk]
                    exact dK
                clear hbk dK
                go_wp2_with fail
                go_roundw
                case rel => exact ⟨k + 1, by omega, by omega, by simp, by simp, HN.out⟩
                case measure => simp [intOf]; omega
            · have hke : k = s.size := by omega
              have hcm : cmt ((lst s).drop (m + 1)) = none := cmt_none _ (fun j hj => HJ.out j (by rw [List.length_drop, lst_len] at hj; omega))
              have HN : Hid (Lx a ((lst s).drop a) [] (some m)) := mkHid (HL.out _ _ (.bad _ _ hne.out (by rw [HC.out, hcm]; rfl)))
              clear hcm
              subst hke
              go_wp2_with fail
              go_wp2_with fail
              go_ret2
              exact ⟨m, false, rfl, ⟨hm1, hm2, fun h => (by cases h), fun _ => HN.out⟩, rfl⟩
        · have HE : Hid (isB (hd ((lst s).drop m)) = false ∧ hd ((lst s).drop m) ≠ 34) := ⟨dB', dQ⟩
          rw [hbm] at dQ dB'
          rw [dB'] at hbl
          have dQi : (((s[m]'hms).toNat : Int) != 34) = true := by rw [bne_iff_ne]; omega
          clear dB dB' hbm dQ
          go_wp2_with (go_at_call 37; refine (hbl _).mono ?_; rintro e w2 ⟨rfl, h2⟩; have h3 := h2.symm; subst h3)
          go_ret2
          exact ⟨m, true, rfl, ⟨hm1, hm2, fun _ => ⟨HL.out, fun _ => HE.out⟩, fun h => (by cases h)⟩, rfl⟩
    · have hme : m = s.size := by omega
      subst hme
      go_wp2_with fail
      go_wp2_with fail
      go_ret2
      exact ⟨s.size, true, rfl, ⟨hm1, hm2, fun _ => ⟨HL.out, fun h => by rw [lst_len] at h; omega⟩, fun h => (by cases h)⟩, rfl⟩
end Go.Proofs.YtimlomobbnnehaaDoor
