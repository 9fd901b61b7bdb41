import Derived.Test.YtimlomobbnnehaaDoorLKind
namespace Go.Proofs.YtimlomobbnnehaaDoor
open Go.RowKit
set_option linter.unusedVariables false
set_option linter.unusedSimpArgs false
theorem kindOf_ok (n : Nat) (hn : n < 256) (w : World) : Calls Tryd.prog 13 #[.int .u8 n] w fun e w' => e = .returned (.int .i64 (kindN n)) ∧ w' = w := by
  by_cases h32 : n = 32
  · subst h32; exact kindOf_32 w
  by_cases h9 : n = 9
  · subst h9; exact kindOf_9 w
  by_cases h10 : n = 10
  · subst h10; exact kindOf_10 w
  by_cases h13 : n = 13
  · subst h13; exact kindOf_13 w
  by_cases h34 : n = 34
  · subst h34; exact kindOf_34 w
  by_cases h35 : n = 35
  · subst h35; exact kindOf_35 w
  by_cases h39 : n = 39
  · subst h39; exact kindOf_39 w
  by_cases h40 : n = 40
  · subst h40; exact kindOf_40 w
  by_cases h41 : n = 41
  · subst h41; exact kindOf_41 w
  by_cases h91 : n = 91
  · subst h91; exact kindOf_91 w
  by_cases h93 : n = 93
  · subst h93; exact kindOf_93 w
  by_cases h124 : n = 124
  · subst h124; exact kindOf_124 w
  by_cases h58 : n = 58
  · subst h58; exact kindOf_58 w
  by_cases h94 : n = 94
  · subst h94; exact kindOf_94 w
  by_cases h46 : n = 46
  · subst h46; exact kindOf_46 w
  by_cases h59 : n = 59
  · subst h59; exact kindOf_59 w
  have hb : ¬ isB n = true := fun h => by rw [isB_iff] at h; omega
  have hm : ¬ markK n ≠ 0 := fun h => by
    unfold markK at h
    simp [h40, h41, h91, h93, h124, h58, h94, h46, h59] at h
  have e : kindN n = if isL n = true then 3 else if isD n = true then 4 else if isO n = true then 6 else 0 := by
    unfold kindN
    rw [if_neg hb, if_neg h34, if_neg h35, if_neg h39, if_neg hm]
  have Z : ∀ v : Nat, ¬ n = v → ¬ (n : Int) = (v : Int) := fun v h h2 => h (Int.ofNat_inj.1 h2)
  rw [e]
  by_cases cL : isL n = true
  · rw [if_pos cL]; exact kindOf_L n hn w (Z 32 h32) (Z 9 h9) (Z 10 h10) (Z 13 h13) (Z 34 h34) (Z 35 h35) (Z 39 h39) (Z 40 h40) (Z 41 h41) (Z 91 h91) (Z 93 h93) (Z 124 h124) (Z 58 h58) (Z 94 h94) (Z 46 h46) (Z 59 h59) cL
  · rw [if_neg cL]
    have cL' : isL n = false := by simpa using cL
    by_cases cD : isD n = true
    · rw [if_pos cD]; exact kindOf_D n hn w (Z 32 h32) (Z 9 h9) (Z 10 h10) (Z 13 h13) (Z 34 h34) (Z 35 h35) (Z 39 h39) (Z 40 h40) (Z 41 h41) (Z 91 h91) (Z 93 h93) (Z 124 h124) (Z 58 h58) (Z 94 h94) (Z 46 h46) (Z 59 h59) cL' cD
    · rw [if_neg cD]
      have cD' : isD n = false := by simpa using cD
      by_cases cO : isO n = true
      · rw [if_pos cO]; exact kindOf_O n hn w (Z 32 h32) (Z 9 h9) (Z 10 h10) (Z 13 h13) (Z 34 h34) (Z 35 h35) (Z 39 h39) (Z 40 h40) (Z 41 h41) (Z 91 h91) (Z 93 h93) (Z 124 h124) (Z 58 h58) (Z 94 h94) (Z 46 h46) (Z 59 h59) cL' cD' cO
      · rw [if_neg cO]; exact kindOf_X n hn w (Z 32 h32) (Z 9 h9) (Z 10 h10) (Z 13 h13) (Z 34 h34) (Z 35 h35) (Z 39 h39) (Z 40 h40) (Z 41 h41) (Z 91 h91) (Z 93 h93) (Z 124 h124) (Z 58 h58) (Z 94 h94) (Z 46 h46) (Z 59 h59) cL' cD' (by simpa using cO)
theorem cutQ_cmt {l : Bs} (h : hd l = 34) : cutQ l = match cmt (l.drop 1) with | none => (0, [], 0, 0) | some n => (0, [], 0, n + 1) := by
  cases l with
  | nil => simp [hd] at h
  | cons c r =>
    have h' : c.toNat = 34 := h
    have e : (c :: r).drop 1 = r := rfl
    unfold cutQ cut
    rw [e]
    simp only [h', show isB 34 = false from rfl]
    cases cmt r <;> simp
theorem cutQ_word {l : Bs} (h : isL (hd l) = true) : cutQ l = if kwLen l = 0 then (1, l.take (nameLen l), 0, nameLen l) else (2, l.take (nameLen l), 0, kwLen l) := by
  have hp := nameLen_pos h
  cases l with
  | nil => simp [hd, isL] at h
  | cons c r =>
    have h' : isL c.toNat = true := h
    have hb : isB c.toNat = false := by rw [Bool.eq_false_iff]; intro h2; rw [isB_iff] at h2; rw [isL_iff] at h'; omega
    have hq : ¬ c.toNat = 34 := by intro h2; rw [isL_iff] at h'; omega
    by_cases hc : colonAt ((c :: r).drop (nameLen (c :: r))) = true
    · have hk : kwLen (c :: r) = nameLen (c :: r) + 1 := by unfold kwLen; rw [if_pos ⟨by omega, hc⟩]
      rw [hk, if_neg (by omega)]
      unfold cutQ cut
      simp only [hb, hq, h', hc, if_true, if_false, Bool.false_eq_true]
    · have hk : kwLen (c :: r) = 0 := by unfold kwLen; rw [if_neg (fun h2 => hc h2.2)]
      rw [hk, if_pos rfl]
      unfold cutQ cut
      simp only [hb, hq, h', hc, if_true, if_false, Bool.false_eq_true]
theorem cutQ_op {l : Bs} (h : isO (hd l) = true) : cutQ l = (3, l.take (opLen l), 0, opLen l) := by
  cases l with
  | nil => simp [hd, isO] at h
  | cons c r =>
    have h' : isO c.toNat = true := h
    rw [isO_iff] at h'
    have hb : isB c.toNat = false := by rw [Bool.eq_false_iff]; intro h2; rw [isB_iff] at h2; omega
    have hL : isL c.toNat = false := by rw [Bool.eq_false_iff]; intro h2; rw [isL_iff] at h2; omega
    have hD : isD c.toNat = false := by rw [Bool.eq_false_iff]; intro h2; rw [isD_iff] at h2; omega
    have hq : ¬ c.toNat = 34 := by omega
    have hh : ¬ c.toNat = 35 := by omega
    unfold cutQ cut
    simp only [hb, hq, hL, hD, hh, if_false, Bool.false_eq_true]
    rw [if_pos (show isO c.toNat = true from h)]
theorem cutQ_hash {l : Bs} (h : hd l = 35) : cutQ l = if symLen (l.drop 1) = 0 then (if hd (l.drop 1) = 40 then (7, [], 0, 2) else (0, [], 0, 0)) else (5, (l.drop 1).take (symLen (l.drop 1)), 0, symLen (l.drop 1) + 1) := by
  cases l with
  | nil => simp [hd] at h
  | cons c r =>
    have h' : c.toNat = 35 := h
    have e : (c :: r).drop 1 = r := rfl
    unfold cutQ cut
    rw [e]
    simp only [h', show isB 35 = false from rfl, show isL 35 = false from rfl, show isD 35 = false from rfl, if_false, Bool.false_eq_true]
    by_cases hs : symLen r = 0
    · simp only [hs, if_true]
      by_cases h40 : hd r = 40
      · simp [h40, mk]
      · simp [h40]
    · simp [hs]
theorem cutQ_mark {l : Bs} (h : kindN (hd l) = 8) : cutQ l = if hd l = 58 ∧ hd (l.drop 1) = 61 then (14, [], 0, 2) else (markK (hd l), [], 0, 1) := by
  cases l with
  | nil => simp [hd, kindN, markK, isB, isL, isD, isO] at h
  | cons c r =>
    have e : (c :: r).drop 1 = r := rfl
    have e0 : hd (c :: r) = c.toNat := rfl
    have key : c.toNat = 40 ∨ c.toNat = 41 ∨ c.toNat = 91 ∨ c.toNat = 93 ∨ c.toNat = 124 ∨ c.toNat = 58 ∨ c.toNat = 94 ∨ c.toNat = 46 ∨ c.toNat = 59 := by
      have K : ∀ n, n < 256 → kindN n = 8 → n = 40 ∨ n = 41 ∨ n = 91 ∨ n = 93 ∨ n = 124 ∨ n = 58 ∨ n = 94 ∨ n = 46 ∨ n = 59 := by decide +kernel
      exact K c.toNat c.toNat_lt h
    unfold cutQ cut
    rw [e, e0]
    rcases key with k | k | k | k | k | k | k | k | k <;> simp only [k, isB, isL, isD, isO, markK, mk] <;> by_cases h61 : hd r = 61 <;> simp [h61]
theorem cutQ_blank {l : Bs} (h : isB (hd l) = true) : cutQ l = (0, [], 0, 1) := by
  cases l with
  | nil => simp [hd, isB] at h
  | cons c r =>
    have h' : isB c.toNat = true := h
    unfold cutQ cut
    simp only [h', if_true]
theorem cutQ_other {l : Bs} (h : kindN (hd l) = 0) : cutQ l = (0, [], 0, 0) := by
  cases l with
  | nil => rfl
  | cons c r =>
    have K : ∀ n, n < 256 → kindN n = 0 → isB n = false ∧ n ≠ 34 ∧ isL n = false ∧ isD n = false ∧ n ≠ 35 ∧ isO n = false ∧ n ≠ 39 ∧ n ≠ 58 ∧ markK n = 0 := by decide +kernel
    obtain ⟨k1, k2, k3, k4, k5, k6, k7, k8, k9⟩ := K c.toNat c.toNat_lt h
    unfold cutQ cut
    simp [k1, k2, k3, k4, k5, k6, k7, k8, k9]
end Go.Proofs.YtimlomobbnnehaaDoor

