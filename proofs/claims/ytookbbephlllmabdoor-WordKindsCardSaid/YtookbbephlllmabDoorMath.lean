import Derived.WalkKit
namespace Go.Proofs.YtookbbephlllmabDoor
open Go.RowKit

/-- wrapped into 31 bits -/
def wr (n : Int) : Int := (n + 1073741824) % 2147483648 - 1073741824

theorem wr_lo (n : Int) : -1073741824 ≤ wr n := by unfold wr; omega
theorem wr_hi (n : Int) : wr n ≤ 1073741823 := by unfold wr; omega
theorem wr_of (n : Int) (h0 : -1073741824 ≤ n) (h1 : n ≤ 1073741823) : wr n = n := by unfold wr; omega
theorem wr_eq (n : Int) : ∃ k : Int, wr n = n + 2147483648 * k := ⟨-((n + 1073741824) / 2147483648), by unfold wr; omega⟩
theorem wr_congr (a b k : Int) (h : a = b + 2147483648 * k) : wr a = wr b := by unfold wr; omega
theorem wr_w64 (n : Int) : wr (wrap64 n) = wr n := by unfold wr wrap64; omega
theorem wr_code (n : Int) : wrap64 (wrap32 (n % 4294967296 * 2 % 4294967296) / 2) = wr n := by
  unfold wr wrap64 wrap32; omega
theorem wr_mul (a b : Int) : wr (wr a * b) = wr (a * b) := by
  obtain ⟨k, hk⟩ := wr_eq a
  refine wr_congr _ _ (k * b) ?_
  rw [hk, Int.add_mul, Int.mul_assoc]
theorem wr_add (a b : Int) : wr (wr a + b) = wr (a + b) := by
  obtain ⟨k, hk⟩ := wr_eq a
  exact wr_congr _ _ k (by omega)
theorem wr_sub (a b : Int) : wr (wr a - b) = wr (a - b) := by
  obtain ⟨k, hk⟩ := wr_eq a
  exact wr_congr _ _ k (by omega)

/-! ### division -/
theorem tm_eq (a b : Int) : b * a.tdiv b + a.tmod b = a := Int.mul_tdiv_add_tmod a b
theorem tm_sign_pos (a b : Int) (h : 0 ≤ a) : 0 ≤ a.tmod b := Int.tmod_nonneg b h
theorem tm_sign_neg (a b : Int) (h : a ≤ 0) : a.tmod b ≤ 0 := by
  have h1 := Int.tmod_nonneg b (a := -a) (by omega)
  rw [Int.neg_tmod] at h1; omega
theorem tm_lt (a b : Int) (h : b ≠ 0) : a.tmod b < b.natAbs := by
  have h1 := Int.tmod_lt_of_pos a (b := (b.natAbs : Int)) (by omega)
  rcases Int.natAbs_eq b with e | e
  · rw [e]; rw [← e] at h1 ⊢; omega
  · have h2 : a.tmod (-(b.natAbs : Int)) = a.tmod b.natAbs := Int.tmod_neg _ _
    rw [← e] at h2; omega
theorem tm_gt (a b : Int) (h : b ≠ 0) : -(b.natAbs : Int) < a.tmod b := by
  have h1 := tm_lt (-a) b h
  rw [Int.neg_tmod] at h1; omega
theorem td_abs (a b : Int) : (a.tdiv b).natAbs ≤ a.natAbs := by
  rw [Int.natAbs_tdiv]; exact Nat.div_le_self _ _
theorem dvd_tm (a b : Int) : b ∣ a ↔ a.tmod b = 0 := Int.dvd_iff_tmod_eq_zero
theorem fd_same (a b : Int) (h : a.tmod b = 0 ∨ (a.tmod b < 0 ∧ b < 0) ∨ (0 < a.tmod b ∧ 0 < b)) :
    a.fdiv b = a.tdiv b ∧ a.fmod b = a.tmod b := by
  have h1 := tm_sign_pos a b
  have h2 := tm_sign_neg a b
  rw [Int.fdiv_eq_tdiv, Int.fmod_eq_tmod]
  by_cases hd : b ∣ a
  · simp [hd]
  · have hm : a.tmod b ≠ 0 := fun e => hd ((dvd_tm a b).2 e)
    rw [if_neg hd, if_neg hd]
    rcases h with h | ⟨h, hb'⟩ | ⟨h, hb'⟩
    · exact absurd h hm
    · have ha : ¬ 0 ≤ a := by omega
      rw [if_neg ha, if_neg ha, if_neg (by omega), if_neg (by omega), Int.sign_eq_neg_one_of_neg hb']
      constructor <;> omega
    · have ha : 0 ≤ a := by omega
      rw [if_pos ha, if_pos ha, if_pos (by omega), if_pos (by omega)]
      constructor <;> omega
theorem fd_diff (a b : Int) (h : (a.tmod b < 0 ∧ 0 < b) ∨ (0 < a.tmod b ∧ b < 0)) :
    a.fdiv b = a.tdiv b - 1 ∧ a.fmod b = a.tmod b + b := by
  have h1 := tm_sign_pos a b
  have h2 := tm_sign_neg a b
  rw [Int.fdiv_eq_tdiv, Int.fmod_eq_tmod]
  have hd : ¬ b ∣ a := fun e => by have := (dvd_tm a b).1 e; omega
  rw [if_neg hd, if_neg hd]
  rcases h with ⟨h, hb'⟩ | ⟨h, hb'⟩
  · have ha : ¬ 0 ≤ a := by omega
    rw [if_neg ha, if_neg ha, if_pos (by omega), if_pos (by omega), Int.sign_eq_one_of_pos hb']
    constructor <;> omega
  · have ha : 0 ≤ a := by omega
    rw [if_pos ha, if_pos ha, if_neg (by omega), if_neg (by omega)]
    constructor <;> omega
theorem fd_eq (a b : Int) : b * a.fdiv b + a.fmod b = a := Int.mul_fdiv_add_fmod a b
theorem fm_pos (a b : Int) (h : 0 < b) : 0 ≤ a.fmod b ∧ a.fmod b < b := ⟨Int.fmod_nonneg_of_pos a h, Int.fmod_lt_of_pos a h⟩
theorem fm_neg (a b : Int) (h : b < 0) : b < a.fmod b ∧ a.fmod b ≤ 0 := by
  have h1 := tm_lt a b (by omega)
  have h2 := tm_gt a b (by omega)
  by_cases c : 0 < a.tmod b
  · have := fd_diff a b (Or.inr ⟨c, h⟩); omega
  · have := fd_same a b (by omega); omega
/-- the quotient of two numbers in range -/
theorem fd_abs (a b : Int) : (a.fdiv b).natAbs ≤ a.natAbs + 1 := by
  by_cases hb : b = 0
  · subst hb; simp
  · have h0 := td_abs a b
    by_cases c : (a.tmod b < 0 ∧ 0 < b) ∨ (0 < a.tmod b ∧ b < 0)
    · have := (fd_diff a b c).1; omega
    · have := (fd_same a b (by omega)).1; omega
theorem le_mul_pos (c q : Int) (hc : 1 ≤ c) (hq : 0 ≤ q) : q ≤ c * q := by
  have := Int.mul_le_mul_of_nonneg_right hc hq; omega
theorem mul_neg_le (c q : Int) (hc : 1 ≤ c) (hq : q ≤ 0) : c * q ≤ q := by
  have h := le_mul_pos c (-q) hc (by omega)
  rw [Int.mul_neg] at h; omega
theorem two_mul_le (c q : Int) (hc : 2 ≤ c) (hq : 0 ≤ q) : 2 * q ≤ c * q := Int.mul_le_mul_of_nonneg_right hc hq
/-- the quotient of two numbers in range is in range, but for the one -/
theorem fd_range (a b : Int) (a0 : -1073741824 ≤ a) (a1 : a ≤ 1073741823) (hb : b ≠ 0) (hx : ¬ (a = -1073741824 ∧ b = -1)) :
    -1073741824 ≤ a.fdiv b ∧ a.fdiv b ≤ 1073741823 := by
  have h0 := fd_eq a b
  generalize a.fdiv b = q at *
  by_cases c : 0 < b
  · have h1 := fm_pos a b c
    generalize a.fmod b = r at *
    constructor
    · refine Decidable.byContradiction fun hq => ?_
      have := mul_neg_le b (q + 1) (by omega) (by omega)
      rw [Int.mul_add] at this; omega
    · refine Decidable.byContradiction fun hq => ?_
      have := le_mul_pos b q (by omega) (by omega); omega
  · have h1 := fm_neg a b (by omega)
    generalize a.fmod b = r at *
    obtain ⟨d, rfl⟩ : ∃ d, b = -d := ⟨-b, by omega⟩
    rw [Int.neg_mul] at h0
    constructor
    · refine Decidable.byContradiction fun hq => ?_
      have := mul_neg_le d (q + 1) (by omega) (by omega)
      rw [Int.mul_add] at this; omega
    · refine Decidable.byContradiction fun hq => ?_
      by_cases d1 : d = 1
      · subst d1; omega
      · have := two_mul_le d q (by omega) (by omega); omega
theorem mul_bd (q b : Int) (q0 : -1073741824 ≤ q) (q1 : q ≤ 1073741823) (b0 : -1073741824 ≤ b) (b1 : b ≤ 1073741823) :
    -1152921504606846976 ≤ q * b ∧ q * b ≤ 1152921504606846976 := by
  have h : (q * b).natAbs ≤ 1073741824 * 1073741824 := by
    rw [Int.natAbs_mul]; exact Nat.mul_le_mul (by omega) (by omega)
  omega
/-- what WordFloor asks -/
theorem floor_back (a b : Int) (a0 : -1073741824 ≤ a) (a1 : a ≤ 1073741823) : wr (wr (a.fdiv b) * b + a.fmod b) = a := by
  have h0 := fd_eq a b
  obtain ⟨k, hk⟩ := wr_eq (a.fdiv b)
  rw [hk]
  have : (a.fdiv b + 2147483648 * k) * b + a.fmod b = a + 2147483648 * (k * b) := by
    rw [Int.add_mul, Int.mul_assoc, Int.mul_comm (a.fdiv b) b]; omega
  rw [wr_congr _ _ _ this]; exact wr_of a a0 a1
end Go.Proofs.YtookbbephlllmabDoor
