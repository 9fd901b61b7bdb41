import Derived.Test.YtimlomobbnnehaaDoorLMark
import Derived.Lib.Replace
namespace Go.Proofs.YtimlomobbnnehaaDoor
open Go.RowKit Go.Lib
set_option linter.unusedVariables false
set_option linter.unusedSimpArgs false
theorem ra_def {u old new : Bs} (hne : ¬ (old == new) = true) : replaceAll u old new = replaceK old new (count u old) u := by
  unfold replaceAll replace replaceNum
  rw [if_neg hne, if_pos (Or.inl (by decide))]
theorem ra_skip {c : UInt8} {u old new : Bs} (hne : ¬ (old == new) = true) (h0 : old ≠ []) (hp : old.isPrefixOf (c :: u) = false) : replaceAll (c :: u) old new = c :: replaceAll u old new := by
  rw [ra_def hne, ra_def hne]
  have hi : index (c :: u) old = if index u old == -1 then -1 else index u old + 1 := by
    rw [index, hp]; rfl
  by_cases hm : index u old = -1
  · rw [hm] at hi
    rw [count_miss hm, count_miss (by rw [hi]; rfl)]
    rfl
  · have hge := index_ge u old
    obtain ⟨i, hiu⟩ : ∃ i : Nat, index u old = i := ⟨(index u old).toNat, by omega⟩
    have hic : index (c :: u) old = ((i + 1 : Nat) : Int) := by
      rw [hi, hiu, if_neg (by simp)]
      simp
    have e : (c :: u).drop (i + 1 + old.length) = u.drop (i + old.length) := by
      rw [show i + 1 + old.length = (i + old.length) + 1 by omega]; rfl
    rw [count_hit h0 hic, count_hit h0 hiu, Nat.add_comm 1, Nat.add_comm 1, replaceK_hit _ _ _ _ _ hic, replaceK_hit _ _ _ _ _ hiu, e]
    rfl
theorem ra_hit {u old new : Bs} (hne : ¬ (old == new) = true) (h0 : old ≠ []) : replaceAll (old ++ u) old new = new ++ replaceAll u old new := by
  rw [ra_def hne, ra_def hne]
  have hi : index (old ++ u) old = ((0 : Nat) : Int) := by
    cases old with
    | nil => exact absurd rfl h0
    | cons a t =>
      rw [List.cons_append, index, if_pos]
      · rfl
      · rw [← List.cons_append]; simp
  have e : (old ++ u).drop (0 + old.length) = u := by simp
  rw [count_hit h0 hi, e, Nat.add_comm 1, replaceK_hit _ _ _ _ _ hi, e]
  simp
theorem ra_nil {old new : Bs} (hne : ¬ (old == new) = true) (h0 : old ≠ []) : replaceAll [] old new = [] := by
  rw [ra_def hne]
  have : index [] old = -1 := by rw [index, if_neg]; simpa using h0
  rw [count_miss this]
  rfl
/-- what stands between quotes, and what it says -/
inductive Pd : Bs → Bs → Prop
  | nil : Pd [] []
  | one (c : UInt8) (u p : Bs) : c.toNat ≠ 39 → Pd u p → Pd (c :: u) (c :: p)
  | two (u p : Bs) : Pd u p → Pd (39 :: 39 :: u) (39 :: p)
theorem Pd.append {u p v q : Bs} (h : Pd u p) (k : Pd v q) : Pd (u ++ v) (p ++ q) := by
  induction h with
  | nil => exact k
  | one c u p hc _ ih => exact .one c _ _ hc ih
  | two u p _ ih => exact .two _ _ ih
theorem Pd.says {u p : Bs} (h : Pd u p) : replaceAll u [39, 39] [39] = p := by
  have hne : ¬ (([39, 39] : Bs) == [39]) = true := by decide
  induction h with
  | nil => exact ra_nil hne (by decide)
  | one c u p hc _ ih =>
    rw [ra_skip hne (by decide), ih]
    have hb : ((39 : UInt8) == c) = false := by rw [beq_eq_false_iff_ne]; intro e; exact hc (by rw [← e]; rfl)
    rw [List.isPrefixOf_cons_cons, hb]
    rfl
  | two u p _ ih =>
    have := ra_hit (u := u) (old := [39, 39]) (new := [39]) hne (by decide)
    rw [ih] at this
    exact this
theorem txt_one {c : UInt8} {l : Bs} (h : c.toNat ≠ 39) : txt (c :: l) = (txt l).map (fun x => (c :: x.1, x.2 + 1)) := by
  cases l with
  | nil => simp [txt, h]
  | cons d r => conv => lhs; unfold txt
                rw [if_neg h]
theorem txt_two (c d : UInt8) (l : Bs) (hc : c.toNat = 39) (hd : d.toNat = 39) : txt (c :: d :: l) = (txt l).map (fun x => (c :: x.1, x.2 + 2)) := by
  conv => lhs; unfold txt
  rw [if_pos hc, if_pos hd]
theorem txt_end {c : UInt8} {l : Bs} (hc : c.toNat = 39) (h : hd l ≠ 39) : txt (c :: l) = some ([], 1) := by
  cases l with
  | nil => simp [txt, hc]
  | cons d r =>
    unfold txt
    rw [if_pos hc, if_neg (show ¬ d.toNat = 39 from h)]
theorem cutQ_text {l : Bs} (h : hd l = 39) : cutQ l = match txt (l.drop 1) with | none => (0, [], 0, 0) | some x => (6, x.1, 0, x.2 + 1) := by
  cases l with
  | nil => simp [hd] at h
  | cons c r =>
    have h' : c.toNat = 39 := h
    have e : (c :: r).drop 1 = r := rfl
    unfold cutQ cut
    rw [e]
    simp only [h', show isB 39 = false from rfl, show isL 39 = false from rfl, show isD 39 = false from rfl, show isO 39 = false from rfl]
    cases txt r <;> simp
theorem cutQ_int {l : Bs} (h : isD (hd l) = true) : cutQ l = if numOf (l.take (digLen l)) ≤ 1073741824 then (4, [], numOf (l.take (digLen l)), digLen l) else (0, [], 0, 0) := by
  cases l with
  | nil => simp [hd, isD] at h
  | cons c r =>
    have h' : isD c.toNat = true := h
    have h2 := h'
    rw [isD_iff] at h2
    have hb : isB c.toNat = false := by rw [Bool.eq_false_iff]; intro h3; rw [isB_iff] at h3; omega
    have hL : isL c.toNat = false := by rw [Bool.eq_false_iff]; intro h3; rw [isL_iff] at h3; omega
    have hq : ¬ c.toNat = 34 := by omega
    unfold cutQ cut
    simp only [hb, hL, hq, h', if_true, if_false, Bool.false_eq_true]
    by_cases hn : numOf ((c :: r).take (digLen (c :: r))) ≤ 1073741824
    · rw [if_pos hn, if_pos hn]
    · rw [if_neg hn, if_neg hn]
theorem numOf_snoc (l : Bs) (c : UInt8) : numOf (l ++ [c]) = 10 * numOf l + (c.toNat - 48) := by simp [numOf]
theorem numOf_take {l : Bs} {k : Nat} (hk : k < l.length) : numOf (l.take (k + 1)) = 10 * numOf (l.take k) + (hd (l.drop k) - 48) := by
  rw [List.take_succ_eq_append_getElem hk, numOf_snoc, hd_drop hk]
theorem numOf_mono {l : Bs} {k n : Nat} (h : k ≤ n) (hn : n ≤ l.length) : numOf (l.take k) ≤ numOf (l.take n) := by
  induction n with
  | zero => have : k = 0 := by omega
            subst this; exact Nat.le_refl _
  | succ n ih =>
    by_cases e : k = n + 1
    · subst e; exact Nat.le_refl _
    · have := ih (by omega) (by omega)
      rw [numOf_take (by omega)]
      omega
end Go.Proofs.YtimlomobbnnehaaDoor

