import Derived.Test.YtjbacibicnfaeaaDoorLSameZ
namespace Go.Proofs.YtjbacibicnfaeaaDoor
open Go.RowKit Go.Maps
set_option linter.unusedVariables false
set_option linter.unusedSimpArgs false
theorem AgreeZ.tok {za zb : List Z} (h : AgreeZ za zb) : zb.map tokOf = za.map tokOf := by
  refine List.ext_getElem (by simp [h.1]) fun j h1 h2 => ?_
  rw [List.length_map] at h1 h2
  rw [List.getElem_map, List.getElem_map]
  obtain ⟨e1, e2, e3⟩ := h.2 j h2
  rw [List.getD_eq_getElem?_getD, List.getElem?_eq_getElem h1, List.getD_eq_getElem?_getD, List.getElem?_eq_getElem h2] at e1 e2 e3
  unfold tokOf
  rw [show zb[j].1 = za[j].1 from e1, show zb[j].2.1 = za[j].2.1 from e2, show zb[j].2.2.1 = za[j].2.2.1 from e3]
theorem AgreeZ.take {za zb : List Z} (h : AgreeZ za zb) (i : Nat) : pr ((zb.take i).map tokOf) = pr ((za.take i).map tokOf) := by
  rw [List.map_take, List.map_take, h.tok]
theorem AgreeZ.pr {za zb : List Z} (h : AgreeZ za zb) : prZ zb = prZ za := by
  unfold prZ
  rw [h.1]
  exact h.take _
theorem AgreeZ.good {za zb : List Z} (h : AgreeZ za zb) (g : goodZ za) : goodZ zb := by
  intro i hi
  rw [h.1] at hi
  obtain ⟨e1, e2, e3⟩ := h.2 i hi
  have := g i hi
  unfold okAt at this ⊢
  rw [e1, e2, e3, h.1]
  exact this
theorem nDig_le : ∀ (k u : Nat), u < 10 ^ (k + 1) → Lib.nDigits u ≤ k + 1 := by
  intro k
  induction k with
  | zero => intro u h; rw [Lib.nDigits_small (by simpa using h)]; exact Nat.le_refl _
  | succ k ih =>
    intro u h
    by_cases hu : u < 10
    · rw [Lib.nDigits_small hu]; omega
    · rw [Lib.nDigits_big hu]
      have := ih (u / 10) (by rw [Nat.pow_succ] at h; omega)
      omega
theorem wr_len {t : Tok} (h : canB t) : (wr t).length ≤ 2 * t.text.length + 12 := by
  obtain ⟨k, x, m⟩ := t
  obtain ⟨h0, h⟩ := h
  simp only at h0 h ⊢
  have hq := qt_len x
  rcases h with ⟨h1 | h1, h2⟩ | ⟨h1, h2⟩ | ⟨h1, h2, h3⟩ | ⟨h1, h2⟩ | h1 | ⟨h1, h2, h3⟩
  · subst h1
    show x.length ≤ _
    omega
  · subst h1
    show (x ++ [58]).length ≤ _
    simp
    omega
  · subst h1
    show x.length ≤ _
    omega
  · subst h1
    show (Lib.decDigits m).length ≤ _
    rw [Lib.decDigits_length]
    have := nDig_le 9 m (by omega)
    omega
  · subst h1
    show (35 :: x).length ≤ _
    simp
    omega
  · subst h1
    show (39 :: (qt x ++ [39])).length ≤ _
    simp
    omega
  · have : k = 7 ∨ k = 8 ∨ k = 9 ∨ k = 10 ∨ k = 11 ∨ k = 12 ∨ k = 13 ∨ k = 14 ∨ k = 15 ∨ k = 16 ∨ k = 17 := by omega
    rcases this with rfl | rfl | rfl | rfl | rfl | rfl | rfl | rfl | rfl | rfl | rfl <;> (unfold wr markT; simp)
theorem pr_len {zs : List Z} (g : goodZ zs) : ∀ i, i < zs.length → (pr ((zs.take i).map tokOf)).length ≤ 2 * wt (zs.take i) := by
  intro i
  induction i with
  | zero => intro _; exact Nat.zero_le _
  | succ i ih =>
    intro h
    have h1 := ih (by omega)
    obtain ⟨hc, h18⟩ := g i (by omega)
    have hne : (zs.getD i noZ).1 ≠ 18 := fun e => by have := h18.1 e; omega
    obtain ⟨c1, _, _, c4⟩ := tok_can hc hne
    have h2 := wr_len c1
    rw [c4] at h2
    rw [prZ_step (by omega), wt_step (by omega)]
    split
    · omega
    · rw [List.length_append, List.length_cons]
      omega
end Go.Proofs.YtjbacibicnfaeaaDoor
