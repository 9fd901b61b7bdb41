import Derived.Test.YtimlomobbnnehaaDoorLPc
namespace Go.Proofs.YtimlomobbnnehaaDoor
open Go.RowKit Go.Maps
set_option linter.unusedVariables false
set_option linter.unusedSimpArgs false
/-- what stands between two tokens and is none -/
def Gap (g : Bs) : Prop := g = [32, 9, 10, 13, 32] ∨ ∃ b : Bs, (∀ c ∈ b, c.toNat ≠ 34) ∧ g = 34 :: (b ++ [34])
theorem cmt_of : ∀ (b r : Bs), (∀ c ∈ b, c.toNat ≠ 34) → cmt (b ++ 34 :: r) = some (b.length + 1) := by
  intro b
  induction b with
  | nil => intro r _; rfl
  | cons c b ih =>
    intro r h
    rw [List.cons_append]
    unfold cmt
    rw [if_neg (h c (by simp)), ih r (fun x hx => h x (by simp [hx]))]
    rfl
theorem Lx.blankAs {p : Nat} {c : UInt8} {l : Bs} {ts : List (Tok × Nat)} {e : Option Nat} (hc : isB c.toNat = true) (h : Lx (p + 1) l ts e) : Lx p (c :: l) ts e :=
  .pass _ _ 1 _ _ (by unfold cut; simp [hc]) h
theorem Lx.gap {p : Nat} {g l : Bs} {ts : List (Tok × Nat)} {e : Option Nat} (hg : Gap g) (h : Lx (p + g.length) l ts e) : Lx p (g ++ l) ts e ∧ Gs (g ++ l) := by
  rcases hg with rfl | ⟨b, hb, rfl⟩
  · refine ⟨?_, Or.inr (Or.inl rfl)⟩
    exact blankAs rfl (blankAs rfl (blankAs rfl (blankAs rfl (blankAs rfl h))))
  · refine ⟨?_, Or.inr (Or.inr rfl)⟩
    have e1 : (34 :: (b ++ [34]) ++ l : Bs) = 34 :: (b ++ 34 :: l) := by simp
    have e2 : cut (34 :: (b ++ 34 :: l)) = some (none, b.length + 2) := by
      unfold cut
      have h1 : isB (34 : UInt8).toNat = false := rfl
      have h2 : (34 : UInt8).toNat = 34 := rfl
      simp only [h1, h2, Bool.false_eq_true, if_false, if_true, cmt_of b l hb]
      rfl
    rw [e1]
    refine .pass _ _ _ _ _ e2 ?_
    have e3 : (34 :: (b ++ 34 :: l) : Bs).drop (b.length + 2) = l := by
      rw [show (34 :: (b ++ 34 :: l) : Bs) = (34 :: (b ++ [34])) ++ l by simp, List.drop_append_of_le_length (by simp), List.drop_eq_nil_of_le (by simp)]
      rfl
    rw [e3]
    simpa [Nat.add_assoc] using h
theorem sh_get (d : Nat) (ts : List (Tok × Nat)) {j : Nat} (hj : j < ts.length) : (Lx.sh d ts).getD j noT = ((ts.getD j noT).1, (ts.getD j noT).2 + d) := by
  unfold Lx.sh
  rw [List.getD_eq_getElem?_getD, List.getElem?_map, List.getElem?_eq_getElem hj, List.getD_eq_getElem?_getD, List.getElem?_eq_getElem hj]
  rfl
/-- a source with a gap ahead of its token k -/
theorem Lx.gapped {l g : Bs} {us : List (Tok × Nat)} (h : Lx 0 l us none) (hg : Gap g) {k : Nat} (hk : k ≤ us.length) :
    ((us ++ [(stopT, l.length)]).getD k noT).2 ≤ l.length ∧
    ∃ vs, Lx 0 (l.take ((us ++ [(stopT, l.length)]).getD k noT).2 ++ (g ++ l.drop ((us ++ [(stopT, l.length)]).getD k noT).2)) vs none ∧ vs.length = us.length ∧
      ∀ j, j ≤ us.length → ((vs ++ [(stopT, l.length + g.length)]).getD j noT).1 = ((us ++ [(stopT, l.length)]).getD j noT).1 ∧
        ((vs ++ [(stopT, l.length + g.length)]).getD j noT).2 = ((us ++ [(stopT, l.length)]).getD j noT).2 + if k ≤ j then g.length else 0 := by
  obtain ⟨p, hp, hpl, hcase⟩ : ∃ p, p = ((us ++ [(stopT, l.length)]).getD k noT).2 ∧ p ≤ l.length ∧ ((us.drop k = [] ∧ p = l.length) ∨ ∃ t rest, us.drop k = (t, 0 + p) :: rest) := by
    refine ⟨_, rfl, ?_⟩
    by_cases hn : k < us.length
    · rw [getD_mid us _ hn]
      have h4 := (h.places.1 us[k] (List.getElem_mem hn)).2
      rw [Nat.zero_add] at h4
      exact ⟨by omega, Or.inr ⟨us[k].1, us.drop (k + 1), by rw [List.drop_eq_getElem_cons hn, Nat.zero_add]⟩⟩
    · have he : k = us.length := by omega
      subst he
      rw [getD_last]
      exact ⟨Nat.le_refl _, Or.inl ⟨by simp, rfl⟩⟩
  rw [← hp]
  refine ⟨hpl, us.take k ++ sh g.length (us.drop k), ?_, by simp [sh]; omega, ?_⟩
  · obtain ⟨_, h1, h2⟩ := h.split rfl (us.take k) (us.drop k) p (List.take_append_drop k us).symm hpl hcase
    have h3 := h2.shift g.length
    have hl : (l.take p).length = p := by simp; omega
    have h4 := gap (p := 0 + (l.take p).length) hg (by rw [hl]; exact h3)
    exact join h4.2 h1 rfl h4.1
  · intro j hj
    have hlk : (us.take k).length = k := by simp; omega
    have e1 : (us ++ [(stopT, l.length)]) = us.take k ++ (us.drop k ++ [(stopT, l.length)]) := by rw [← List.append_assoc, List.take_append_drop]
    have e2 : us.take k ++ sh g.length (us.drop k) ++ [(stopT, l.length + g.length)] = us.take k ++ sh g.length (us.drop k ++ [(stopT, l.length)]) := by simp [sh]
    rw [e1, e2]
    by_cases hkj : k ≤ j
    · rw [if_pos hkj]
      have e3 : ∀ ys : List (Tok × Nat), (us.take k ++ ys).getD j noT = ys.getD (j - k) noT := fun ys => by
        rw [List.getD_eq_getElem?_getD, List.getElem?_append_right (by omega), hlk, List.getD_eq_getElem?_getD]
      rw [e3, e3, sh_get _ _ (by simp; omega)]
      exact ⟨rfl, rfl⟩
    · rw [if_neg hkj]
      have e3 : ∀ ys : List (Tok × Nat), (us.take k ++ ys).getD j noT = (us.take k).getD j noT := fun ys => by
        rw [List.getD_eq_getElem?_getD, List.getElem?_append_left (by omega), List.getD_eq_getElem?_getD]
      rw [e3, e3]
      exact ⟨rfl, rfl⟩
end Go.Proofs.YtimlomobbnnehaaDoor

