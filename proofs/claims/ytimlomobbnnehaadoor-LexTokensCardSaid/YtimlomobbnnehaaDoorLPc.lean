import Derived.Test.YtimlomobbnnehaaDoorLLaw
namespace Go.Proofs.YtimlomobbnnehaaDoor
open Go.RowKit Go.Maps
set_option linter.unusedVariables false
set_option linter.unusedSimpArgs false
theorem RdT.lt {w : World} {g n cap : Nat} {ts : List (Tok × Nat)} (h : RdT w (.slice (some ⟨g, 0, none⟩) n cap) ts) (h0 : 0 < ts.length) : g < w.heap.size := by
  obtain ⟨p, c, e, hp⟩ := h.at_
  injection e with e1 e2 e3
  obtain ⟨b, off, e4, hb, hc⟩ := hp h0
  subst e1
  injection e4 with e4
  injection e4 with e5 e6
  subst e5
  exact hb
theorem Lx.first {p : Nat} {l : Bs} {t : Tok} {rest : List (Tok × Nat)} {e : Option Nat} (h : Lx p l ((t, p) :: rest) e) : ∀ x ∈ rest, p < x.2 := by
  intro x hx
  rcases h.inv with ⟨_, h1, _⟩ | ⟨_, _, h1, _⟩ | ⟨n, h1, h2⟩ | ⟨t', n, ts', h1, h2, h3⟩
  · cases h1
  · cases h1
  · exfalso
    have hn := cut_n h1
    have := (h2.places.1 (t, p) (by simp)).1
    simp at this
    omega
  · injection h2 with _ h2
    subst h2
    have hn := cut_n h1
    have := (h3.places.1 x hx).1
    omega
theorem Lx.ahead {l : Bs} {us : List (Tok × Nat)} (h : Lx 0 l us none) : Lx 0 (l.take ((us ++ [(stopT, l.length)]).getD 0 noT).2) [] none ∧ ((us ++ [(stopT, l.length)]).getD 0 noT).2 ≤ l.length := by
  cases us with
  | nil =>
    have := h.split rfl [] [] l.length rfl (Nat.le_refl _) (Or.inl ⟨rfl, rfl⟩)
    exact ⟨this.2.1, Nat.le_refl _⟩
  | cons x us =>
    have hp := (h.places.1 x (by simp)).2
    rw [Nat.zero_add] at hp
    have := h.split rfl [] (x :: us) x.2 rfl (by omega) (Or.inr ⟨x.1, us, by rw [Nat.zero_add]⟩)
    exact ⟨this.2.1, Nat.le_of_lt hp⟩
theorem getD_mid (us : List (Tok × Nat)) (z : Tok × Nat) {i : Nat} (hi : i < us.length) : (us ++ [z]).getD i noT = us[i] := by
  rw [List.getD_eq_getElem?_getD, List.getElem?_append_left hi, List.getElem?_eq_getElem hi]; rfl
theorem getD_last (us : List (Tok × Nat)) (z : Tok × Nat) : (us ++ [z]).getD us.length noT = z := by
  rw [List.getD_eq_getElem?_getD, List.getElem?_append_right (Nat.le_refl _)]; simp
/-- each piece of a source, alone -/
theorem Lx.piece {l : Bs} {us : List (Tok × Nat)} (h : Lx 0 l us none) {i : Nat} (hi : i < us.length) :
    ((us ++ [(stopT, l.length)]).getD i noT).2 < ((us ++ [(stopT, l.length)]).getD (i + 1) noT).2 ∧ ((us ++ [(stopT, l.length)]).getD (i + 1) noT).2 ≤ l.length ∧
    Lx 0 ((l.drop ((us ++ [(stopT, l.length)]).getD i noT).2).take (((us ++ [(stopT, l.length)]).getD (i + 1) noT).2 - ((us ++ [(stopT, l.length)]).getD i noT).2)) [(((us ++ [(stopT, l.length)]).getD i noT).1, 0)] none := by
  rw [getD_mid us _ hi]
  have hdr : us.drop i = us[i] :: us.drop (i + 1) := List.drop_eq_getElem_cons hi
  have hp := (h.places.1 us[i] (List.getElem_mem hi)).2
  rw [Nat.zero_add] at hp
  obtain ⟨_, _, h2⟩ := h.split rfl (us.take i) (us.drop i) us[i].2 (List.take_append_drop i us).symm (by omega) (Or.inr ⟨us[i].1, us.drop (i + 1), by rw [hdr, Nat.zero_add]⟩)
  rw [Nat.zero_add, hdr] at h2
  have hfi := h2.first
  obtain ⟨q, hq, hq1, hq2, hcase⟩ : ∃ q, q = ((us ++ [(stopT, l.length)]).getD (i + 1) noT).2 ∧ us[i].2 < q ∧ q ≤ l.length ∧ ((us.drop (i + 1) = [] ∧ q - us[i].2 = (l.drop us[i].2).length) ∨ ∃ t rest, us.drop (i + 1) = (t, us[i].2 + (q - us[i].2)) :: rest) := by
    refine ⟨_, rfl, ?_⟩
    by_cases hn : i + 1 < us.length
    · rw [getD_mid us _ hn]
      have hd2 : us.drop (i + 1) = us[i + 1] :: us.drop (i + 2) := List.drop_eq_getElem_cons hn
      have h3 := hfi us[i + 1] (hd2 ▸ List.mem_cons_self)
      have h4 := (h.places.1 us[i + 1] (List.getElem_mem hn)).2
      rw [Nat.zero_add] at h4
      exact ⟨h3, by omega, Or.inr ⟨us[i + 1].1, us.drop (i + 2), by rw [hd2, show us[i].2 + (us[i + 1].2 - us[i].2) = us[i + 1].2 by omega]⟩⟩
    · have he : i + 1 = us.length := by omega
      rw [he, getD_last]
      exact ⟨hp, Nat.le_refl _, Or.inl ⟨by simp, by simp⟩⟩
  rw [← hq]
  refine ⟨hq1, hq2, ?_⟩
  obtain ⟨_, h3, _⟩ := h2.split rfl [us[i]] (us.drop (i + 1)) (q - us[i].2) rfl (by simp; omega) hcase
  obtain ⟨ts0, h4, h5⟩ := h3.down
  have h6 : ts0 = [(us[i].1, 0)] := by
    cases ts0 with
    | nil => simp [Lx.sh] at h5
    | cons x r =>
      simp [Lx.sh] at h5
      obtain ⟨h7, h8⟩ := h5
      subst h8
      have h9 := congrArg Prod.fst h7
      have h10 := congrArg Prod.snd h7
      simp at h9 h10
      rw [h9]
      have : x.2 = 0 := by omega
      rw [← this]
  rw [h6] at h4
  exact h4
end Go.Proofs.YtimlomobbnnehaaDoor

