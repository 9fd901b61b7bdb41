import Derived.Test.YtimlomobbnnehaaDoorLPure
namespace Go.Proofs.YtimlomobbnnehaaDoor
set_option linter.unusedVariables false
set_option linter.unusedSimpArgs false
theorem hd_drop {l : Bs} {k : Nat} (h : k < l.length) : hd (l.drop k) = l[k].toNat := by
  rw [List.drop_eq_getElem_cons h]; rfl
theorem hd_drop_end {l : Bs} {k : Nat} (h : l.length ≤ k) : hd (l.drop k) = 256 := by rw [List.drop_eq_nil_of_le h]; rfl
theorem tw_hd (p : UInt8 → Bool) : ∀ (l : Bs) (k : Nat), k < (l.takeWhile p).length → ∃ c : UInt8, hd (l.drop k) = c.toNat ∧ p c = true := by
  intro l
  induction l with
  | nil => intro k h; simp at h
  | cons c r ih =>
    intro k h
    rw [List.takeWhile_cons] at h
    by_cases hp : p c = true
    · rw [if_pos hp] at h
      cases k with
      | zero => exact ⟨c, rfl, hp⟩
      | succ k => exact ih k (by simpa using h)
    · rw [if_neg hp] at h; simp at h
theorem nameLen_last {l : Bs} (h : 0 < nameLen l) : isW (hd (l.drop (nameLen l - 1))) = true := by
  unfold nameLen at *
  split at h
  · rename_i hl
    rw [if_pos hl]
    obtain ⟨c, e, hc⟩ := tw_hd wN l ((l.takeWhile wN).length - 1) (by omega)
    rw [e]; exact hc
  · omega
theorem cmt_last : ∀ (l : Bs) (n : Nat), cmt l = some n → hd (l.drop (n - 1)) = 34 := by
  intro l
  induction l with
  | nil => intro n h; simp [cmt] at h
  | cons c r ih =>
    intro n h
    unfold cmt at h
    by_cases hc : c.toNat = 34
    · rw [if_pos hc] at h; simp at h; subst h; exact hc
    · rw [if_neg hc] at h
      obtain ⟨y, hy, rfl⟩ := Option.map_eq_some_iff.1 h
      have h1 := cmt_n _ _ hy
      have := ih y hy
      obtain ⟨m, rfl⟩ : ∃ m, y = m + 1 := ⟨y - 1, by omega⟩
      exact this
theorem txt_last : ∀ (k : Nat) (l : Bs) (x : Bs × Nat), l.length ≤ k → txt l = some x → hd (l.drop (x.2 - 1)) = 39 := by
  intro k
  induction k with
  | zero => intro l x hk h; have : l = [] := List.length_eq_zero_iff.1 (by omega); subst this; simp [txt] at h
  | succ k ih =>
    intro l x hk h
    cases l with
    | nil => simp [txt] at h
    | cons c l =>
      cases l with
      | nil =>
        unfold txt at h
        by_cases hc : c.toNat = 39
        · rw [if_pos hc] at h; simp at h; subst h; exact hc
        · rw [if_neg hc] at h; cases h
      | cons d r =>
        unfold txt at h
        by_cases hc : c.toNat = 39
        · rw [if_pos hc] at h
          by_cases hd' : d.toNat = 39
          · rw [if_pos hd'] at h
            obtain ⟨y, hy, rfl⟩ := Option.map_eq_some_iff.1 h
            have h1 := txt_n _ _ hy
            have := ih r y (by simp at hk; omega) hy
            obtain ⟨t, m⟩ := y
            obtain ⟨m, rfl⟩ : ∃ m', m = m' + 1 := ⟨m - 1, by simp at h1; omega⟩
            exact this
          · rw [if_neg hd'] at h; simp at h; subst h; exact hc
        · rw [if_neg hc] at h
          obtain ⟨y, hy, rfl⟩ := Option.map_eq_some_iff.1 h
          have h1 := txt_n _ _ hy
          have := ih (d :: r) y (by simp at hk ⊢; omega) hy
          obtain ⟨t, m⟩ := y
          obtain ⟨m, rfl⟩ : ∃ m', m = m' + 1 := ⟨m - 1, by simp at h1; omega⟩
          exact this
theorem kwLen_next {l : Bs} (h : kwLen l ≠ 0) : hd (l.drop (kwLen l)) ≠ 61 := by
  unfold kwLen at *
  split at h
  · rename_i h1
    rw [if_pos h1]
    have h2 := h1.2
    unfold colonAt at h2
    have := (of_decide_eq_true h2).2
    rw [List.drop_drop] at this
    exact this
  · omega
theorem kwsF_next (f : Nat) : ∀ l : Bs, kwsF f l ≠ 0 → hd (l.drop (kwsF f l)) ≠ 61 := by
  induction f with
  | zero => intro l h; exact absurd rfl h
  | succ f ih =>
    intro l h
    unfold kwsF at h ⊢
    by_cases hk : kwLen l = 0
    · rw [if_pos hk] at h; omega
    · rw [if_neg hk]
      by_cases h2 : kwsF f (l.drop (kwLen l)) = 0
      · rw [h2]; exact kwLen_next hk
      · have := ih _ h2
        rw [List.drop_drop] at this
        exact this
theorem opLen_last {l : Bs} (h : 0 < opLen l) : isO (hd (l.drop (opLen l - 1))) = true := by
  unfold opLen at *
  split at h
  · rename_i ho
    rw [if_pos ho]
    split
    · rename_i h2; exact h2.1
    · exact ho
  · omega
theorem cut_nn {l : Bs} {x : Option Tok} {n : Nat} (h : cut l = some (x, n)) (h58 : hd (l.drop (n - 1)) = 58) : hd (l.drop n) ≠ 61 := by
  unfold cut at h
  split at h
  · cases h
  · rename_i c r
    split at h
    · rename_i hb
      simp at h
      rw [← h.2] at h58
      have e : c.toNat = 58 := h58
      rw [isB_iff] at hb; omega
    split at h
    · obtain ⟨y, hy, e⟩ := Option.map_eq_some_iff.1 h
      simp at e
      have h1 := cmt_n _ _ hy
      have h2 := cmt_last _ _ hy
      obtain ⟨m, rfl⟩ : ∃ m, y = m + 1 := ⟨y - 1, by omega⟩
      rw [← e.2] at h58
      have e3 : hd (r.drop m) = 58 := h58
      have e4 : hd (r.drop m) = 34 := h2
      omega
    split at h
    · rename_i hl
      have h1 := nameLen_pos (l := c :: r) hl
      split at h
      · rename_i hc
        simp at h
        rw [← h.2]
        unfold colonAt at hc
        have := (of_decide_eq_true hc).2
        rw [List.drop_drop] at this
        exact this
      · simp at h
        rw [← h.2] at h58
        have := nameLen_last (l := c :: r) (by omega)
        rw [h58] at this
        exact absurd this (by decide)
    split at h
    · rename_i hl
      split at h
      · simp at h
        have h1 := digLen_pos (l := c :: r) hl
        rw [← h.2] at h58
        obtain ⟨d, e, hdd⟩ := tw_hd dN (c :: r) (digLen (c :: r) - 1) (by unfold digLen at *; omega)
        rw [e] at h58
        unfold dN at hdd
        rw [h58] at hdd
        exact absurd hdd (by decide)
      · cases h
    split at h
    · split at h
      · split at h
        · rename_i h40
          simp at h
          rw [← h.2] at h58
          have e : hd r = 58 := h58
          omega
        · cases h
      · rename_i hs
        simp at h
        rw [← h.2] at h58 ⊢
        have e : hd (r.drop (symLen r - 1)) = 58 := by
          obtain ⟨m, hm⟩ : ∃ m, symLen r = m + 1 := ⟨symLen r - 1, by omega⟩
          rw [hm] at h58 ⊢
          exact h58
        show hd (r.drop (symLen r)) ≠ 61
        unfold symLen at *
        by_cases hk : kwsLen r = 0
        · rw [if_pos hk] at e hs
          exfalso
          by_cases hle : nameLen r ≤ opLen r
          · rw [Nat.max_eq_right hle] at e hs
            have := opLen_last (l := r) (by omega)
            rw [e] at this
            exact absurd this (by decide)
          · rw [Nat.max_eq_left (by omega)] at e hs
            have := nameLen_last (l := r) (by omega)
            rw [e] at this
            exact absurd this (by decide)
        · rw [if_neg hk]
          exact kwsF_next _ r hk
    split at h
    · rename_i ho
      simp at h
      have h3 : 1 ≤ opLen (c :: r) := by unfold opLen; rw [if_pos (show isO (hd (c :: r)) = true from ho)]; split <;> omega
      rw [← h.2] at h58
      have := opLen_last (l := c :: r) (by omega)
      rw [h58] at this
      exact absurd this (by decide)
    split at h
    · obtain ⟨y, hy, e⟩ := Option.map_eq_some_iff.1 h
      simp at e
      have h1 := txt_n _ _ hy
      have h2 := txt_last _ _ _ (Nat.le_refl _) hy
      obtain ⟨t, y⟩ := y
      obtain ⟨m, rfl⟩ : ∃ m, y = m + 1 := ⟨y - 1, by simp at h1; omega⟩
      rw [← e.2] at h58
      have e3 : hd (r.drop m) = 58 := h58
      have e4 : hd (r.drop m) = 39 := h2
      omega
    split at h
    · rename_i h2
      simp at h
      rw [← h.2] at h58
      have e : hd r = 58 := h58
      omega
    split at h
    · cases h
    · rename_i h2 _
      simp at h
      rw [← h.2] at h58 ⊢
      intro h61
      exact h2 ⟨h58, h61⟩
theorem nn_of {l : Bs} {k : Nat} (h1 : 1 ≤ k) (h2 : k ≤ l.length) (h : hd (l.drop (k - 1)) = 58 → hd (l.drop k) ≠ 61) : Nn (l.take k) (l.drop k) := by
  intro h3
  apply h
  rw [hd_drop (by omega)]
  rw [List.getLast?_take, if_neg (by omega)] at h3
  rw [List.getElem?_eq_getElem (by omega)] at h3
  simpa using h3
/-! sources as tokens, with their places; an error, with its place -/
inductive Lx : Nat → Bs → List (Tok × Nat) → Option Nat → Prop
  | stop (p : Nat) : Lx p [] [] none
  | bad (p : Nat) (l : Bs) : l ≠ [] → cut l = none → Lx p l [] (some p)
  | pass (p : Nat) (l : Bs) (n : Nat) (ts : List (Tok × Nat)) (e : Option Nat) : cut l = some (none, n) → Lx (p + n) (l.drop n) ts e → Lx p l ts e
  | tok (p : Nat) (l : Bs) (t : Tok) (n : Nat) (ts : List (Tok × Nat)) (e : Option Nat) : cut l = some (some t, n) → Lx (p + n) (l.drop n) ts e → Lx p l ((t, p) :: ts) e
theorem cut_nil : cut [] = none := rfl
namespace Lx
theorem inv {p : Nat} {l : Bs} {ts : List (Tok × Nat)} {e : Option Nat} (h : Lx p l ts e) : (l = [] ∧ ts = [] ∧ e = none) ∨ (l ≠ [] ∧ cut l = none ∧ ts = [] ∧ e = some p) ∨ (∃ n, cut l = some (none, n) ∧ Lx (p + n) (l.drop n) ts e) ∨ (∃ t n ts', cut l = some (some t, n) ∧ ts = (t, p) :: ts' ∧ Lx (p + n) (l.drop n) ts' e) := by
  cases h
  · exact Or.inl ⟨rfl, rfl, rfl⟩
  · rename_i h1 h2; exact Or.inr (Or.inl ⟨h1, h2, rfl, rfl⟩)
  · rename_i n h1 h2; exact Or.inr (Or.inr (Or.inl ⟨n, h1, h2⟩))
  · rename_i t n ts h1 h2; exact Or.inr (Or.inr (Or.inr ⟨t, n, ts, h1, rfl, h2⟩))
theorem unique {p : Nat} {l : Bs} {ts : List (Tok × Nat)} {e : Option Nat} (h : Lx p l ts e) : ∀ {ts' : List (Tok × Nat)} {e' : Option Nat}, Lx p l ts' e' → ts' = ts ∧ e' = e := by
  induction h with
  | stop p =>
    intro ts' e' h'
    rcases h'.inv with ⟨_, h1, h2⟩ | ⟨h1, _⟩ | ⟨n, h1, _⟩ | ⟨t, n, ts2, h1, _⟩
    · exact ⟨h1, h2⟩
    · exact absurd rfl h1
    · cases h1
    · cases h1
  | bad p l g1 g2 =>
    intro ts' e' h'
    rcases h'.inv with ⟨h1, _⟩ | ⟨_, _, h1, h2⟩ | ⟨n, h1, _⟩ | ⟨t, n, ts2, h1, _⟩
    · exact absurd h1 g1
    · exact ⟨h1, h2⟩
    · rw [g2] at h1; cases h1
    · rw [g2] at h1; cases h1
  | pass p l n ts e g1 g2 ih =>
    intro ts' e' h'
    rcases h'.inv with ⟨h1, _⟩ | ⟨_, h1, _⟩ | ⟨m, h1, h2⟩ | ⟨t, m, ts2, h1, _⟩
    · subst h1; cases g1
    · rw [g1] at h1; cases h1
    · rw [g1] at h1; cases h1; exact ih h2
    · rw [g1] at h1; cases h1
  | tok p l t n ts e g1 g2 ih =>
    intro ts' e' h'
    rcases h'.inv with ⟨h1, _⟩ | ⟨_, h1, _⟩ | ⟨m, h1, h2⟩ | ⟨t', m, ts2, h1, h2, h3⟩
    · subst h1; cases g1
    · rw [g1] at h1; cases h1
    · rw [g1] at h1; cases h1
    · rw [g1] at h1; cases h1; obtain ⟨rfl, rfl⟩ := ih h3; exact ⟨h2, rfl⟩
theorem total : ∀ (k : Nat) (p : Nat) (l : Bs), l.length ≤ k → ∃ ts e, Lx p l ts e := by
  intro k
  induction k with
  | zero => intro p l hk; have : l = [] := List.length_eq_zero_iff.1 (by omega); subst this; exact ⟨_, _, .stop p⟩
  | succ k ih =>
    intro p l hk
    by_cases hl : l = []
    · subst hl; exact ⟨_, _, .stop p⟩
    · cases hc : cut l with
      | none => exact ⟨_, _, .bad p l hl hc⟩
      | some x =>
        obtain ⟨x, n⟩ := x
        have hn := cut_n hc
        obtain ⟨ts, e, h⟩ := ih (p + n) (l.drop n) (by simp; omega)
        cases x with
        | none => exact ⟨_, _, .pass p l n ts e hc h⟩
        | some t => exact ⟨_, _, .tok p l t n ts e hc h⟩
theorem places {p : Nat} {l : Bs} {ts : List (Tok × Nat)} {e : Option Nat} (h : Lx p l ts e) : (∀ x ∈ ts, p ≤ x.2 ∧ x.2 < p + l.length) ∧ ts.length ≤ l.length ∧ ∀ q, e = some q → p ≤ q ∧ q < p + l.length := by
  induction h with
  | stop p => simp
  | bad p l h1 h2 =>
    have := List.length_pos_iff.2 h1
    refine ⟨by simp, by simp, ?_⟩
    rintro q e
    cases e
    omega
  | pass p l n ts e h1 h2 ih =>
    have := cut_n h1
    simp only [List.length_drop] at ih
    exact ⟨fun x hx => by have := ih.1 x hx; omega, by omega, fun q hq => by have := ih.2.2 q hq; omega⟩
  | tok p l t n ts e h1 h2 ih =>
    have := cut_n h1
    simp only [List.length_drop] at ih
    refine ⟨fun x hx => ?_, by simp; omega, fun q hq => by have := ih.2.2 q hq; omega⟩
    rcases List.mem_cons.1 hx with rfl | hx
    · simp; omega
    · have := ih.1 x hx; omega
def sh (d : Nat) (ts : List (Tok × Nat)) : List (Tok × Nat) := ts.map fun x => (x.1, x.2 + d)
theorem shift {p : Nat} {l : Bs} {ts : List (Tok × Nat)} {e : Option Nat} (d : Nat) (h : Lx p l ts e) : Lx (p + d) l (sh d ts) (e.map (· + d)) := by
  induction h with
  | stop p => exact .stop _
  | bad p l h1 h2 => exact .bad _ _ h1 h2
  | pass p l n ts e h1 h2 ih => exact .pass _ _ n _ _ h1 (by rw [show p + d + n = p + n + d by omega]; exact ih)
  | tok p l t n ts e h1 h2 ih => exact .tok _ _ t n _ _ h1 (by rw [show p + d + n = p + n + d by omega]; exact ih)
theorem down {q : Nat} {l : Bs} {ts : List (Tok × Nat)} (h : Lx q l ts none) : ∃ ts0, Lx 0 l ts0 none ∧ ts = sh q ts0 := by
  obtain ⟨ts0, e0, h0⟩ := total l.length 0 l (Nat.le_refl _)
  have h1 := h0.shift q
  rw [Nat.zero_add] at h1
  obtain ⟨rfl, h2⟩ := h.unique h1
  cases e0 with
  | none => exact ⟨ts0, h0, rfl⟩
  | some x => cases h2
theorem join {p : Nat} {A R : Bs} {ts ts' : List (Tok × Nat)} {e e' : Option Nat} (hG : Gs R) (h : Lx p A ts e) (he : e = none) (h' : Lx (p + A.length) R ts' e') : Lx p (A ++ R) (ts ++ ts') e' := by
  have hN : ∀ A : Bs, Nn A [] := fun A _ => by simp [hd]
  induction h with
  | stop p => simpa using h'
  | bad p l h1 h2 => cases he
  | pass p l n ts e h1 h2 ih =>
    have hn := cut_n h1
    refine .pass _ _ n _ _ (cut_ext (B := []) hG (hN _) (by simpa using h1) hn.2) ?_
    rw [List.drop_append_of_le_length hn.2]
    exact ih he (by rw [List.length_drop, show p + n + (l.length - n) = p + l.length by omega]; exact h')
  | tok p l t n ts e h1 h2 ih =>
    have hn := cut_n h1
    refine .tok _ _ t n _ _ (cut_ext (B := []) hG (hN _) (by simpa using h1) hn.2) ?_
    rw [List.drop_append_of_le_length hn.2]
    exact ih he (by rw [List.length_drop, show p + n + (l.length - n) = p + l.length by omega]; exact h')
/-- where the next token begins, or all is at its end: a source is cut asunder there -/
theorem split {p : Nat} {l : Bs} {ts : List (Tok × Nat)} {e : Option Nat} (h : Lx p l ts e) (he : e = none) : ∀ (pre post : List (Tok × Nat)) (k : Nat), ts = pre ++ post → k ≤ l.length → ((post = [] ∧ k = l.length) ∨ ∃ t rest, post = (t, p + k) :: rest) →
    Nn (l.take k) (l.drop k) ∧ Lx p (l.take k) pre none ∧ Lx (p + k) (l.drop k) post none := by
  have hG0 : Gs [] := Or.inl rfl
  induction h with
  | stop p =>
    intro pre post k h1 hk h2
    have e0 : pre = [] ∧ post = [] := by simpa using h1.symm
    obtain ⟨rfl, rfl⟩ := e0
    simp at hk
    subst hk
    exact ⟨fun h => by simp at h, .stop _, .stop _⟩
  | bad p l h1 h2 => cases he
  | pass p l n ts e h1 h2 ih =>
    intro pre post k e1 hk h3
    subst he
    have hn := cut_n h1
    have hpl := h2.places
    by_cases hk0 : k = 0
    · subst hk0
      exfalso
      rcases h3 with ⟨rfl, h3⟩ | ⟨t, rest, rfl⟩
      · omega
      · have := hpl.1 (t, p + 0) (by rw [e1]; simp)
        simp at this
        omega
    · have hnk : n ≤ k := by
        rcases h3 with ⟨rfl, h3⟩ | ⟨t, rest, rfl⟩
        · omega
        · have := (hpl.1 (t, p + k) (by rw [e1]; simp)).1
          simp at this
          omega
      obtain ⟨g1, g2, g3⟩ := ih rfl pre post (k - n) e1 (by simp; omega) (by
        rcases h3 with ⟨rfl, h3⟩ | ⟨t, rest, rfl⟩
        · exact Or.inl ⟨rfl, by simp; omega⟩
        · exact Or.inr ⟨t, rest, by rw [show p + n + (k - n) = p + k by omega]⟩)
      rw [List.drop_drop, show n + (k - n) = k by omega] at g1 g3
      rw [show p + n + (k - n) = p + k by omega] at g3
      have hN : Nn (l.take k) (l.drop k) := nn_of (by omega) hk (fun h58 => by
        by_cases hkn : k = n
        · subst hkn; exact cut_nn h1 h58
        · refine g1 ?_
          rw [List.getLast?_take, if_neg (by omega), List.getElem?_drop, List.getElem?_eq_getElem (by omega)]
          rw [hd_drop (by omega)] at h58
          simp [show n + (k - n - 1) = k - 1 by omega, h58])
      refine ⟨hN, .pass _ _ n _ _ ?_ ?_, g3⟩
      · have := cut_ext (A := l.take k) (B := l.drop k) (R := []) hG0 hN (by rw [List.take_append_drop]; exact h1) (by simp; omega)
        simpa using this
      · rw [List.drop_take]
        exact g2
  | tok p l t n ts e h1 h2 ih =>
    intro pre post k e1 hk h3
    subst he
    have hn := cut_n h1
    have hpl := h2.places
    cases pre with
    | nil =>
      rw [List.nil_append] at e1
      rcases h3 with ⟨rfl, h3⟩ | ⟨t', rest, rfl⟩
      · cases e1
      · injection e1 with e1 e2
        injection e1 with e1 e3
        have : k = 0 := by omega
        subst this
        refine ⟨fun h => by simp at h, .stop _, ?_⟩
        subst e1 e2
        exact .tok _ _ t n _ _ h1 h2
    | cons x pre =>
      rw [List.cons_append] at e1
      injection e1 with e0 e1
      subst e0
      have hnk : n ≤ k := by
        rcases h3 with ⟨rfl, h3⟩ | ⟨t', rest, rfl⟩
        · omega
        · have := (hpl.1 (t', p + k) (by rw [e1]; simp)).1
          simp at this
          omega
      obtain ⟨g1, g2, g3⟩ := ih rfl pre post (k - n) e1 (by simp; omega) (by
        rcases h3 with ⟨rfl, h3⟩ | ⟨t', rest, rfl⟩
        · exact Or.inl ⟨rfl, by simp; omega⟩
        · exact Or.inr ⟨t', rest, by rw [show p + n + (k - n) = p + k by omega]⟩)
      rw [List.drop_drop, show n + (k - n) = k by omega] at g1 g3
      rw [show p + n + (k - n) = p + k by omega] at g3
      have hN : Nn (l.take k) (l.drop k) := nn_of (by omega) hk (fun h58 => by
        by_cases hkn : k = n
        · subst hkn; exact cut_nn h1 h58
        · refine g1 ?_
          rw [List.getLast?_take, if_neg (by omega), List.getElem?_drop, List.getElem?_eq_getElem (by omega)]
          rw [hd_drop (by omega)] at h58
          simp [show n + (k - n - 1) = k - 1 by omega, h58])
      refine ⟨hN, .tok _ _ t n _ _ ?_ ?_, g3⟩
      · have := cut_ext (A := l.take k) (B := l.drop k) (R := []) hG0 hN (by rw [List.take_append_drop]; exact h1) (by simp; omega)
        simpa using this
      · rw [List.drop_take]
        exact g2
end Lx
end Go.Proofs.YtimlomobbnnehaaDoor

