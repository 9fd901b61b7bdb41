import Derived.Test.YtimlomobbnnehaaGreatDoorLPure
import Derived.Test.YtimlomobbnnehaaGreatDoorChecked
import Derived.WalkKit
import Derived.BigCall
import Derived.Lib.OthersKept
import Derived.Laws.RangeAny
namespace Go.Proofs.YtimlomobbnnehaaGreatDoor
set_option linter.unusedVariables false
set_option linter.unusedSimpArgs false
theorem hd_drop {l : Bs} {k : Nat} (h : k < l.length) : hd (l.drop k) = l[k].toNat := by
  rw [List.drop_eq_getElem_cons h]; rfl
theorem hd_drop_end {l : Bs} {k : Nat} (h : l.length ≤ k) : hd (l.drop k) = 256 := by rw [List.drop_eq_nil_of_le h]; rfl
theorem tw_hd (p : UInt8 → Bool) : ∀ (l : Bs) (k : Nat), k < (l.takeWhile p).length → ∃ c : UInt8, hd (l.drop k) = c.toNat ∧ p c = true := by
  intro l
  induction l with
  | nil => intro k h; simp at h
  | cons c r ih =>
    intro k h
    rw [List.takeWhile_cons] at h
    by_cases hp : p c = true
    · rw [if_pos hp] at h
      cases k with
      | zero => exact ⟨c, rfl, hp⟩
      | succ k => exact ih k (by simpa using h)
    · rw [if_neg hp] at h; simp at h
theorem nameLen_last {l : Bs} (h : 0 < nameLen l) : isW (hd (l.drop (nameLen l - 1))) = true := by
  unfold nameLen at *
  split at h
  · rename_i hl
    rw [if_pos hl]
    obtain ⟨c, e, hc⟩ := tw_hd wN l ((l.takeWhile wN).length - 1) (by omega)
    rw [e]; exact hc
  · omega
theorem cmt_last : ∀ (l : Bs) (n : Nat), cmt l = some n → hd (l.drop (n - 1)) = 34 := by
  intro l
  induction l with
  | nil => intro n h; simp [cmt] at h
  | cons c r ih =>
    intro n h
    unfold cmt at h
    by_cases hc : c.toNat = 34
    · rw [if_pos hc] at h; simp at h; subst h; exact hc
    · rw [if_neg hc] at h
      obtain ⟨y, hy, rfl⟩ := Option.map_eq_some_iff.1 h
      have h1 := cmt_n _ _ hy
      have := ih y hy
      obtain ⟨m, rfl⟩ : ∃ m, y = m + 1 := ⟨y - 1, by omega⟩
      exact this
theorem txt_last : ∀ (k : Nat) (l : Bs) (x : Bs × Nat), l.length ≤ k → txt l = some x → hd (l.drop (x.2 - 1)) = 39 := by
  intro k
  induction k with
  | zero => intro l x hk h; have : l = [] := List.length_eq_zero_iff.1 (by omega); subst this; simp [txt] at h
  | succ k ih =>
    intro l x hk h
    cases l with
    | nil => simp [txt] at h
    | cons c l =>
      cases l with
      | nil =>
        unfold txt at h
        by_cases hc : c.toNat = 39
        · rw [if_pos hc] at h; simp at h; subst h; exact hc
        · rw [if_neg hc] at h; cases h
      | cons d r =>
        unfold txt at h
        by_cases hc : c.toNat = 39
        · rw [if_pos hc] at h
          by_cases hd' : d.toNat = 39
          · rw [if_pos hd'] at h
            obtain ⟨y, hy, rfl⟩ := Option.map_eq_some_iff.1 h
            have h1 := txt_n _ _ hy
            have := ih r y (by simp at hk; omega) hy
            obtain ⟨t, m⟩ := y
            obtain ⟨m, rfl⟩ : ∃ m', m = m' + 1 := ⟨m - 1, by simp at h1; omega⟩
            exact this
          · rw [if_neg hd'] at h; simp at h; subst h; exact hc
        · rw [if_neg hc] at h
          obtain ⟨y, hy, rfl⟩ := Option.map_eq_some_iff.1 h
          have h1 := txt_n _ _ hy
          have := ih (d :: r) y (by simp at hk ⊢; omega) hy
          obtain ⟨t, m⟩ := y
          obtain ⟨m, rfl⟩ : ∃ m', m = m' + 1 := ⟨m - 1, by simp at h1; omega⟩
          exact this
theorem kwLen_next {l : Bs} (h : kwLen l ≠ 0) : hd (l.drop (kwLen l)) ≠ 61 := by
  unfold kwLen at *
  split at h
  · rename_i h1
    rw [if_pos h1]
    have h2 := h1.2
    unfold colonAt at h2
    have := (of_decide_eq_true h2).2
    rw [List.drop_drop] at this
    exact this
  · omega
theorem kwsF_next (f : Nat) : ∀ l : Bs, kwsF f l ≠ 0 → hd (l.drop (kwsF f l)) ≠ 61 := by
  induction f with
  | zero => intro l h; exact absurd rfl h
  | succ f ih =>
    intro l h
    unfold kwsF at h ⊢
    by_cases hk : kwLen l = 0
    · rw [if_pos hk] at h; omega
    · rw [if_neg hk]
      by_cases h2 : kwsF f (l.drop (kwLen l)) = 0
      · rw [h2]; exact kwLen_next hk
      · have := ih _ h2
        rw [List.drop_drop] at this
        exact this
theorem opLen_last {l : Bs} (h : 0 < opLen l) : isO (hd (l.drop (opLen l - 1))) = true := by
  unfold opLen at *
  split at h
  · rename_i ho
    rw [if_pos ho]
    split
    · rename_i h2; exact h2.1
    · exact ho
  · omega
theorem cut_nn {l : Bs} {x : Option Tok} {n : Nat} (h : cut l = some (x, n)) (h58 : hd (l.drop (n - 1)) = 58) : hd (l.drop n) ≠ 61 := by
  unfold cut at h
  split at h
  · cases h
  · rename_i c r
    split at h
    · rename_i hb
      simp at h
      rw [← h.2] at h58
      have e : c.toNat = 58 := h58
      rw [isB_iff] at hb; omega
    split at h
    · obtain ⟨y, hy, e⟩ := Option.map_eq_some_iff.1 h
      simp at e
      have h1 := cmt_n _ _ hy
      have h2 := cmt_last _ _ hy
      obtain ⟨m, rfl⟩ : ∃ m, y = m + 1 := ⟨y - 1, by omega⟩
      rw [← e.2] at h58
      have e3 : hd (r.drop m) = 58 := h58
      have e4 : hd (r.drop m) = 34 := h2
      omega
    split at h
    · rename_i hl
      have h1 := nameLen_pos (l := c :: r) hl
      split at h
      · rename_i hc
        simp at h
        rw [← h.2]
        unfold colonAt at hc
        have := (of_decide_eq_true hc).2
        rw [List.drop_drop] at this
        exact this
      · simp at h
        rw [← h.2] at h58
        have := nameLen_last (l := c :: r) (by omega)
        rw [h58] at this
        exact absurd this (by decide)
    split at h
    · rename_i hl
      split at h
      · simp at h
        have h1 := digLen_pos (l := c :: r) hl
        rw [← h.2] at h58
        obtain ⟨d, e, hdd⟩ := tw_hd dN (c :: r) (digLen (c :: r) - 1) (by unfold digLen at *; omega)
        rw [e] at h58
        unfold dN at hdd
        rw [h58] at hdd
        exact absurd hdd (by decide)
      · cases h
    split at h
    · split at h
      · split at h
        · rename_i h40
          simp at h
          rw [← h.2] at h58
          have e : hd r = 58 := h58
          omega
        · cases h
      · rename_i hs
        simp at h
        rw [← h.2] at h58 ⊢
        have e : hd (r.drop (symLen r - 1)) = 58 := by
          obtain ⟨m, hm⟩ : ∃ m, symLen r = m + 1 := ⟨symLen r - 1, by omega⟩
          rw [hm] at h58 ⊢
          exact h58
        show hd (r.drop (symLen r)) ≠ 61
        unfold symLen at *
        by_cases hk : kwsLen r = 0
        · rw [if_pos hk] at e hs
          exfalso
          by_cases hle : nameLen r ≤ opLen r
          · rw [Nat.max_eq_right hle] at e hs
            have := opLen_last (l := r) (by omega)
            rw [e] at this
            exact absurd this (by decide)
          · rw [Nat.max_eq_left (by omega)] at e hs
            have := nameLen_last (l := r) (by omega)
            rw [e] at this
            exact absurd this (by decide)
        · rw [if_neg hk]
          exact kwsF_next _ r hk
    split at h
    · rename_i ho
      simp at h
      have h3 : 1 ≤ opLen (c :: r) := by unfold opLen; rw [if_pos (show isO (hd (c :: r)) = true from ho)]; split <;> omega
      rw [← h.2] at h58
      have := opLen_last (l := c :: r) (by omega)
      rw [h58] at this
      exact absurd this (by decide)
    split at h
    · obtain ⟨y, hy, e⟩ := Option.map_eq_some_iff.1 h
      simp at e
      have h1 := txt_n _ _ hy
      have h2 := txt_last _ _ _ (Nat.le_refl _) hy
      obtain ⟨t, y⟩ := y
      obtain ⟨m, rfl⟩ : ∃ m, y = m + 1 := ⟨y - 1, by simp at h1; omega⟩
      rw [← e.2] at h58
      have e3 : hd (r.drop m) = 58 := h58
      have e4 : hd (r.drop m) = 39 := h2
      omega
    split at h
    · rename_i h2
      simp at h
      rw [← h.2] at h58
      have e : hd r = 58 := h58
      omega
    split at h
    · cases h
    · rename_i h2 _
      simp at h
      rw [← h.2] at h58 ⊢
      intro h61
      exact h2 ⟨h58, h61⟩
theorem nn_of {l : Bs} {k : Nat} (h1 : 1 ≤ k) (h2 : k ≤ l.length) (h : hd (l.drop (k - 1)) = 58 → hd (l.drop k) ≠ 61) : Nn (l.take k) (l.drop k) := by
  intro h3
  apply h
  rw [hd_drop (by omega)]
  rw [List.getLast?_take, if_neg (by omega)] at h3
  rw [List.getElem?_eq_getElem (by omega)] at h3
  simpa using h3
/-! sources as tokens, with their places; an error, with its place -/
inductive Lx : Nat → Bs → List (Tok × Nat) → Option Nat → Prop
  | stop (p : Nat) : Lx p [] [] none
  | bad (p : Nat) (l : Bs) : l ≠ [] → cut l = none → Lx p l [] (some p)
  | pass (p : Nat) (l : Bs) (n : Nat) (ts : List (Tok × Nat)) (e : Option Nat) : cut l = some (none, n) → Lx (p + n) (l.drop n) ts e → Lx p l ts e
  | tok (p : Nat) (l : Bs) (t : Tok) (n : Nat) (ts : List (Tok × Nat)) (e : Option Nat) : cut l = some (some t, n) → Lx (p + n) (l.drop n) ts e → Lx p l ((t, p) :: ts) e
theorem cut_nil : cut [] = none := rfl
namespace Lx
theorem inv {p : Nat} {l : Bs} {ts : List (Tok × Nat)} {e : Option Nat} (h : Lx p l ts e) : (l = [] ∧ ts = [] ∧ e = none) ∨ (l ≠ [] ∧ cut l = none ∧ ts = [] ∧ e = some p) ∨ (∃ n, cut l = some (none, n) ∧ Lx (p + n) (l.drop n) ts e) ∨ (∃ t n ts', cut l = some (some t, n) ∧ ts = (t, p) :: ts' ∧ Lx (p + n) (l.drop n) ts' e) := by
  cases h
  · exact Or.inl ⟨rfl, rfl, rfl⟩
  · rename_i h1 h2; exact Or.inr (Or.inl ⟨h1, h2, rfl, rfl⟩)
  · rename_i n h1 h2; exact Or.inr (Or.inr (Or.inl ⟨n, h1, h2⟩))
  · rename_i t n ts h1 h2; exact Or.inr (Or.inr (Or.inr ⟨t, n, ts, h1, rfl, h2⟩))
theorem unique {p : Nat} {l : Bs} {ts : List (Tok × Nat)} {e : Option Nat} (h : Lx p l ts e) : ∀ {ts' : List (Tok × Nat)} {e' : Option Nat}, Lx p l ts' e' → ts' = ts ∧ e' = e := by
  induction h with
  | stop p =>
    intro ts' e' h'
    rcases h'.inv with ⟨_, h1, h2⟩ | ⟨h1, _⟩ | ⟨n, h1, _⟩ | ⟨t, n, ts2, h1, _⟩
    · exact ⟨h1, h2⟩
    · exact absurd rfl h1
    · cases h1
    · cases h1
  | bad p l g1 g2 =>
    intro ts' e' h'
    rcases h'.inv with ⟨h1, _⟩ | ⟨_, _, h1, h2⟩ | ⟨n, h1, _⟩ | ⟨t, n, ts2, h1, _⟩
    · exact absurd h1 g1
    · exact ⟨h1, h2⟩
    · rw [g2] at h1; cases h1
    · rw [g2] at h1; cases h1
  | pass p l n ts e g1 g2 ih =>
    intro ts' e' h'
    rcases h'.inv with ⟨h1, _⟩ | ⟨_, h1, _⟩ | ⟨m, h1, h2⟩ | ⟨t, m, ts2, h1, _⟩
    · subst h1; cases g1
    · rw [g1] at h1; cases h1
    · rw [g1] at h1; cases h1; exact ih h2
    · rw [g1] at h1; cases h1
  | tok p l t n ts e g1 g2 ih =>
    intro ts' e' h'
    rcases h'.inv with ⟨h1, _⟩ | ⟨_, h1, _⟩ | ⟨m, h1, h2⟩ | ⟨t', m, ts2, h1, h2, h3⟩
    · subst h1; cases g1
    · rw [g1] at h1; cases h1
    · rw [g1] at h1; cases h1
    · rw [g1] at h1; cases h1; obtain ⟨rfl, rfl⟩ := ih h3; exact ⟨h2, rfl⟩
theorem total : ∀ (k : Nat) (p : Nat) (l : Bs), l.length ≤ k → ∃ ts e, Lx p l ts e := by
  intro k
  induction k with
  | zero => intro p l hk; have : l = [] := List.length_eq_zero_iff.1 (by omega); subst this; exact ⟨_, _, .stop p⟩
  | succ k ih =>
    intro p l hk
    by_cases hl : l = []
    · subst hl; exact ⟨_, _, .stop p⟩
    · cases hc : cut l with
      | none => exact ⟨_, _, .bad p l hl hc⟩
      | some x =>
        obtain ⟨x, n⟩ := x
        have hn := cut_n hc
        obtain ⟨ts, e, h⟩ := ih (p + n) (l.drop n) (by simp; omega)
        cases x with
        | none => exact ⟨_, _, .pass p l n ts e hc h⟩
        | some t => exact ⟨_, _, .tok p l t n ts e hc h⟩
theorem places {p : Nat} {l : Bs} {ts : List (Tok × Nat)} {e : Option Nat} (h : Lx p l ts e) : (∀ x ∈ ts, p ≤ x.2 ∧ x.2 < p + l.length) ∧ ts.length ≤ l.length ∧ ∀ q, e = some q → p ≤ q ∧ q < p + l.length := by
  induction h with
  | stop p => simp
  | bad p l h1 h2 =>
    have := List.length_pos_iff.2 h1
    refine ⟨by simp, by simp, ?_⟩
    rintro q e
    cases e
    omega
  | pass p l n ts e h1 h2 ih =>
    have := cut_n h1
    simp only [List.length_drop] at ih
    exact ⟨fun x hx => by have := ih.1 x hx; omega, by omega, fun q hq => by have := ih.2.2 q hq; omega⟩
  | tok p l t n ts e h1 h2 ih =>
    have := cut_n h1
    simp only [List.length_drop] at ih
    refine ⟨fun x hx => ?_, by simp; omega, fun q hq => by have := ih.2.2 q hq; omega⟩
    rcases List.mem_cons.1 hx with rfl | hx
    · simp; omega
    · have := ih.1 x hx; omega
def sh (d : Nat) (ts : List (Tok × Nat)) : List (Tok × Nat) := ts.map fun x => (x.1, x.2 + d)
theorem shift {p : Nat} {l : Bs} {ts : List (Tok × Nat)} {e : Option Nat} (d : Nat) (h : Lx p l ts e) : Lx (p + d) l (sh d ts) (e.map (· + d)) := by
  induction h with
  | stop p => exact .stop _
  | bad p l h1 h2 => exact .bad _ _ h1 h2
  | pass p l n ts e h1 h2 ih => exact .pass _ _ n _ _ h1 (by rw [show p + d + n = p + n + d by omega]; exact ih)
  | tok p l t n ts e h1 h2 ih => exact .tok _ _ t n _ _ h1 (by rw [show p + d + n = p + n + d by omega]; exact ih)
theorem down {q : Nat} {l : Bs} {ts : List (Tok × Nat)} (h : Lx q l ts none) : ∃ ts0, Lx 0 l ts0 none ∧ ts = sh q ts0 := by
  obtain ⟨ts0, e0, h0⟩ := total l.length 0 l (Nat.le_refl _)
  have h1 := h0.shift q
  rw [Nat.zero_add] at h1
  obtain ⟨rfl, h2⟩ := h.unique h1
  cases e0 with
  | none => exact ⟨ts0, h0, rfl⟩
  | some x => cases h2
theorem join {p : Nat} {A R : Bs} {ts ts' : List (Tok × Nat)} {e e' : Option Nat} (hG : Gs R) (h : Lx p A ts e) (he : e = none) (h' : Lx (p + A.length) R ts' e') : Lx p (A ++ R) (ts ++ ts') e' := by
  have hN : ∀ A : Bs, Nn A [] := fun A _ => by simp [hd]
  induction h with
  | stop p => simpa using h'
  | bad p l h1 h2 => cases he
  | pass p l n ts e h1 h2 ih =>
    have hn := cut_n h1
    refine .pass _ _ n _ _ (cut_ext (B := []) hG (hN _) (by simpa using h1) hn.2) ?_
    rw [List.drop_append_of_le_length hn.2]
    exact ih he (by rw [List.length_drop, show p + n + (l.length - n) = p + l.length by omega]; exact h')
  | tok p l t n ts e h1 h2 ih =>
    have hn := cut_n h1
    refine .tok _ _ t n _ _ (cut_ext (B := []) hG (hN _) (by simpa using h1) hn.2) ?_
    rw [List.drop_append_of_le_length hn.2]
    exact ih he (by rw [List.length_drop, show p + n + (l.length - n) = p + l.length by omega]; exact h')
/-- where the next token begins, or all is at its end: a source is cut asunder there -/
theorem split {p : Nat} {l : Bs} {ts : List (Tok × Nat)} {e : Option Nat} (h : Lx p l ts e) (he : e = none) : ∀ (pre post : List (Tok × Nat)) (k : Nat), ts = pre ++ post → k ≤ l.length → ((post = [] ∧ k = l.length) ∨ ∃ t rest, post = (t, p + k) :: rest) →
    Nn (l.take k) (l.drop k) ∧ Lx p (l.take k) pre none ∧ Lx (p + k) (l.drop k) post none := by
  have hG0 : Gs [] := Or.inl rfl
  induction h with
  | stop p =>
    intro pre post k h1 hk h2
    have e0 : pre = [] ∧ post = [] := by simpa using h1.symm
    obtain ⟨rfl, rfl⟩ := e0
    simp at hk
    subst hk
    exact ⟨fun h => by simp at h, .stop _, .stop _⟩
  | bad p l h1 h2 => cases he
  | pass p l n ts e h1 h2 ih =>
    intro pre post k e1 hk h3
    subst he
    have hn := cut_n h1
    have hpl := h2.places
    by_cases hk0 : k = 0
    · subst hk0
      exfalso
      rcases h3 with ⟨rfl, h3⟩ | ⟨t, rest, rfl⟩
      · omega
      · have := hpl.1 (t, p + 0) (by rw [e1]; simp)
        simp at this
        omega
    · have hnk : n ≤ k := by
        rcases h3 with ⟨rfl, h3⟩ | ⟨t, rest, rfl⟩
        · omega
        · have := (hpl.1 (t, p + k) (by rw [e1]; simp)).1
          simp at this
          omega
      obtain ⟨g1, g2, g3⟩ := ih rfl pre post (k - n) e1 (by simp; omega) (by
        rcases h3 with ⟨rfl, h3⟩ | ⟨t, rest, rfl⟩
        · exact Or.inl ⟨rfl, by simp; omega⟩
        · exact Or.inr ⟨t, rest, by rw [show p + n + (k - n) = p + k by omega]⟩)
      rw [List.drop_drop, show n + (k - n) = k by omega] at g1 g3
      rw [show p + n + (k - n) = p + k by omega] at g3
      have hN : Nn (l.take k) (l.drop k) := nn_of (by omega) hk (fun h58 => by
        by_cases hkn : k = n
        · subst hkn; exact cut_nn h1 h58
        · refine g1 ?_
          rw [List.getLast?_take, if_neg (by omega), List.getElem?_drop, List.getElem?_eq_getElem (by omega)]
          rw [hd_drop (by omega)] at h58
          simp [show n + (k - n - 1) = k - 1 by omega, h58])
      refine ⟨hN, .pass _ _ n _ _ ?_ ?_, g3⟩
      · have := cut_ext (A := l.take k) (B := l.drop k) (R := []) hG0 hN (by rw [List.take_append_drop]; exact h1) (by simp; omega)
        simpa using this
      · rw [List.drop_take]
        exact g2
  | tok p l t n ts e h1 h2 ih =>
    intro pre post k e1 hk h3
    subst he
    have hn := cut_n h1
    have hpl := h2.places
    cases pre with
    | nil =>
      rw [List.nil_append] at e1
      rcases h3 with ⟨rfl, h3⟩ | ⟨t', rest, rfl⟩
      · cases e1
      · injection e1 with e1 e2
        injection e1 with e1 e3
        have : k = 0 := by omega
        subst this
        refine ⟨fun h => by simp at h, .stop _, ?_⟩
        subst e1 e2
        exact .tok _ _ t n _ _ h1 h2
    | cons x pre =>
      rw [List.cons_append] at e1
      injection e1 with e0 e1
      subst e0
      have hnk : n ≤ k := by
        rcases h3 with ⟨rfl, h3⟩ | ⟨t', rest, rfl⟩
        · omega
        · have := (hpl.1 (t', p + k) (by rw [e1]; simp)).1
          simp at this
          omega
      obtain ⟨g1, g2, g3⟩ := ih rfl pre post (k - n) e1 (by simp; omega) (by
        rcases h3 with ⟨rfl, h3⟩ | ⟨t', rest, rfl⟩
        · exact Or.inl ⟨rfl, by simp; omega⟩
        · exact Or.inr ⟨t', rest, by rw [show p + n + (k - n) = p + k by omega]⟩)
      rw [List.drop_drop, show n + (k - n) = k by omega] at g1 g3
      rw [show p + n + (k - n) = p + k by omega] at g3
      have hN : Nn (l.take k) (l.drop k) := nn_of (by omega) hk (fun h58 => by
        by_cases hkn : k = n
        · subst hkn; exact cut_nn h1 h58
        · refine g1 ?_
          rw [List.getLast?_take, if_neg (by omega), List.getElem?_drop, List.getElem?_eq_getElem (by omega)]
          rw [hd_drop (by omega)] at h58
          simp [show n + (k - n - 1) = k - 1 by omega, h58])
      refine ⟨hN, .tok _ _ t n _ _ ?_ ?_, g3⟩
      · have := cut_ext (A := l.take k) (B := l.drop k) (R := []) hG0 hN (by rw [List.take_append_drop]; exact h1) (by simp; omega)
        simpa using this
      · rw [List.drop_take]
        exact g2
end Lx
end Go.Proofs.YtimlomobbnnehaaGreatDoor

namespace Go.Proofs.YtimlomobbnnehaaGreatDoor
open Go.RowKit
set_option linter.unusedVariables false
set_option linter.unusedSimpArgs false
theorem mkHid {p : Prop} (h : p) : Hid p := h
/-- what a text is, byte by byte -/
def lst (s : ByteArray) : Bs := s.data.toList
theorem lst_len (s : ByteArray) : (lst s).length = s.size := rfl
theorem get_lst (s : ByteArray) (k : Nat) (h : k < s.size) : hd ((lst s).drop k) = (s[k]'h).toNat := by
  rw [hd_drop (by rw [lst_len]; exact h)]
  rfl
/-- all that lay there lies there still -/
abbrev Bl (w w' : World) : Prop := Below w.heap.size w w'
theorem Bl.refl (w : World) : Bl w w := Below.refl _ w
theorem Bl.trans {a b c : World} (h : Bl a b) (k : Bl b c) : Bl a c := Below.trans h (Below.mono k h.size)
theorem Bl.alloc (w : World) (o : Obj) : Bl w (w.alloc o) := (Below.refl _ w).alloc (Nat.le_refl _) _
/-- the next of a range over a text, by its byte -/
theorem rune_at (s : ByteArray) (pos : Nat) (h : pos < s.size) : ∃ r : Nat, Utf8.decode s pos = (r, (Utf8.decode s pos).2) ∧ 1 ≤ (Utf8.decode s pos).2 ∧ r ≤ 2147483647 ∧
    ((hd ((lst s).drop pos) < 128 ∧ r = hd ((lst s).drop pos) ∧ (Utf8.decode s pos).2 = 1) ∨ (128 ≤ hd ((lst s).drop pos) ∧ 128 ≤ r)) := by
  have h3 := decode_le s pos
  refine ⟨(Utf8.decode s pos).1, rfl, ?_, h3, ?_⟩
  · by_cases ha : (s[pos]'h).toNat < 128
    · rw [decode_ascii s pos h ha]; exact Nat.le_refl _
    · exact (decode_high s pos h (by omega)).2
  · rw [get_lst s pos h]
    by_cases ha : (s[pos]'h).toNat < 128
    · left; rw [decode_ascii s pos h ha]; exact ⟨ha, rfl, rfl⟩
    · right; exact ⟨by omega, (decode_high s pos h (by omega)).1⟩
theorem tw_eq (p : UInt8 → Bool) : ∀ (l : Bs) (k : Nat), k ≤ l.length → (∀ j (h : j < l.length), j < k → p l[j] = true) → (∀ h : k < l.length, p l[k] = false) → (l.takeWhile p).length = k := by
  intro l
  induction l with
  | nil => intro k h _ _; simp at h; simp [h]
  | cons c r ih =>
    intro k hk h1 h2
    rw [List.takeWhile_cons]
    cases k with
    | zero =>
      have := h2 (by simp)
      simp at this
      simp [this]
    | succ k =>
      rw [if_pos (show p c = true from h1 0 (by simp) (by omega)), List.length_cons, ih k (by simpa using hk) (fun j hj hjk => h1 (j + 1) (by simpa using hj) (by omega)) (fun h => h2 (by simpa using h))]
theorem hd_at {l : Bs} {k : Nat} (h : k < l.length) : (l[k]).toNat = hd (l.drop k) := (hd_drop h).symm
theorem nameLen_at {l : Bs} {k : Nat} (hk : k ≤ l.length) (h0 : 0 < k → isL (hd l) = true) (h1 : ∀ j, j < k → isW (hd (l.drop j)) = true)
    (h2 : k < l.length → isL (hd (l.drop k)) = false ∧ (k ≠ 0 → isD (hd (l.drop k)) = false)) : nameLen l = k := by
  unfold nameLen
  by_cases hz : k = 0
  · subst hz
    by_cases hl : 0 < l.length
    · have := (h2 hl).1
      rw [List.drop_zero] at this
      rw [this]; simp
    · have : l = [] := List.length_eq_zero_iff.1 (by omega)
      subst this
      simp [hd, isL]
  · rw [if_pos (h0 (by omega))]
    refine tw_eq wN l k hk (fun j hj hjk => ?_) (fun h => ?_)
    · unfold wN; rw [hd_at hj]; exact h1 j hjk
    · unfold wN isW; rw [hd_at h, (h2 h).1, (h2 h).2 hz]; rfl
theorem isLetter_ok (r : Nat) (w : World) : Calls Tryz.prog 46 #[.int .i32 r] w fun e w' => e = .returned (.bool (isL r)) ∧ w' = w := by
  go_enter Tryz.func46, Tryz.ntmps46
  go_wp2
  all_goals (go_ret; exact ⟨congrArg (fun b => Ending.returned (Value.bool b)) (by rw [Bool.eq_iff_iff, isL_iff]; simp <;> omega), rfl⟩)
theorem isDigit_ok (r : Nat) (w : World) : Calls Tryz.prog 47 #[.int .i32 r] w fun e w' => e = .returned (.bool (isD r)) ∧ w' = w := by
  go_enter Tryz.func47, Tryz.ntmps47
  go_wp2
  all_goals (go_ret; exact ⟨congrArg (fun b => Ending.returned (Value.bool b)) (by rw [Bool.eq_iff_iff, isD_iff]; simp <;> omega), rfl⟩)
set_option maxHeartbeats 4000000 in
set_option maxRecDepth 1000000 in
theorem nameLength_ok (s : ByteArray) (w : World) (hs : s.size ≤ 140737488355328) :
    Calls Tryz.prog 50 #[.string s] w fun e w' => e = .returned (.int .i64 (nameLen (lst s))) ∧ Bl w w' := by
  go_enter Tryz.func50, Tryz.ntmps50
  go_wp2
  go_loopw [] (fun wr => ∃ pos : Nat, wr.heap[w.heap.size]? = some (.stringIter s pos) ∧ Below w.heap.size w wr ∧ pos ≤ s.size ∧ (0 < pos → isL (hd (lst s)) = true) ∧ ∀ j, j < pos → isW (hd ((lst s).drop j)) = true) (fun wr => s.size - wr.iterPos w.heap.size)
  case atStart =>
    refine ⟨0, ?_, (Below.refl _ w).alloc (Nat.le_refl _) _, Nat.zero_le _, fun h => by omega, fun j h => by omega⟩
    have := World.iter_heap w s 0
    simpa using this
  case round =>
    obtain ⟨pos, hit, hb, hps, h0, h1⟩ := hrel
    by_cases hp : pos < s.size
    · have hnx : ∀ ty, (Instr.next (.pointer (some ⟨w.heap.size, 0, none⟩)) true ty).run Tryz.prog wr = _ := fun ty => Lib.run_next_any_at wr w.heap.size s pos ty hit hp
      have hit2 := Lib.iterAt_heap wr w.heap.size s pos (pos + (Utf8.decode s pos).2) hit
      have hbw2 := Lib.below_iterAt hb (k := w.heap.size) (Nat.le_refl _) s (pos + (Utf8.decode s pos).2)
      obtain ⟨r, hr, hw1, hr2, hcase⟩ := rune_at s pos hp
      generalize hW : wr.iterAt w.heap.size s (pos + (Utf8.decode s pos).2) = W at *
      rw [hr] at hnx
      simp only at hnx
      clear hr hW
      have hg : hd ((lst s).drop pos) = r ∨ (128 ≤ hd ((lst s).drop pos) ∧ 128 ≤ r) := by omega
      have hLr : isL (hd ((lst s).drop pos)) = isL r := by
        rcases hg with h | h
        · rw [h]
        · have : ∀ n, 128 ≤ n → isL n = false := fun n hn => by rw [Bool.eq_false_iff]; intro hc; rw [isL_iff] at hc; omega
          rw [this _ h.1, this _ h.2]
      have hDr : isD (hd ((lst s).drop pos)) = isD r := by
        rcases hg with h | h
        · rw [h]
        · have : ∀ n, 128 ≤ n → isD n = false := fun n hn => by rw [Bool.eq_false_iff]; intro hc; rw [isD_iff] at hc; omega
          rw [this _ h.1, this _ h.2]
      have hgo : (isL r = true ∨ isD r = true) → (Utf8.decode s pos).2 = 1 := fun h => by
        rcases hcase with h2 | h2
        · exact h2.2.2
        · exfalso; rcases h with h | h
          · rw [isL_iff] at h; omega
          · rw [isD_iff] at h; omega
      clear hcase hg
      have hfin : (isL r = false ∧ (pos ≠ 0 → isD r = false)) → nameLen (lst s) = pos := fun h => nameLen_at (by rw [lst_len]; omega) h0 h1 (fun _ => by rw [hLr, hDr]; exact h)
      by_cases cL : isL r = true
      · have hw := hgo (Or.inl cL)
        go_wp2_with (first | (go_at_call 46; refine (isLetter_ok r _).mono ?_; rintro e w' ⟨rfl, rfl⟩) | (go_at_call 47; refine (isDigit_ok r _).mono ?_; rintro e w' ⟨rfl, rfl⟩))
        go_roundw
        case rel =>
          refine ⟨pos + 1, by rw [hit2, hw], hbw2, by omega, fun _ => ?_, fun j hj => ?_⟩
          · by_cases hz : pos = 0
            · subst hz; rw [← List.drop_zero (l := lst s), hLr]; exact cL
            · exact h0 (by omega)
          · by_cases hj2 : j < pos
            · exact h1 j hj2
            · have : j = pos := by omega
              subst this
              unfold isW; rw [hLr, hDr]; simp [cL]
        case measure =>
          simp only [World.iterPos, hit2, hit]
          omega
      · have cL' : isL r = false := by simpa using cL
        clear cL
        by_cases c0 : pos = 0
        · have hf := hfin ⟨cL', fun h => absurd c0 h⟩
          subst c0
          go_wp2_with (first | (go_at_call 46; refine (isLetter_ok r _).mono ?_; rintro e w' ⟨rfl, rfl⟩) | (go_at_call 47; refine (isDigit_ok r _).mono ?_; rintro e w' ⟨rfl, rfl⟩))
          go_ret
          exact ⟨by rw [hf]; rfl, hbw2⟩
        · by_cases cD : isD r = true
          · have hw := hgo (Or.inr cD)
            go_wp2_with (first | (go_at_call 46; refine (isLetter_ok r _).mono ?_; rintro e w' ⟨rfl, rfl⟩) | (go_at_call 47; refine (isDigit_ok r _).mono ?_; rintro e w' ⟨rfl, rfl⟩))
            go_roundw
            case rel =>
              refine ⟨pos + 1, by rw [hit2, hw], hbw2, by omega, fun _ => ?_, fun j hj => ?_⟩
              · by_cases hz : pos = 0
                · subst hz; rw [← List.drop_zero (l := lst s), hLr]; exact (absurd rfl c0)
                · exact h0 (by omega)
              · by_cases hj2 : j < pos
                · exact h1 j hj2
                · have : j = pos := by omega
                  subst this
                  unfold isW; rw [hLr, hDr]; simp [cD]
            case measure =>
              simp only [World.iterPos, hit2, hit]
              omega
          · have cD' : isD r = false := by simpa using cD
            have hf := hfin ⟨cL', fun _ => cD'⟩
            clear cD
            go_wp2_with (first | (go_at_call 46; refine (isLetter_ok r _).mono ?_; rintro e w' ⟨rfl, rfl⟩) | (go_at_call 47; refine (isDigit_ok r _).mono ?_; rintro e w' ⟨rfl, rfl⟩))
            go_ret
            exact ⟨by rw [hf]; rfl, hbw2⟩
    · have hnx : ∀ ty, (Instr.next (.pointer (some ⟨w.heap.size, 0, none⟩)) true ty).run Tryz.prog wr = _ := fun ty => Lib.run_next_end_at wr w.heap.size s pos ty hit hp
      go_wp2
      go_wp2
      go_ret
      refine ⟨?_, hb⟩
      rw [nameLen_at (k := pos) (by rw [lst_len]; omega) h0 h1 (fun h => by rw [lst_len] at h; omega)]
      have : pos = s.size := by omega
      rw [this]
      rfl
end Go.Proofs.YtimlomobbnnehaaGreatDoor

