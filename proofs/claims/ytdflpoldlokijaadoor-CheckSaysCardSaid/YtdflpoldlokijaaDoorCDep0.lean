import Derived.Test.YtdflpoldlokijaaDoorCLand0
namespace Go.Proofs.YtdflpoldlokijaaDoor
set_option linter.unusedVariables false
theorem set_or (l : List Pl) (i : Nat) (p : Pl) (x : Nat) (hp : p.body ≠ 0) : plD (l.set i p) x = plD l x ∨ (plD (l.set i p) x).body ≠ 0 := by
  by_cases h : i = x
  · subst h
    by_cases hl : i < l.length
    · right; rw [plD_set_eq l i p hl]; exact hp
    · left; rw [List.set_eq_of_length_le (by omega)]
  · left; exact plD_set_ne l i x p h
theorem or_trans {a b c : Pl} (h1 : b = a ∨ b.body ≠ 0) (h2 : c = b ∨ c.body ≠ 0) : c = a ∨ c.body ≠ 0 := by
  rcases h2 with rfl | h2
  · exact h1
  · exact .inr h2
theorem readP_or (C : Cx) : ∀ (f : Nat) (sc : List Nat) (at_ en k : Nat) (R : Rs) (x : Nat), 1 ≤ k → plD (readP C f sc at_ en k R).2.pls x = plD R.pls x ∨ (plD (readP C f sc at_ en k R).2.pls x).body ≠ 0 := by
  intro f
  induction f with
  | zero => intro sc at_ en k R x hk; exact .inl rfl
  | succ f ih =>
    intro sc at_ en k R x hk
    have hb : ((instrP C sc at_ en).2.at k).body ≠ 0 := by show k ≠ 0; omega
    unfold readP
    split
    · split
      · exact .inl rfl
      · split
        · split
          · exact or_trans (set_or _ _ _ x hb) (ih _ _ _ _ _ x (by omega))
          · exact or_trans (or_trans (set_or _ _ _ x hb) (ih _ _ _ _ _ x (by omega))) (ih _ _ _ _ _ x hk)
        · exact or_trans (set_or _ _ _ x hb) (ih _ _ _ _ _ x hk)
    · exact .inl rfl
/-- what a whole reading leaves -/
structure Good (C : Cx) (R : Rs) : Prop where
  len : R.pls.length = C.ws.length
  good : ∀ x, x < R.pls.length → (plD R.pls x).body ≠ 0 → GoodI C R x C.ws.length
  none : ∀ x, (plD R.pls x).body = 0 → plD R.pls x = noPl
  head : 0 < C.ws.length → (plD R.pls 0).body = 1
theorem read_good (C : Cx) (t : Nat) (h : (readP C (C.ws.length + 1) [t] 0 C.ws.length 1 (startR C t)).1 = 0) : Good C (readP C (C.ws.length + 1) [t] 0 C.ws.length 1 (startR C t)).2 := by
  have hL := readP_len C (C.ws.length + 1) [t] 0 C.ws.length 1 (startR C t)
  have hL0 : (startR C t).pls.length = C.ws.length := by simp [startR]
  have q := readP_inv C (C.ws.length + 1) [t] 0 C.ws.length 1 0 (startR C t) h (by omega) (by omega) (by omega) (by simp [startR]) (Nat.le_refl _) (fun x _ _ => by show (plD (List.replicate C.ws.length noPl) x).body = 0; rw [plD_rep]; rfl)
  refine ⟨by omega, fun x hx hb => q.good x (Nat.zero_le _) (by omega) hb, fun x hx => ?_, q.head⟩
  rcases readP_or C (C.ws.length + 1) [t] 0 C.ws.length 1 (startR C t) x (Nat.le_refl _) with h1 | h1
  · rw [h1]; exact plD_rep _ _
  · exact absurd hx h1
theorem Good.jmp {C : Cx} {R : Rs} (h : Good C R) : ∀ i, i < R.pls.length → 4 ≤ (shp (plD R.pls i).op).kind → i < (plD R.pls i).fin ∧ (plD R.pls i).fin ≤ C.ws.length := fun i hi h4 => by
  by_cases hb : (plD R.pls i).body = 0
  · rw [h.none i hb] at h4
    exact absurd h4 (by decide)
  · obtain ⟨sc, b0, e0, g1, g2, g3, g4, g5, g6⟩ := h.good i hi hb
    have := g5.gt
    have := g5.fe
    omega
theorem fit_send {b : Bn} {lits : Nat} {sc : List Nat} {op : Nat} {x y z : Int} (h : fitP b lits sc op x y z = true) (ho : op = 17 ∨ op = 18) : y ≤ 8 := by
  unfold fitP inR at h
  rcases ho with rfl | rfl
  all_goals simp at h
  all_goals omega
theorem Good.args {C : Cx} {R : Rs} (h : Good C R) : ∀ i, i < R.pls.length → (plD R.pls i).args ≤ 8 := fun i hi => by
  by_cases hb : (plD R.pls i).body = 0
  · rw [h.none i hb]; decide
  · obtain ⟨sc, b0, e0, g1, g2, g3, g4, g5, g6⟩ := h.good i hi hb
    by_cases ho : (plD R.pls i).op = 17 ∨ (plD R.pls i).op = 18
    · rw [g5.snd ho]
      have := fit_send g5.fit ho
      omega
    · rw [g5.nos ho]; omega
theorem Good.pl {C : Cx} {R : Rs} (h : Good C R) (hland : (List.range R.pls.length).all (landP C R.pls) = true) : PlOk (jumpN C R.pls R.pls.length) ∧ (0 < R.pls.length → (plD (jumpN C R.pls R.pls.length) 0).body ≠ 0) ∧ (∀ i, i < R.pls.length → (plD (jumpN C R.pls R.pls.length) i).args ≤ 8) := by
  have hLn : (jumpN C R.pls R.pls.length).length = R.pls.length := jumpN_len ..
  have hlen := h.len
  have hj : ∀ x, x < R.pls.length → 4 ≤ (shp (plD R.pls x).op).kind → ∃ t, toP C (plD R.pls x) x = some t ∧ (plD R.pls t).body = (plD R.pls x).body := fun x hx h4 => by
    have := List.all_eq_true.1 hland x (by simpa using hx)
    unfold landP at this
    rw [if_pos (by unfold isJ; simpa using h4)] at this
    split at this
    · cases this
    · rename_i t ht
      exact ⟨t, ht, by simpa using this⟩
  have hlt : ∀ x t, x < R.pls.length → (plD R.pls x).body ≠ 0 → 4 ≤ (shp (plD R.pls x).op).kind → toP C (plD R.pls x) x = some t → t < R.pls.length := fun x t hx hb h4 ht => by
    have k7 := (sh_le (plD R.pls x).op).2.2.2.1
    obtain ⟨a, b⟩ := toP_some h4 ht
    obtain ⟨sc, b0, e0, g1, g2, g3, g4, g5, g6⟩ := h.good x hx hb
    have := g5.fe
    rcases (show ((shp (plD R.pls x).op).kind = 4 ∨ (shp (plD R.pls x).op).kind = 5) ∨ ((shp (plD R.pls x).op).kind = 6 ∨ (shp (plD R.pls x).op).kind = 7) by omega) with hk | hk
    · have := a hk; omega
    · have := b hk; have := g5.gt; omega
  refine ⟨⟨fun x hx hb => ?_, fun x hx hb hk => ?_, fun x hx hb hk => ?_⟩, fun h0 => by rw [jumpN_at, (goto_same C _ _).2.1, h.head (by omega)]; decide, fun i hi => by rw [jumpN_at, (goto_same C _ _).2.2.1]; exact h.args i hi⟩
  all_goals rw [hLn] at hx ⊢
  all_goals rw [jumpN_at] at *
  all_goals obtain ⟨e1, e2, e3, e4, e5⟩ := goto_same C (plD R.pls x) x
  all_goals rw [e2] at hb
  all_goals obtain ⟨sc, b0, e0, g1, g2, g3, g4, g5, g6⟩ := h.good x hx hb
  · have := g5.ne; rw [e5]; omega
  · rw [e1] at hk
    have h19 := (kind19 _ g5.lo g5.hi).1.1 hk
    obtain ⟨k', k1, k2, k3⟩ := g6 h19
    have := g5.blk h19
    have := g5.ne
    rw [jumpN_at, e4, (goto_same C _ _).2.1, k3]
    omega
  · rw [e1] at hk
    obtain ⟨t, t1, t2⟩ := hj x hx hk
    have t3 := hlt x t hx hb hk t1
    rw [jumpN_at, goto_to hk, t1, (goto_same C _ _).2.1]
    exact ⟨t3, by show (plD R.pls t).body ≠ 0; rw [t2]; exact hb⟩
end Go.Proofs.YtdflpoldlokijaaDoor
