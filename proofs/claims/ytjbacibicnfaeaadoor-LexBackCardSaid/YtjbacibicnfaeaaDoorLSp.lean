import Derived.Test.YtjbacibicnfaeaaDoorLLaw
namespace Go.Proofs.YtjbacibicnfaeaaDoor
open Go.RowKit Go.Maps
set_option linter.unusedVariables false
set_option linter.unusedSimpArgs false
theorem cut_of_Q {l : Bs} {t : Tok} {n : Nat} (hn : n ≠ 0) (hk : t.kind ≠ 0) (h : cutQ l = (t.kind, t.text, t.num, n)) : cut l = some (some t, n) := by
  rcases cutQ_some (l := l) (by rw [h]; exact hn) with ⟨m, h1, h2⟩ | ⟨t', m, h1, h2⟩
  · rw [h] at h2
    simp at h2
    exact absurd h2.1 hk
  · rw [h] at h2
    simp at h2
    obtain ⟨a, b, c, d⟩ := h2
    rw [h1]
    obtain ⟨k, x, y⟩ := t
    obtain ⟨k', x', y'⟩ := t'
    simp at a b c d
    subst a b c d
    rfl
theorem colonAt_nil : colonAt [] = false := rfl
theorem kwLen_name {l : Bs} (h : nameLen l = l.length) : kwLen l = 0 := by
  unfold kwLen
  rw [if_neg]
  rintro ⟨_, h2⟩
  rw [h, List.drop_length, colonAt_nil] at h2
  cases h2
theorem kwsLen_zero {l : Bs} (h : kwLen l = 0) : kwsLen l = 0 := by rw [kwsLen_step, if_pos h]
theorem one_tok {l : Bs} {t : Tok} (hl : l.length ≠ 0) (hc : cut l = some (some t, l.length)) : Lx 0 l [(t, 0)] none := by
  refine .tok 0 l t l.length [] none hc ?_
  rw [List.drop_length]
  exact .stop _
theorem sym_tok {l : Bs} (hl : l.length ≠ 0) (h : symLen l = l.length) : Lx 0 (35 :: l) [(⟨5, l, 0⟩, 0)] none := by
  refine one_tok (by simp) (cut_of_Q (by simp) (by simp) ?_)
  rw [cutQ_hash rfl]
  have e : (35 :: l : Bs).drop 1 = l := rfl
  rw [e, if_neg (by omega), h, List.take_length, List.length_cons]
/-- a name -/
theorem name_is {l : Bs} (h : nameB l = true) : Lx 0 l [(⟨1, l, 0⟩, 0)] none ∧ symLen l = l.length ∧ l.length ≠ 0 := by
  obtain ⟨h1, h2⟩ := of_decide_eq_true h
  have h0 : l.length ≠ 0 := fun e => h1 (List.length_eq_zero_iff.1 e)
  have hL : isL (hd l) = true := by
    unfold nameLen at h2
    split at h2
    · assumption
    · omega
  have hk := kwLen_name h2
  refine ⟨one_tok h0 (cut_of_Q h0 (by simp) ?_), ?_, h0⟩
  · rw [cutQ_word hL, if_pos hk, h2, List.take_length]
  · unfold symLen
    rw [if_pos (kwsLen_zero hk), h2]
    have := opLen_le l
    omega
/-- an operator -/
theorem op_is {l : Bs} (h : opB l = true) : Lx 0 l [(⟨3, l, 0⟩, 0)] none ∧ symLen l = l.length ∧ l.length ≠ 0 := by
  obtain ⟨h1, h2⟩ := of_decide_eq_true h
  have h0 : l.length ≠ 0 := fun e => h1 (List.length_eq_zero_iff.1 e)
  have hO : isO (hd l) = true := by
    unfold opLen at h2
    split at h2
    · assumption
    · omega
  have hN : nameLen l = 0 := by
    unfold nameLen
    rw [if_neg]
    intro hl
    rw [isL_iff] at hl
    rw [isO_iff] at hO
    omega
  have hk : kwLen l = 0 := by unfold kwLen; rw [if_neg]; rintro ⟨h3, _⟩; exact h3 hN
  refine ⟨one_tok h0 (cut_of_Q h0 (by simp) ?_), ?_, h0⟩
  · rw [cutQ_op hO, h2, List.take_length]
  · unfold symLen
    rw [if_pos (kwsLen_zero hk), hN, h2]
    omega
/-- keywords, joined -/
theorem kws_is : ∀ (f : Nat) (l : Bs) (k p : Nat), l.length ≤ f → kwsN l = some k → ∃ us, Lx p l us none ∧ us.length = k ∧ (∀ x ∈ us, x.1.kind = 2) ∧ us.flatMap (fun x => x.1.text ++ [58]) = l ∧ kwsLen l = l.length := by
  intro f
  induction f with
  | zero =>
    intro l k p hf h
    have : l = [] := List.length_eq_zero_iff.1 (by omega)
    subst this
    have : k = 0 := by
      have e : kwsN [] = some 0 := rfl
      rw [e] at h; cases h; rfl
    subst this
    exact ⟨[], .stop p, rfl, fun x hx => (by simp at hx), rfl, rfl⟩
  | succ f ih =>
    intro l k p hf h
    rw [kwsN_step] at h
    by_cases hl : l = []
    · rw [if_pos hl] at h
      cases h
      subst hl
      exact ⟨[], .stop p, rfl, fun x hx => (by simp at hx), rfl, rfl⟩
    · rw [if_neg hl] at h
      by_cases hk : kwLen l = 0 ∨ isS (hd l) = false
      · rw [if_pos hk] at h; cases h
      · rw [if_neg hk] at h
        obtain ⟨j, hj, rfl⟩ := Option.map_eq_some_iff.1 h
        have hk0 : kwLen l ≠ 0 := fun e => hk (Or.inl e)
        have hle := kwLen_le l
        obtain ⟨us, h1, h2, h3, h4, h5⟩ := ih (l.drop (kwLen l)) j (p + kwLen l) (by simp; omega) hj
        have hkd : kwLen l = nameLen l + 1 ∧ colonAt (l.drop (nameLen l)) = true := by
          unfold kwLen at hk0 ⊢
          split at hk0
          · rename_i h6; rw [if_pos h6]; exact ⟨rfl, h6.2⟩
          · omega
        have hS : isS (hd l) = true := by
          by_cases hs : isS (hd l) = true
          · exact hs
          · exact absurd (Or.inr (by simpa using hs)) hk
        have hL : isL (hd l) = true := by rw [isL_iff]; rw [isS_iff] at hS; omega
        have hcut : cut l = some (some ⟨2, l.take (nameLen l), 0⟩, kwLen l) := cut_of_Q hk0 (by simp) (by rw [cutQ_word hL, if_neg hk0])
        have h58 := (of_decide_eq_true (show decide (hd (l.drop (nameLen l)) = 58 ∧ _) = true from hkd.2)).1
        have hnl : nameLen l < l.length := by omega
        refine ⟨(⟨2, l.take (nameLen l), 0⟩, p) :: us, .tok _ _ _ _ _ _ hcut h1, by simp [h2], fun x hx => ?_, ?_, ?_⟩
        · rcases List.mem_cons.1 hx with rfl | hx
          · rfl
          · exact h3 x hx
        · rw [List.flatMap_cons, h4]
          have e1 : l.take (nameLen l) ++ [58] = l.take (kwLen l) := by
            rw [hkd.1, List.take_succ_eq_append_getElem hnl]
            congr 2
            rw [hd_drop hnl] at h58
            exact (UInt8.toNat_inj.1 h58).symm
          rw [e1, List.take_append_drop]
        · rw [kwsLen_step, if_neg hk0, h5, List.length_drop]
          omega
end Go.Proofs.YtjbacibicnfaeaaDoor
