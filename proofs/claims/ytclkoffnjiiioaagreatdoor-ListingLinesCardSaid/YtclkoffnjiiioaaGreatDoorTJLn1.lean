import Derived.Test.YtclkoffnjiiioaaGreatDoorTJLin
namespace Go.Proofs.YtclkoffnjiiioaaGreatDoor
open Go.RowKit
set_option linter.unusedVariables false
set_option linter.unusedSimpArgs false
/-- nothing, or whole lines -/
def Ed (P : Bs) : Prop := ∀ b, P.getLast? = some b → b = 10
theorem count_nl {l : Bs} (h : Nl l) : l.count 10 = 0 := List.count_eq_zero.2 (fun hm => h 10 hm rfl)
theorem ed_mem {P : Bs} (he : Ed P) (hp : P ≠ []) : (10 : UInt8) ∈ P := by
  have h1 : P.getLast? = some (P.getLast hp) := List.getLast?_eq_some_getLast hp
  have := he _ h1
  rw [← this]
  exact List.getLast_mem hp
theorem ed_split (l R P Q : Bs) (hl : Nl l) (h : l ++ 10 :: R = P ++ Q) (he : Ed P) (hp : P ≠ []) : ∃ P', P = l ++ 10 :: P' ∧ R = P' ++ Q ∧ Ed P' := by
  rcases List.append_eq_append_iff.1 h with ⟨a, e1, e2⟩ | ⟨a, e1, e2⟩
  · cases a with
    | nil =>
      exfalso
      rw [List.append_nil] at e1
      exact hl 10 (e1 ▸ ed_mem he hp) rfl
    | cons c a =>
      rw [List.cons_append, List.cons.injEq] at e2
      obtain ⟨rfl, e2⟩ := e2
      refine ⟨a, e1, e2, fun b hb => he b ?_⟩
      rw [e1, List.getLast?_append, List.getLast?_cons, hb]
      rfl
  · exfalso
    exact hl 10 (by rw [e1]; exact List.mem_append_left _ (ed_mem he hp)) rfl
theorem lits_cut : ∀ (ts : List LitT) (o P Q : Bs), ts.flatMap litW ++ o = P ++ Q → Ed P → (∃ j, j ≤ ts.length ∧ P = (ts.take j).flatMap litW ∧ P.count 10 = j) ∨ ∃ P', P = ts.flatMap litW ++ P' ∧ o = P' ++ Q ∧ Ed P' ∧ P.count 10 = ts.length + P'.count 10
  | [], o, P, Q, h, he => .inr ⟨P, rfl, by simpa using h, he, by simp⟩
  | t :: ts, o, P, Q, h, he => by
    by_cases hp : P = []
    · left
      exact ⟨0, by omega, by simp [hp], by simp [hp]⟩
    · rw [List.flatMap_cons, litW_L, List.append_assoc, List.append_assoc, List.singleton_append] at h
      obtain ⟨P1, rfl, e, he1⟩ := ed_split _ _ _ _ (nl_lit t) h he hp
      rcases lits_cut ts o P1 Q e he1 with ⟨j, hj, e3, hc⟩ | ⟨P', e3, e2, e4, hc⟩
      · left
        refine ⟨j + 1, by simp; omega, ?_, ?_⟩
        · rw [List.take_succ_cons, List.flatMap_cons, litW_L, e3]; simp
        · rw [List.count_append, count_nl (nl_lit t), List.count_cons_self, hc]; omega
      · right
        refine ⟨P', ?_, e2, e4, ?_⟩
        · rw [List.flatMap_cons, litW_L, e3]; simp
        · rw [List.count_append, count_nl (nl_lit t), List.count_cons_self, hc, List.length_cons]; omega
theorem ins_cut : ∀ (F : Nat) (ws : List Int) (a : Nat) (o P Q : Bs), lnW ws F a = some o → a ≤ ws.length → o = P ++ Q → Ed P → ∃ b, a ≤ b ∧ b ≤ ws.length ∧ ∀ F', b - a < F' → lnW (ws.take b) F' a = some P ∧ cntI (ws.take b) F' a = P.count 10
  | 0, ws, a, o, P, Q, h, _, _, _ => by rw [lnW] at h; cases h
  | F + 1, ws, a, o, P, Q, h, ha, hs, he => by
    have hnil : P = [] → ∃ b, a ≤ b ∧ b ≤ ws.length ∧ ∀ F', b - a < F' → lnW (ws.take b) F' a = some P ∧ cntI (ws.take b) F' a = P.count 10 := by
      rintro rfl
      refine ⟨a, Nat.le_refl _, ha, fun F' hF => ?_⟩
      cases F' with
      | zero => omega
      | succ F' =>
        have hl : ¬ a < (ws.take a).length := by rw [List.length_take]; omega
        rw [lnW, cntI, if_neg hl, if_neg hl]
        exact ⟨rfl, rfl⟩
    by_cases hp : P = []
    · exact hnil hp
    rw [lnW] at h
    by_cases hlt : a < ws.length
    · rw [if_pos hlt] at h
      split at h
      · next hop =>
        obtain ⟨o2, ho2, rfl⟩ := Option.map_eq_some_iff.1 h
        obtain ⟨i1, i2, i3⟩ := isOp_is hop.1
        rw [insW_L, List.append_assoc, List.singleton_append] at hs
        obtain ⟨P1, rfl, e, he1⟩ := ed_split _ _ _ _ (nl_ins a _ _ (by omega)) hs he hp
        obtain ⟨b, b1, b2, b3⟩ := ins_cut F ws _ o2 P1 Q ho2 hop.2 e he1
        refine ⟨b, by omega, b2, fun F' hF => ?_⟩
        cases F' with
        | zero => omega
        | succ F' =>
          obtain ⟨c1, c2⟩ := b3 F' (by omega)
          have hlen : (ws.take b).length = b := by rw [List.length_take]; omega
          have hg : (ws.take b).getD a 0 = ws.getD a 0 := by rw [List.getD_eq_getElem?_getD, List.getD_eq_getElem?_getD, List.getElem?_take_of_lt (by omega)]
          have hd : ((ws.take b).drop (a + 1)).take (opd (ws.getD a 0).toNat) = (ws.drop (a + 1)).take (opd (ws.getD a 0).toNat) := by
            rw [List.drop_take, List.take_take]
            congr 1
            omega
          refine ⟨?_, ?_⟩
          · rw [lnW, hlen, if_pos (show a < b by omega), hg, if_pos ⟨hop.1, b1⟩, hd, c1, insW_L]
            simp
          · rw [cntI, hlen, if_pos (show a < b by omega), hg, c2, List.count_append, count_nl (nl_ins a _ _ (by omega)), List.count_cons_self]
            omega
      · cases h
    · rw [if_neg hlt] at h
      injection h with h
      subst h
      have : P = [] := by
        have := congrArg List.length hs
        rw [List.length_append, List.length_nil] at this
        exact List.eq_nil_of_length_eq_zero (by omega)
      exact absurd this hp
theorem gaU_take : ∀ (ts : List LitT) (n j : Nat), (gaU ts n).1 = 0 → (gaU (ts.take j) n).1 = 0
  | [], n, j, h => by rw [List.take_nil]; exact h
  | t :: ts, n, 0, h => rfl
  | t :: ts, n, j + 1, h => by
    rw [List.take_succ_cons]
    rw [show gaU (t :: ts) n = (if topB t = false then (120, n) else if (gaT t n).1 ≠ 0 then gaT t n else gaU ts (gaT t n).2) from rfl] at h
    rw [show gaU (t :: ts.take j) n = (if topB t = false then (120, n) else if (gaT t n).1 ≠ 0 then gaT t n else gaU (ts.take j) (gaT t n).2) from rfl]
    by_cases h1 : topB t = false
    · rw [if_pos h1] at h; cases h
    rw [if_neg h1] at h ⊢
    by_cases h2 : (gaT t n).1 ≠ 0
    · rw [if_pos h2] at h; exact absurd h h2
    rw [if_neg h2] at h ⊢
    exact gaU_take ts _ j h
/-- whole lines of a listing are a listing -/
theorem pr_cut (K : Co) (T P Q : Bs) (h : prP K = (0, T)) (hs : T = P ++ Q) (he : Ed P) (hp : P ≠ []) :
    ∃ K' : Co, prP K' = (0, P) ∧ (K'.args = K.args ∧ K'.temps = K.temps ∧ K'.stack = K.stack) ∧ (∀ t ∈ K'.ts, t ∈ K.ts) ∧ (∀ i, K'.ws.getD i 0 = K.ws.getD i 0 ∨ K'.ws.getD i 0 = 0) ∧ cntK K' = P.count 10 := by
  unfold prP at h
  split at h
  · cases h
  · next hb =>
    split at h
    · next hg => injection h with h3 h4; exact absurd h3 hg
    · next hg =>
      have hg0 : (gaU K.ts 0).1 = 0 := by simpa using hg
      split at h
      · cases h
      · next o ho =>
        injection h with _ h
        subst h
        have hnl : Nl ([99, 111, 100, 101] ++ numsW [K.args, K.temps, K.stack]) := nl_app (fun b hb => by simp at hb; rcases hb with rfl | rfl | rfl | rfl <;> decide) (nl_nums _)
        have hhd : headW K.args K.temps K.stack ++ K.ts.flatMap litW ++ o = ([99, 111, 100, 101] ++ numsW [K.args, K.temps, K.stack]) ++ 10 :: (K.ts.flatMap litW ++ o) := by unfold headW; simp
        rw [hhd] at hs
        obtain ⟨P1, rfl, e, he1⟩ := ed_split _ _ _ _ hnl hs he hp
        have hh2 : ∀ X : Bs, headW K.args K.temps K.stack ++ X = ([99, 111, 100, 101] ++ numsW [K.args, K.temps, K.stack]) ++ 10 :: X := fun X => by unfold headW; simp
        rcases lits_cut K.ts o P1 Q e he1 with ⟨j, hj, e3, hc⟩ | ⟨P', e3, e2, e4, hc⟩
        · refine ⟨⟨K.args, K.temps, K.stack, K.ts.take j, []⟩, ?_, ⟨rfl, rfl, rfl⟩, fun t ht => List.mem_of_mem_take ht, fun i => .inr (by simp), ?_⟩
          · unfold prP
            simp only [List.length_nil, Nat.zero_add]
            rw [if_neg (by rw [List.length_take]; omega), if_neg (by rw [gaU_take _ _ _ hg0]; simp), show lnW [] 1 0 = some [] from rfl]
            simp only [List.append_nil]
            rw [hh2, ← e3]
          · unfold cntK
            rw [List.count_append, count_nl hnl, List.count_cons_self, hc]
            simp only [List.length_nil, Nat.zero_add, List.length_take]
            rw [show cntI [] 1 0 = 0 from rfl]
            omega
        · obtain ⟨b, b1, b2, b3⟩ := ins_cut _ K.ws 0 o P' Q ho (by omega) e2 e4
          have hlen : (K.ws.take b).length = b := by rw [List.length_take]; omega
          obtain ⟨c1, c2⟩ := b3 (b + 1) (by omega)
          refine ⟨⟨K.args, K.temps, K.stack, K.ts, K.ws.take b⟩, ?_, ⟨rfl, rfl, rfl⟩, fun t ht => ht, fun i => ?_, ?_⟩
          · unfold prP
            simp only [hlen]
            rw [if_neg (by omega), if_neg hg, c1]
            simp only
            rw [List.append_assoc, hh2, ← e3]
          · by_cases hi : i < b
            · left
              show (K.ws.take b).getD i 0 = _
              rw [List.getD_eq_getElem?_getD, List.getD_eq_getElem?_getD, List.getElem?_take_of_lt hi]
            · right
              show (K.ws.take b).getD i 0 = _
              rw [List.getD_eq_getElem?_getD, List.getElem?_eq_none (by omega)]
              rfl
          · unfold cntK
            simp only [hlen]
            rw [List.count_append, count_nl hnl, List.count_cons_self, hc, c2]
            omega
/-- whole lines are read; and a spoilt one behind them is told -/
theorem par_cut (K : Co) (T P Q : Bs) (h : prP K = (0, T)) (hs : T = P ++ Q) (he : Ed P) (hp : P ≠ []) (hN : ∀ t ∈ K.ts, NmT t) (hr : ∀ i, r64 (K.ws.getD i 0)) (hd : r64 K.args ∧ r64 K.temps ∧ r64 K.stack) :
    (∃ c, parP P = .inl c) ∧ ∀ x : Bs, parP (P ++ 63 :: x) = .inr (P.count 10 + 1) := by
  obtain ⟨K', h1, ⟨a1, a2, a3⟩, h3, h4, h5⟩ := pr_cut K T P Q h hs he hp
  have hN' : ∀ t ∈ K'.ts, NmT t := fun t ht => hN t (h3 t ht)
  have hr' : ∀ i, r64 (K'.ws.getD i 0) := fun i => by
    rcases h4 i with e | e
    · rw [e]; exact hr i
    · rw [e]; exact r64_0
  have hd' : r64 K'.args ∧ r64 K'.temps ∧ r64 K'.stack := by rw [a1, a2, a3]; exact hd
  refine ⟨⟨_, by
    have := par_pr K' P h1 hN' hr' hd' [] (fun b hb => by cases hb) nn_nil
    rwa [List.append_nil, if_pos rfl] at this⟩, fun x => ?_⟩
  have := par_pr K' P h1 hN' hr' hd' (63 :: x) (fun b hb => by
    have : 63 = b := by simpa using hb
    rw [← this]; exact ⟨by decide, by decide⟩) (nn_cons (by decide))
  rw [this, if_neg (by simp), h5]
theorem par_nil : parP [] = .inr 1 := rfl
/-- the ends of lines, so far -/
structure EndsOk (T : Bs) (i : Nat) (E : List Int) : Prop where
  len : E.length = 1 + (T.take i).count 10
  each : ∀ k, k < E.length → ∃ e : Nat, E[k]? = some (e : Int) ∧ e ≤ T.length ∧ Ed (T.take e) ∧ (T.take e).count 10 = k
theorem EndsOk.zero (T : Bs) : EndsOk T 0 [0] := ⟨by simp, fun k hk => by
  have : k = 0 := by simpa using hk
  subst this
  exact ⟨0, rfl, by omega, fun b hb => by simp at hb, by simp⟩⟩
theorem take_one (T : Bs) (i : Nat) (b : UInt8) (h : T[i]? = some b) : T.take (i + 1) = T.take i ++ [b] := by
  rw [List.take_add_one, h]
  rfl
theorem EndsOk.more {T : Bs} {i : Nat} {E : List Int} (h : EndsOk T i E) (hb : T[i]? = some 10) : EndsOk T (i + 1) (E ++ [((i + 1 : Nat) : Int)]) := by
  have hl : i < T.length := (List.getElem?_eq_some_iff.1 hb).1
  have e := take_one T i 10 hb
  have hl1 := h.len
  refine ⟨by rw [e, List.count_append, List.length_append, h.len]; simp; omega, fun k hk => ?_⟩
  rcases Nat.lt_or_ge k E.length with q | q
  · obtain ⟨x, x1, x2⟩ := h.each k q
    exact ⟨x, by rw [List.getElem?_append_left q]; exact x1, x2⟩
  · have hk2 : k = E.length := by rw [List.length_append, List.length_singleton] at hk; omega
    subst hk2
    refine ⟨i + 1, by rw [List.getElem?_append_right (Nat.le_refl _)]; simp, by omega, fun b hb2 => ?_, ?_⟩
    · rw [e, List.getLast?_append] at hb2
      simpa using hb2.symm
    · rw [e, List.count_append, hl1]; simp; omega
theorem EndsOk.skip {T : Bs} {i : Nat} {E : List Int} (h : EndsOk T i E) (b : UInt8) (hb : T[i]? = some b) (hne : b ≠ 10) : EndsOk T (i + 1) E := by
  refine ⟨?_, h.each⟩
  have h0 : [b].count 10 = 0 := List.count_eq_zero.2 (by simpa using fun e => hne e.symm)
  rw [h.len, take_one T i b hb, List.count_append, h0]
  omega
theorem EndsOk.le {T : Bs} {i : Nat} {E : List Int} (h : EndsOk T i E) : E.length ≤ 1 + i := by
  have := List.count_le_length (a := (10 : UInt8)) (l := T.take i)
  rw [List.length_take] at this
  have := h.len
  omega
/-- a place among the ends is a cut -/
theorem EndsOk.cut {T : Bs} {i : Nat} {E : List Int} (h : EndsOk T i E) {K : Co} (hpr : prP K = (0, T)) (hN : ∀ t ∈ K.ts, NmT t) (hr : ∀ i, r64 (K.ws.getD i 0)) (hd : r64 K.args ∧ r64 K.temps ∧ r64 K.stack) {k : Nat} (hk : k < E.length) :
    ∃ e : Nat, E[k]? = some (e : Int) ∧ e ≤ T.length ∧ (k = 0 → parP (T.take e) = .inr 1) ∧ (k ≠ 0 → (∃ c, parP (T.take e) = .inl c) ∧ ∀ x : Bs, parP (T.take e ++ 63 :: x) = .inr (k + 1)) := by
  obtain ⟨e, h1, h2, h3, h4⟩ := h.each k hk
  refine ⟨e, h1, h2, fun h0 => ?_, fun h0 => ?_⟩
  · subst h0
    have : T.take e = [] := by
      by_cases hp : T.take e = []
      · exact hp
      · exact absurd (ed_mem h3 hp) (List.count_eq_zero.1 h4)
    rw [this]
    exact par_nil
  · have hp : T.take e ≠ [] := fun hp => by rw [hp] at h4; simp at h4; omega
    have := par_cut K T (T.take e) (T.drop e) hpr (List.take_append_drop e T).symm h3 hp hN hr hd
    rw [h4] at this
    exact this
end Go.Proofs.YtclkoffnjiiioaaGreatDoor
