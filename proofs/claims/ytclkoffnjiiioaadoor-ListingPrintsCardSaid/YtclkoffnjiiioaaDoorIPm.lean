import Derived.Test.YtclkoffnjiiioaaDoorIWw
namespace Go.Proofs.YtclkoffnjiiioaaDoor
open Go.RowKit
set_option linter.unusedVariables false
set_option linter.unusedSimpArgs false
/-- a literal whose numbers are Go's -/
inductive NmT : LitT → Prop
  | mk (t : LitT) (h : -9223372036854775808 ≤ t.num ∧ t.num ≤ 9223372036854775807) (k : ∀ u ∈ t.kids, NmT u) : NmT t
theorem NmT.num {t : LitT} (h : NmT t) : -9223372036854775808 ≤ t.num ∧ t.num ≤ 9223372036854775807 := by cases h; assumption
theorem NmT.kids {t : LitT} (h : NmT t) : ∀ u ∈ t.kids, NmT u := by cases h; assumption
theorem may_kind {t : LitT} (hm : mayB t = true) : 1 ≤ t.kind ∧ t.kind ≤ 7 := by
  unfold mayB at hm
  by_cases h1 : t.kind = 1 ∨ t.kind = 3
  · omega
  · rw [if_neg h1] at hm
    by_cases h2 : t.kind = 2
    · omega
    · rw [if_neg h2] at hm
      by_cases h4 : t.kind = 4
      · omega
      · rw [if_neg h4] at hm
        by_cases h5 : t.kind = 5 ∨ t.kind = 6 ∨ t.kind = 7
        · omega
        · rw [if_neg h5] at hm; cases hm
theorem may_text {t : LitT} (h : mayB t = true) (hk : t.kind = 2) : t.text.size ≤ 256 := by
  unfold mayB at h
  rw [if_neg (by omega), if_pos hk] at h
  simp at h
  omega
theorem may_arr {t : LitT} (h : mayB t = true) (hk : t.kind = 4) : t.kids.length ≤ 32 := by
  unfold mayB at h
  rw [if_neg (by omega), if_neg (by omega), if_pos hk] at h
  simp at h
  omega
mutual
theorem fineT : ∀ (t : LitT) (n : Nat), mayB t = true → NmT t → (gaT t n).1 = 0 → FineT t
  | .mk k x m p c kids, n, hm, hn, h => by
    refine .mk _ (may_kind hm) hn.num (fun hk => may_text hm hk) (fun hk => may_arr hm hk) (fun hk => ?_)
    rw [gaT_at, if_pos hk] at h
    exact fineL kids n hn.kids h
theorem fineL : ∀ (ts : List LitT) (n : Nat), (∀ t ∈ ts, NmT t) → (gaL ts n).1 = 0 → ∀ t ∈ ts, FineT t
  | [], n, hn, h => by simp
  | t :: ts, n, hn, h => by
    rw [gaL_cons] at h
    by_cases h1 : mayB t = false
    · rw [if_pos h1] at h; cases h
    · rw [if_neg h1] at h
      by_cases h2 : 4096 < n + 1
      · rw [if_pos h2] at h; cases h
      · rw [if_neg h2] at h
        by_cases h3 : (gaT t (n + 1)).1 ≠ 0
        · rw [if_pos h3] at h; exact absurd h h3
        · rw [if_neg h3] at h
          intro u hu
          rcases List.mem_cons.1 hu with e | hu
          · rw [e]; exact fineT t (n + 1) (by simpa using h1) (hn t (by simp)) (by simpa using h3)
          · exact fineL ts _ (fun v hv => hn v (by simp [hv])) h u hu
end
theorem fineU : ∀ (ts : List LitT) (n : Nat), (∀ t ∈ ts, NmT t) → (gaU ts n).1 = 0 → ∀ t ∈ ts, FineT t
  | [], n, hn, h => by simp
  | t :: ts, n, hn, h => by
    rw [show gaU (t :: ts) n = (if topB t = false then (120, n) else if (gaT t n).1 ≠ 0 then gaT t n else gaU ts (gaT t n).2) from rfl] at h
    by_cases h1 : topB t = false
    · rw [if_pos h1] at h; cases h
    · rw [if_neg h1] at h
      by_cases h3 : (gaT t n).1 ≠ 0
      · rw [if_pos h3] at h; exact absurd h h3
      · rw [if_neg h3] at h
        intro u hu
        rcases List.mem_cons.1 hu with e | hu
        · rw [e]
          refine fineT t n ?_ (hn t (by simp)) (by simpa using h3)
          unfold topB at h1
          simp at h1
          exact h1.2
        · exact fineU ts _ (fun v hv => hn v (by simp [hv])) h u hu
theorem textW_len (s : ByteArray) (h : s.size ≤ 256) : (textW s).length ≤ 1026 := by
  unfold textW
  have := esc_len s.data.toList
  have h1 : s.data.toList.length = s.data.size := Array.length_toList
  have h2 : s.data.size = s.size := rfl
  simp only [List.length_cons, List.length_append, List.length_nil]
  omega
mutual
theorem wrT_len : ∀ (t : LitT) (n : Nat), FineT t → (gaT t n).1 = 0 → n ≤ (gaT t n).2 ∧ (wrT t).length ≤ 2202 * ((gaT t n).2 - n) + 1100
  | .mk k x m p c kids, n, hf, h => by
    obtain ⟨_, h0, h1, h2, h3, hk⟩ := hf
    have hi := itoa_len m h1.1 h1.2
    rw [gaT_at] at h ⊢
    rw [wrT_at]
    by_cases e4 : (LitT.mk k x m p c kids).kind = 4
    · rw [if_pos e4] at h ⊢
      rw [if_neg (by omega), if_neg (by omega), if_neg (by omega), if_neg (by omega), if_neg (by omega), if_neg (by omega)]
      have := wrL_len kids n true (hk e4) h
      simp only [List.length_cons, List.length_append, List.length_nil]
      have hkk : (LitT.mk k x m p c kids).kids = kids := rfl
      rw [hkk]
      omega
    · rw [if_neg e4]
      refine ⟨Nat.le_refl _, ?_⟩
      simp only [Nat.sub_self, Nat.mul_zero, Nat.zero_add]
      by_cases e1 : (LitT.mk k x m p c kids).kind = 1
      · rw [if_pos e1]; show (Lib.itoa m).length ≤ _; omega
      · rw [if_neg e1]
        by_cases e2 : (LitT.mk k x m p c kids).kind = 2
        · rw [if_pos e2]; have := textW_len _ (h2 e2); omega
        · rw [if_neg e2]
          by_cases e3 : (LitT.mk k x m p c kids).kind = 3
          · rw [if_pos e3, List.length_cons]; show (Lib.itoa m).length + 1 ≤ _; omega
          · rw [if_neg e3]
            by_cases e5 : (LitT.mk k x m p c kids).kind = 5
            · rw [if_pos e5]; simp
            · rw [if_neg e5]
              by_cases e6 : (LitT.mk k x m p c kids).kind = 6
              · rw [if_pos e6]; simp
              · rw [if_neg e6]
                by_cases e7 : (LitT.mk k x m p c kids).kind = 7
                · rw [if_pos e7]; simp
                · omega
theorem wrL_len : ∀ (ts : List LitT) (n : Nat) (f : Bool), (∀ t ∈ ts, FineT t) → (gaL ts n).1 = 0 → n ≤ (gaL ts n).2 ∧ (wrL ts f).length ≤ 2202 * ((gaL ts n).2 - n)
  | [], n, f, hf, h => by rw [gaL_nil, wrL_nil]; simp
  | t :: ts, n, f, hf, h => by
    rw [gaL_cons] at h ⊢
    by_cases h1 : mayB t = false
    · rw [if_pos h1] at h; cases h
    · rw [if_neg h1] at h ⊢
      by_cases h2 : 4096 < n + 1
      · rw [if_pos h2] at h; cases h
      · rw [if_neg h2] at h ⊢
        by_cases h3 : (gaT t (n + 1)).1 ≠ 0
        · rw [if_pos h3] at h; exact absurd h h3
        · rw [if_neg h3] at h ⊢
          have q1 := wrT_len t (n + 1) (hf t (by simp)) (by simpa using h3)
          have q2 := wrL_len ts (gaT t (n + 1)).2 false (fun u hu => hf u (by simp [hu])) h
          rw [wrL_cons]
          have q3 : (if f = true then ([] : List UInt8) else [32]).length ≤ 1 := by split <;> simp
          simp only [List.length_append]
          omega
end
theorem lnW_len (ws : List Int) (hr : ∀ i, -9223372036854775808 ≤ ws.getD i 0 ∧ ws.getD i 0 ≤ 9223372036854775807) (hn : ws.length ≤ 4096) : ∀ (f a : Nat) (out : List UInt8), a ≤ ws.length → lnW ws f a = some out → out.length ≤ 200 * (ws.length - a)
  | 0, a, out, ha, h => by cases h
  | f + 1, a, out, ha, h => by
    unfold lnW at h
    by_cases hlt : a < ws.length
    · rw [if_pos hlt] at h
      by_cases hc : isOp (ws.getD a 0) = true ∧ a + 1 + opd (ws.getD a 0).toNat ≤ ws.length
      · rw [if_pos hc] at h
        cases hq : lnW ws f (a + 1 + opd (ws.getD a 0).toNat) with
        | none => rw [hq] at h; cases h
        | some r =>
          rw [hq] at h
          have h2 := Option.some.inj h
          have ih := lnW_len ws hr hn f _ r hc.2 hq
          have hod := opd_le (ws.getD a 0).toNat
          have hnm := nmB_le (ws.getD a 0).toNat
          have hi := itoa_len (a : Int) (by omega) (by omega)
          have hnw := numsW_len ((ws.drop (a + 1)).take (opd (ws.getD a 0).toNat)) (fun n hn => by
            obtain ⟨i, hi⟩ := List.getElem?_of_mem (List.mem_of_mem_drop (List.mem_of_mem_take hn))
            have := hr i
            rw [List.getD_eq_getElem?_getD, hi] at this
            exact this)
          have hnt : ((ws.drop (a + 1)).take (opd (ws.getD a 0).toNat)).length ≤ opd (ws.getD a 0).toNat := by rw [List.length_take]; omega
          have hsz : (nmB (ws.getD a 0).toNat).data.toList.length = (nmB (ws.getD a 0).toNat).size := by rw [Array.length_toList]; rfl
          rw [← h2, List.length_append]
          unfold insW
          simp only [List.length_append, List.length_singleton]
          omega
      · rw [if_neg hc] at h; cases h
    · rw [if_neg hlt] at h
      have := Option.some.inj h
      subst this
      simp
end Go.Proofs.YtclkoffnjiiioaaDoor
