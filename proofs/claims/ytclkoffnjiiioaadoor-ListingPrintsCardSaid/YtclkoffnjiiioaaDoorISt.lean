import Derived.Test.YtclkoffnjiiioaaDoorISm
namespace Go.Proofs.YtclkoffnjiiioaaDoor
open Go.RowKit
set_option linter.unusedVariables false
set_option linter.unusedSimpArgs false
theorem may_st {a b : LitT} (h : stT a = stT b) : mayB a = mayB b := by
  obtain ⟨h1, h2, h3, h4⟩ := stT_inj h
  have hl : a.kids.length = b.kids.length := by rw [← stL_len, ← stL_len b.kids, h4]
  unfold mayB
  rw [h1, h2, h3, hl]
theorem top_st {a b : LitT} (h : stT a = stT b) : topB a = topB b := by
  unfold topB
  rw [may_st h, (stT_inj h).1]
mutual
theorem st_T : ∀ (a b : LitT), stT a = stT b → (∀ n, gaT a n = gaT b n) ∧ wrT a = wrT b
  | .mk k x m p c ks, b, h => by
    obtain ⟨h1, h2, h3, h4⟩ := stT_inj h
    have hL := st_L ks b.kids h4
    refine ⟨fun n => ?_, ?_⟩
    · rw [gaT_at, gaT_at b, h1]
      show (if b.kind = 4 then gaL ks n else (0, n)) = _
      rw [hL.1 n]
    · rw [wrT_at, wrT_at b, h1, h2, h3]
      show (if b.kind = 1 then Lib.itoa b.num else if b.kind = 2 then textW b.text else if b.kind = 3 then 35 :: Lib.itoa b.num else if b.kind = 5 then [110, 105, 108] else if b.kind = 6 then [116, 114, 117, 101] else if b.kind = 7 then [102, 97, 108, 115, 101] else 40 :: (wrL ks true ++ [41])) = _
      rw [hL.2 true]
theorem st_L : ∀ (xs ys : List LitT), stL xs = stL ys → (∀ n, gaL xs n = gaL ys n) ∧ ∀ f, wrL xs f = wrL ys f
  | [], ys, h => by
    cases ys with
    | nil => exact ⟨fun _ => rfl, fun _ => rfl⟩
    | cons b ys => rw [stL_nil, stL_cons] at h; cases h
  | a :: xs, ys, h => by
    cases ys with
    | nil => rw [stL_nil, stL_cons] at h; cases h
    | cons b ys =>
      rw [stL_cons, stL_cons] at h
      injection h with ha hr
      have hT := st_T a b ha
      have hL := st_L xs ys hr
      refine ⟨fun n => ?_, fun f => ?_⟩
      · rw [gaL_cons, gaL_cons, may_st ha, hT.1, hL.1]
      · rw [wrL_cons, wrL_cons, hT.2, hL.2]
end
theorem st_U : ∀ (xs ys : List LitT), stL xs = stL ys → (∀ n, gaU xs n = gaU ys n) ∧ xs.flatMap litW = ys.flatMap litW
  | [], ys, h => by
    cases ys with
    | nil => exact ⟨fun _ => rfl, rfl⟩
    | cons b ys => rw [stL_nil, stL_cons] at h; cases h
  | a :: xs, ys, h => by
    cases ys with
    | nil => rw [stL_nil, stL_cons] at h; cases h
    | cons b ys =>
      rw [stL_cons, stL_cons] at h
      injection h with ha hr
      have hT := st_T a b ha
      have hL := st_U xs ys hr
      refine ⟨fun n => ?_, ?_⟩
      · show (if topB a = false then (120, n) else if (gaT a n).1 ≠ 0 then gaT a n else gaU xs (gaT a n).2) = (if topB b = false then (120, n) else if (gaT b n).1 ≠ 0 then gaT b n else gaU ys (gaT b n).2)
        rw [top_st ha, hT.1, hL.1]
      · rw [List.flatMap_cons, List.flatMap_cons, hL.2]
        unfold litW
        rw [(stT_inj ha).1, hT.2]
/-- what Print answers hangs on what a code says alone -/
theorem prP_st (K : Co) (us : List LitT) (h : stL us = stL K.ts) : prP ⟨K.args, K.temps, K.stack, us, K.ws⟩ = prP K := by
  have hu := st_U us K.ts h
  have hl : us.length = K.ts.length := by rw [← stL_len, ← stL_len K.ts, h]
  unfold prP
  simp only [hl, hu.1, hu.2]
end Go.Proofs.YtclkoffnjiiioaaDoor
