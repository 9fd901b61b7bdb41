import Derived.Test.YtklfnjlenbgmoaaDoorAG23HInvS
namespace Go.Proofs.YtklfnjlenbgmoaaDoor
open Go.RowKit
set_option linter.unusedVariables false
theorem getD_seat (L : List (Nat × Nat × Nat)) (k i : Nat) (v : Nat × Nat × Nat) (hk : k < L.length) : (L.set k v).getD i (0, 0, 0) = if i = k then v else L.getD i (0, 0, 0) := by
  rw [List.getD_eq_getElem?_getD, List.getElem?_set]
  by_cases e : k = i
  · rw [if_pos e, if_pos e.symm, if_pos hk]; rfl
  · rw [if_neg e, if_neg (fun e2 => e e2.symm), List.getD_eq_getElem?_getD]
theorem getD_nat (L : List Nat) (k i : Nat) (v : Nat) (hk : k < L.length) : (L.set k v).getD i 0 = if i = k then v else L.getD i 0 := by
  rw [List.getD_eq_getElem?_getD, List.getElem?_set]
  by_cases e : k = i
  · rw [if_pos e, if_pos e.symm, if_pos hk]; rfl
  · rw [if_neg e, if_neg (fun e2 => e e2.symm), List.getD_eq_getElem?_getD]
theorem getD_piece (L : List Int) (p n d : Nat) (hd : d < n) : ((L.drop p).take n).getD d 0 = L.getD (p + d) 0 := by
  rw [List.getD_eq_getElem?_getD, List.getD_eq_getElem?_getD, List.getElem?_take, if_pos hd, List.getElem?_drop]
/-- one slides -/
theorem Mid.next {H : HS} {M : MS} {k : Nat} {x : Sl} {T : List Th} (hv : InvV H M) (h : Mid H M.things k x T) (hk : k < H.order.length) (h0 : H.order.getD k 0 ≠ 0) : ∃ T', Mid H M.things (k + 1) (slideStep x k) T' := by
  obtain ⟨i0, hi0, hlt, hb, ht, s1, s2, hr, hen, xs, hT, hsl, -⟩ := h.stepOk hv hk h0
  have h2 := lenN_two (M.things.getD i0 noTh).slots.length (M.things.getD i0 noTh).fmt
  have hxo : x.H.order.getD k 0 = i0 + 1 := by rw [h.ordA k (Nat.le_refl _)]; exact hi0
  have hml := h.ml
  have hol := h.ol
  have hxsl := h.sl
  have htk := h.tk
  have hTl := h.alike.len
  have hstep : slideStep x k = ⟨{ x.H with mem := splice x.H.mem x.en ((x.H.mem.drop (M.things.getD i0 noTh).place).take (lenN (M.things.getD i0 noTh).slots.length (M.things.getD i0 noTh).fmt)), seats := x.H.seats.set (i0 + 1) (x.en, lenN (M.things.getD i0 noTh).slots.length (M.things.getD i0 noTh).fmt, x.turns), order := x.H.order.set x.turns (i0 + 1) }, x.turns + 1, x.en + lenN (M.things.getD i0 noTh).slots.length (M.things.getD i0 noTh).fmt⟩ := by
    unfold slideStep
    rw [if_neg (by omega), hxo, xs, s1, s2]
  rw [hstep]
  have hg := fun i => getD_set T i0 i (placed (T.getD i0 noTh) x.en) (by omega)
  have hS := fun i => getD_seat x.H.seats (i0 + 1) i (x.en, lenN (M.things.getD i0 noTh).slots.length (M.things.getD i0 noTh).fmt, x.turns) (by omega)
  have hO := fun i => getD_nat x.H.order x.turns i (i0 + 1) (by omega)
  have hpl : ((x.H.mem.drop (M.things.getD i0 noTh).place).take (lenN (M.things.getD i0 noTh).slots.length (M.things.getD i0 noTh).fmt)).length = lenN (M.things.getD i0 noTh).slots.length (M.things.getD i0 noTh).fmt := by rw [List.length_take, List.length_drop]; omega
  have hM := fun p => splice_at x.H.mem ((x.H.mem.drop (M.things.getD i0 noTh).place).take (lenN (M.things.getD i0 noTh).slots.length (M.things.getD i0 noTh).fmt)) x.en p (by rw [hpl]; omega)
  rw [hpl] at hM
  have hMl := length_splice x.H.mem x.en ((x.H.mem.drop (M.things.getD i0 noTh).place).take (lenN (M.things.getD i0 noTh).slots.length (M.things.getD i0 noTh).fmt)) (by rw [hpl]; omega)
  have hpc := fun d hd => getD_piece x.H.mem (M.things.getD i0 noTh).place (lenN (M.things.getD i0 noTh).slots.length (M.things.getD i0 noTh).fmt) d hd
  have hat : ∀ i, (M.things.getD i noTh).there = true → (H.seats.getD (i + 1) (0, 0, 0)).2.2 = k → i = i0 := fun i hbi e => by
    have := (hv.turn i (th_in hbi) hbi).2
    rw [e] at this
    omega
  have hafter : ∀ i, (M.things.getD i noTh).there = true → k < (H.seats.getD (i + 1) (0, 0, 0)).2.2 → (M.things.getD i0 noTh).place + lenN (M.things.getD i0 noTh).slots.length (M.things.getD i0 noTh).fmt ≤ (M.things.getD i noTh).place := fun i hbi hlt2 => by
    obtain ⟨u1, u2⟩ := hv.turn i (th_in hbi) hbi
    have := hv.rise k _ hlt2 u1 h0 (by rw [u2]; omega)
    rw [u2, hi0, s1, s2, (hv.seat i (th_in hbi) hbi).1] at this
    exact this
  have hpick : pickTo T x.en T.length = some i0 := by
    refine pickTo_is T x.en i0 (by rw [hT]; exact hb) (by rw [hT]; exact hen) (fun i hne hbi hA => ?_) _ (by omega)
    have hbi2 : (M.things.getD i noTh).there = true := by rw [← (h.alike.at_ i).1]; exact hbi
    have h2i := lenN_two (M.things.getD i noTh).slots.length (M.things.getD i noTh).fmt
    rcases Nat.lt_trichotomy (H.seats.getD (i + 1) (0, 0, 0)).2.2 k with e | e | e
    · obtain ⟨t, t1, t2, t3, t4, t5⟩ := h.done i hbi2 e
      omega
    · exact absurd (hat i hbi2 e) hne
    · have := hafter i hbi2 e
      obtain ⟨a1, a2, a3⟩ := h.ahead i hbi2 (by omega)
      rw [hT, a2]
      omega
  generalize hLn : lenN (M.things.getD i0 noTh).slots.length (M.things.getD i0 noTh).fmt = L0 at *
  generalize hsp : splice x.H.mem x.en ((x.H.mem.drop (M.things.getD i0 noTh).place).take L0) = MM at *
  generalize hse : x.H.seats.set (i0 + 1) (x.en, L0, x.turns) = SS at *
  generalize hoe : x.H.order.set x.turns (i0 + 1) = OO at *
  have hSl : SS.length = x.H.seats.length := by rw [← hse, List.length_set]
  have hOl : OO.length = x.H.order.length := by rw [← hoe, List.length_set]
  refine ⟨T.set i0 (placed (T.getD i0 noTh) x.en), ?_⟩
  have hrun := fun r => slidN_some T x.en r i0 hpick
  have halike := h.alike.place i0 x.en (by omega)
  generalize hTe : T.set i0 (placed (T.getD i0 noTh) x.en) = T' at *
  have hT0 : (T'.getD i0 noTh).place = x.en := by rw [hg, if_pos rfl]; rfl
  have hTo : ∀ i, i ≠ i0 → T'.getD i noTh = T.getD i noTh := fun i hne => by rw [hg, if_neg hne]
  have hS0 : SS.getD (i0 + 1) (0, 0, 0) = (x.en, L0, x.turns) := by rw [hS, if_pos rfl]
  have hSo : ∀ i, i ≠ i0 → SS.getD (i + 1) (0, 0, 0) = x.H.seats.getD (i + 1) (0, 0, 0) := fun i hne => by rw [hS, if_neg (by omega)]
  exact {
    alike := halike
    run := fun r => by
      show slidN M.things 0 (x.turns + 1 + r) = slidN T' (x.en + L0) r
      rw [Nat.add_assoc, Nat.add_comm 1 r, h.run (r + 1), hrun r, hT, hLn]
    ml := by show MM.length = _; omega
    ol := by show OO.length = _; omega
    sl := by show SS.length = _; omega
    rest := h.rest
    tk := by show x.turns + 1 ≤ k + 1; omega
    off := fun o ho => by
      show SS.getD o (0, 0, 0) = _
      rw [hS, if_neg (fun e => by
        rcases ho with ho | ho
        · omega
        · rw [e, Nat.add_sub_cancel, hb] at ho; cases ho)]
      exact h.off o ho
    still := fun i hi => by
      rw [hTo i (fun e => by rw [e, hb] at hi; cases hi)]
      exact h.still i hi
    ahead := fun i hbi hki => by
      have hne : i ≠ i0 := fun e => by rw [e, ht] at hki; omega
      obtain ⟨a1, a2, a3⟩ := h.ahead i hbi (by omega)
      have := hafter i hbi (by omega)
      refine ⟨?_, by rw [hTo i hne]; exact a2, ?_⟩
      · show SS.getD (i + 1) (0, 0, 0) = _
        rw [hSo i hne]; exact a1
      · show x.en + L0 ≤ _; omega
    done := fun i hbi hki => by
      show ∃ t, SS.getD (i + 1) (0, 0, 0) = _ ∧ t < x.turns + 1 ∧ OO.getD t 0 = i + 1 ∧ _ ≤ x.en + L0 ∧ _ ∧ ∀ d, _ → MM.getD _ 0 = _
      by_cases e : i = i0
      · subst e
        rw [hT0, hLn]
        refine ⟨x.turns, hS0, by omega, by rw [hO, if_pos rfl], Nat.le_refl _, h.deep, fun d hd => ?_⟩
        rw [hM, if_pos (by omega), Nat.add_sub_cancel_left, hpc d hd, h.memA _ (by omega)]
      · have hne : (H.seats.getD (i + 1) (0, 0, 0)).2.2 ≠ k := fun e2 => e (hat i hbi e2)
        obtain ⟨t, t1, t2, t3, t4, t5, t6⟩ := h.done i hbi (by omega)
        rw [hTo i e]
        refine ⟨t, by rw [hSo i e]; exact t1, by omega, by rw [hO, if_neg (by omega)]; exact t3, by omega, t5, fun d hd => ?_⟩
        rw [hM, if_neg (by omega)]
        exact t6 d hd
    ord := fun r hr => by
      have hr2 : r < x.turns + 1 := hr
      show ∃ i, OO.getD r 0 = i + 1 ∧ _ ∧ _ ∧ (SS.getD (i + 1) (0, 0, 0)).2.2 = r
      by_cases e : r = x.turns
      · exact ⟨i0, by rw [hO, if_pos e], hb, by omega, by rw [hS0, e]⟩
      · obtain ⟨i, i1, i2, i3, i4⟩ := h.ord r (by omega)
        have hne : i ≠ i0 := fun e2 => by rw [e2, ht] at i3; omega
        exact ⟨i, by rw [hO, if_neg e]; exact i1, i2, by omega, by rw [hSo i hne]; exact i4⟩
    ordA := fun r hr => by
      show OO.getD r 0 = _
      rw [hO, if_neg (by omega)]
      exact h.ordA r (by omega)
    rise := fun i j hij hj => by
      have hj2 : j < x.turns + 1 := hj
      show (SS.getD (OO.getD i 0) (0, 0, 0)).1 + (SS.getD (OO.getD i 0) (0, 0, 0)).2.1 ≤ (SS.getD (OO.getD j 0) (0, 0, 0)).1
      obtain ⟨q, q1, q2, q3, q4⟩ := h.ord i (by omega)
      have hqn : q ≠ i0 := fun e2 => by rw [e2, ht] at q3; omega
      have hi3 := h.rise i j hij
      rw [hO i, if_neg (by omega), q1, hSo q hqn]
      by_cases e : j = x.turns
      · rw [hO j, if_pos e, hS0]
        obtain ⟨t, t1, t2, t3, t4, t5, t6⟩ := h.done q q2 q3
        rw [t1]
        exact t4
      · obtain ⟨z, z1, z2, z3, z4⟩ := h.ord j (by omega)
        have hzn : z ≠ i0 := fun e2 => by rw [e2, ht] at z3; omega
        have := hi3 (by omega)
        rw [q1, z1] at this
        rw [hO j, if_neg e, z1, hSo z hzn]
        exact this
    memA := fun p hp => by
      have hp2 : x.en + L0 ≤ p := hp
      show MM.getD p 0 = _
      rw [hM, if_neg (by omega)]
      exact h.memA p (by omega)
    cov := fun p hp => by
      have hp2 : p < x.en + L0 := hp
      by_cases e : p < x.en
      · obtain ⟨i, i1, i2, i3, i4⟩ := h.cov p e
        have hne : i ≠ i0 := fun e2 => by rw [e2, ht] at i2; omega
        exact ⟨i, i1, by omega, by rw [hTo i hne]; exact i3, by rw [hTo i hne]; exact i4⟩
      · exact ⟨i0, hb, by omega, by rw [hT0]; omega, by rw [hT0, hLn]; exact hp2⟩
    deep := by have := h.deep; show 2 * (x.turns + 1) ≤ x.en + L0; omega
    top := fun _ => ⟨i0, hb, by omega, by rw [hT0, hLn]⟩ }
theorem InvV.mid {H : HS} {M : MS} (hv : InvV H M) : ∀ k, k ≤ H.order.length → ∃ T, Mid H M.things k (slideTo H k) T := by
  intro k
  induction k with
  | zero => intro _; exact ⟨_, mid_start H M.things⟩
  | succ k ih =>
    intro hk
    obtain ⟨T, h⟩ := ih (by omega)
    show ∃ T, Mid H M.things (k + 1) (slideStep (slideTo H k) k) T
    by_cases h0 : H.order.getD k 0 = 0
    · have e : slideStep (slideTo H k) k = slideTo H k := by
        unfold slideStep
        rw [if_pos (by rw [h.ordA k (Nat.le_refl _)]; exact h0)]
      rw [e]
      exact ⟨T, h.skip hv h0⟩
    · exact h.next hv (by omega) h0
theorem InvV.slideOk {H : HS} {M : MS} (hv : InvV H M) : SlideOk H where
  step := fun k hk hne => by
    obtain ⟨T, h⟩ := hv.mid k (by omega)
    have e := h.ordA k (Nat.le_refl _)
    rw [e] at hne ⊢
    obtain ⟨i0, hi0, _, _, _, _, _, _, _, _, _, _, hs⟩ := h.stepOk hv hk hne
    rw [hi0]
    exact hs
  m1 := by have := hv.safe.small.mem; have := hv.safe.small.words; omega
  r1 := by have := hv.safe.order; omega
  t1 := by have := hv.safe.seats; omega
end Go.Proofs.YtklfnjlenbgmoaaDoor
namespace Go.Proofs.YtklfnjlenbgmoaaDoor
open Go.RowKit
set_option linter.unusedVariables false
/-- they have slid together: the heap's and the model's -/
theorem InvV.slide {H : HS} {M : MS} (hv : InvV H M) : Inv (slideH H) { M with things := slidN M.things 0 (thereTo M.things M.things.length) } := by
  obtain ⟨T, h⟩ := hv.mid H.order.length (Nat.le_refl _)
  have hdone : ∀ i, (M.things.getD i noTh).there = true → (H.seats.getD (i + 1) (0, 0, 0)).2.2 < H.order.length := fun i hb => (hv.turn i (th_in hb) hb).1
  have hen := (slideTo_len H hv.slideOk H.order.length (Nat.le_refl _)).2.2.2.2
  unfold slideH
  generalize slideTo H H.order.length = x at *
  have hml := h.ml
  have hol := h.ol
  have hxsl := h.sl
  have htk := h.tk
  have hTl := h.alike.len
  obtain ⟨e1, e2, e3, e4, e5, e6⟩ := h.rest
  have hb : ∀ i, (T.getD i noTh).there = (M.things.getD i noTh).there := fun i => (h.alike.at_ i).1
  have hln : ∀ i, lenN (T.getD i noTh).slots.length (T.getD i noTh).fmt = lenN (M.things.getD i noTh).slots.length (M.things.getD i noTh).fmt := fun i => by rw [(h.alike.at_ i).2.1, (h.alike.at_ i).2.2.1]
  have hD := fun i hbi => h.done i hbi (hdone i hbi)
  have hres : slidN M.things 0 (thereTo M.things M.things.length) = T := by
    have hc : x.turns ≤ thereTo M.things M.things.length := by
      refine thereTo_many x.turns M.things (fun r => x.H.order.getD r 0 - 1) (fun r hr => ?_) (fun i j hi hj e => ?_)
      · obtain ⟨i, i1, i2, i3, i4⟩ := h.ord r hr
        simp only [i1, Nat.add_sub_cancel]
        exact i2
      · obtain ⟨p, p1, p2, p3, p4⟩ := h.ord i hi
        obtain ⟨q, q1, q2, q3, q4⟩ := h.ord j hj
        simp only [p1, q1, Nat.add_sub_cancel] at e
        rw [e] at p4
        omega
    have := h.run (thereTo M.things M.things.length - x.turns)
    rw [show x.turns + (thereTo M.things M.things.length - x.turns) = thereTo M.things M.things.length from by omega] at this
    rw [this]
    have hno := pickTo_no T x.en (fun i hbi => by
      rw [hb] at hbi
      obtain ⟨t, t1, t2, t3, t4, t5, t6⟩ := hD i hbi
      have := lenN_two (M.things.getD i noTh).slots.length (M.things.getD i noTh).fmt
      omega) T.length
    cases thereTo M.things M.things.length - x.turns with
    | zero => rfl
    | succ n => exact slidN_none T x.en n hno
  rw [hres]
  have hsm := hv.safe.small
  have hMl : (x.H.mem.take x.en).length = x.en := by simp; omega
  have hM : ∀ p, p < x.en → (x.H.mem.take x.en).getD p 0 = x.H.mem.getD p 0 := fun p hp => by rw [getD_take, if_pos hp]
  have hOl : (x.H.order.take x.turns).length = x.turns := by simp; omega
  have hO : ∀ r, r < x.turns → (x.H.order.take x.turns).getD r 0 = x.H.order.getD r 0 := fun r hr => by rw [getD_take, if_pos hr]
  generalize x.H.mem.take x.en = MM at *
  generalize x.H.order.take x.turns = OO at *
  have hrm := hv.room
  exact {
    safe := ⟨⟨by show (x.H.words : Int) ≤ _; rw [e1]; exact hsm.words, by show (x.H.oops : Int) ≤ _; rw [e2]; exact hsm.oops, by show (MM.length : Int) ≤ (x.H.words : Int); rw [e1]; have := hsm.mem; omega, by show (x.H.count : Int) ≤ (x.H.oops : Int); rw [e6, e2]; exact hsm.count, by show (x.H.mark : Int) ≤ _; rw [e3]; exact hsm.mark⟩,
      by show x.H.low ≤ x.H.bits.length; rw [e4, e5]; exact hv.safe.low, by show (x.H.bits.length : Int) ≤ _; rw [e4]; exact hv.safe.bl, by show ∀ k, x.H.bits.getD k 0 ≤ full; rw [e4]; exact hv.safe.bits, by show (x.H.seats.length : Int) ≤ _; rw [hxsl]; exact hv.safe.seats, by show (OO.length : Int) ≤ _; rw [hOl]; have := hv.safe.order; omega⟩
    words := e1.trans hv.words
    oops := e2.trans hv.oops
    mark := e3.trans hv.mark
    len := by show x.H.seats.length ≤ T.length + 1; rw [hxsl, hTl]; exact hv.len
    seat0 := by show (x.H.seats.getD 0 (0, 0, 0)).2.1 = 0; rw [h.off 0 (.inl rfl)]; exact hv.seat0
    there := fun i hi => by
      have hi2 : i < M.things.length := by rw [← hTl]; exact hi
      show ((T.getD i noTh).there = true ↔ (x.H.seats.getD (i + 1) (0, 0, 0)).2.1 ≠ 0)
      rw [hb]
      cases hbi : (M.things.getD i noTh).there with
      | true =>
        obtain ⟨t, t1, -⟩ := hD i hbi
        have := lenN_two (M.things.getD i noTh).slots.length (M.things.getD i noTh).fmt
        rw [t1]
        exact ⟨fun _ => by show lenN _ _ ≠ 0; omega, fun _ => rfl⟩
      | false =>
        rw [h.off (i + 1) (.inr (by rw [Nat.add_sub_cancel]; exact hbi)), ← hbi]
        exact hv.there i hi2
    seat := fun i hi hbi => by
      show (x.H.seats.getD (i + 1) (0, 0, 0)).1 = (T.getD i noTh).place ∧ (x.H.seats.getD (i + 1) (0, 0, 0)).2.1 = lenN (T.getD i noTh).slots.length (T.getD i noTh).fmt
      have hbi2 : (M.things.getD i noTh).there = true := by rw [← hb]; exact hbi
      obtain ⟨t, t1, -⟩ := hD i hbi2
      rw [t1, hln]
      exact ⟨rfl, rfl⟩
    is := fun i hi hbi => by
      have hbi2 : (M.things.getD i noTh).there = true := by rw [← hb]; exact hbi
      have hI := hv.is i (th_in hbi2) hbi2
      have hsx := (has_yes hI.has).2.1
      obtain ⟨t, t1, t2, t3, t4, t5, t6⟩ := hD i hbi2
      have h2 := lenN_two (M.things.getD i noTh).slots.length (M.things.getD i noTh).fmt
      have hI2 : Is H (i + 1) (T.getD i noTh) := by
        obtain ⟨q1, q2, q3, q4, q5, q6⟩ := h.alike.at_ i
        exact ⟨hI.has, by rw [q2, q3]; exact hI.room, by rw [q4]; exact hI.cls, by rw [q2, q3]; exact hI.shape, by rw [q3]; exact hI.fmt, by rw [q2]; exact hI.len, by rw [q2, q3]; exact hI.word, by rw [q2, q3]; exact hI.byte⟩
      refine hI2.moved (T.getD i noTh).place ?_ ?_ ?_ ?_ ?_
      · show (x.H.seats.getD (i + 1) (0, 0, 0)).1 = _; rw [t1]
      · show (x.H.seats.getD (i + 1) (0, 0, 0)).2.1 ≠ 0; rw [t1]; show lenN _ _ ≠ 0; omega
      · show i + 1 < x.H.seats.length; omega
      · show _ ≤ MM.length; rw [hln]; omega
      · intro d hd
        rw [hln] at hd
        show MM.getD _ 0 = _
        rw [hM _ (by omega), t6 d hd, (hv.seat i (th_in hbi2) hbi2).1]
    count := by
      show x.H.count = thereTo T T.length
      rw [e6, hv.count, hTl, ← h.alike.there _ (by omega)]
    turn := fun i hi hbi => by
      have hbi2 : (M.things.getD i noTh).there = true := by rw [← hb]; exact hbi
      obtain ⟨t, t1, t2, t3, t4, t5, t6⟩ := hD i hbi2
      show (x.H.seats.getD (i + 1) (0, 0, 0)).2.2 < OO.length ∧ OO.getD (x.H.seats.getD (i + 1) (0, 0, 0)).2.2 0 = i + 1
      rw [t1, hOl]
      exact ⟨t2, by rw [hO _ t2]; exact t3⟩
    order := fun r hr hne => by
      have hr2 : r < x.turns := by rw [← hOl]; exact hr
      show OO.getD r 0 ≤ T.length ∧ (T.getD (OO.getD r 0 - 1) noTh).there = true ∧ (x.H.seats.getD (OO.getD r 0) (0, 0, 0)).2.2 = r
      obtain ⟨i, i1, i2, i3, i4⟩ := h.ord r hr2
      have := th_in i2
      rw [hO r hr2, i1, Nat.add_sub_cancel, hb]
      exact ⟨by omega, i2, i4⟩
    rise := fun i j hij hj _ _ => by
      have hj2 : j < x.turns := by rw [← hOl]; exact hj
      show (x.H.seats.getD (OO.getD i 0) (0, 0, 0)).1 + (x.H.seats.getD (OO.getD i 0) (0, 0, 0)).2.1 ≤ (x.H.seats.getD (OO.getD j 0) (0, 0, 0)).1
      rw [hO i (by omega), hO j hj2]
      exact h.rise i j hij hj2
    gaps := fun p hp hc => by
      have hp2 : p < x.en := by rw [← hMl]; exact hp
      obtain ⟨i, i1, i2, i3, i4⟩ := h.cov p hp2
      have hx : p < (T.getD i noTh).place ∨ (T.getD i noTh).place + lenN (T.getD i noTh).slots.length (T.getD i noTh).fmt ≤ p := hc i (by show i < T.length; have := th_in i1; omega) (by show (T.getD i noTh).there = true; rw [hb]; exact i1)
      rw [hln] at hx
      omega
    bit := fun j => by
      show (x.H.bits.getD (j / 64) 0).testBit (j % 64) = (T.getD j noTh).there
      rw [e4, hb]
      exact hv.bit j
    low := fun i hi => by
      show x.H.bits.getD i 0 = full
      rw [e4]
      exact hv.low i (by rw [← e5]; exact hi)
    model := ⟨by show (T.length : Int) ≤ _; rw [hTl]; exact hv.model.len, fun i hi => by
        show ((T.getD i noTh).slots.length : Int) ≤ 8192
        rw [(h.alike.at_ i).2.1]
        exact hv.model.slots i (by rw [← hTl]; exact hi), fun i hi => by
        show ((T.getD i noTh).place : Int) ≤ 1048576
        cases hbi : (M.things.getD i noTh).there with
        | true =>
          obtain ⟨t, t1, t2, t3, t4, t5, t6⟩ := hD i hbi
          have := hsm.mem
          omega
        | false =>
          rw [h.still i hbi]
          exact hv.model.place i (by rw [← hTl]; exact hi)⟩
    deep := fun j hj hne => by
      have hj2 : j < x.turns := by rw [← hOl]; exact hj
      show 2 * j ≤ (x.H.seats.getD (OO.getD j 0) (0, 0, 0)).1
      obtain ⟨i, i1, i2, i3, i4⟩ := h.ord j hj2
      obtain ⟨t, t1, t2, t3, t4, t5, t6⟩ := hD i i2
      rw [hO j hj2, i1, t1]
      rw [t1] at i4
      have i4' : t = j := i4
      show 2 * j ≤ (T.getD i noTh).place
      omega
    most := by show T.length ≤ M.oops; rw [hTl]; exact hv.most
    room := by show (x.H.words : Int) ≤ _; rw [e1]; exact hv.room
    fin := by
      show MM.length = endTo T T.length
      rw [hMl]
      refine (endTo_is T x.en _ (fun j hj hbj => ?_) ?_).symm
      · rw [hb] at hbj
        obtain ⟨t, t1, t2, t3, t4, t5, t6⟩ := hD j hbj
        rw [hln]
        exact t4
      · by_cases e : 0 < x.en
        · obtain ⟨i, i1, i2, i3⟩ := h.top e
          exact .inr ⟨i, by have := th_in i1; omega, by rw [hb]; exact i1, by rw [hln]; exact i3⟩
        · exact .inl (by omega)
    last := fun j hj => by
      have hj2 : x.turns = j + 1 := by rw [← hOl]; exact hj
      show OO.getD j 0 ≠ 0
      obtain ⟨i, i1, _⟩ := h.ord j (by omega)
      rw [hO j (by omega), i1]
      omega }
end Go.Proofs.YtklfnjlenbgmoaaDoor
