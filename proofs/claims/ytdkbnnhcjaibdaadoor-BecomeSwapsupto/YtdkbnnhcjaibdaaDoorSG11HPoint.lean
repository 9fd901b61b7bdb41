import Derived.Test.YtdkbnnhcjaibdaaDoorSG10HInvS
import Derived.Test.YtdkbnnhcjaibdaaDoorSG05HAll
import Derived.BigQuiet
namespace Go.Proofs.YtdkbnnhcjaibdaaDoor
open Go.RowKit
set_option linter.unusedVariables false
theorem getD_seat (L : List (Nat × Nat × Nat)) (k i : Nat) (v : Nat × Nat × Nat) (hk : k < L.length) : (L.set k v).getD i (0, 0, 0) = if i = k then v else L.getD i (0, 0, 0) := by
  rw [List.getD_eq_getElem?_getD, List.getElem?_set]
  by_cases e : k = i
  · rw [if_pos e, if_pos e.symm, if_pos hk]; rfl
  · rw [if_neg e, if_neg (fun e2 => e e2.symm), List.getD_eq_getElem?_getD]
theorem getD_nat (L : List Nat) (k i : Nat) (v : Nat) (hk : k < L.length) : (L.set k v).getD i 0 = if i = k then v else L.getD i 0 := by
  rw [List.getD_eq_getElem?_getD, List.getElem?_set]
  by_cases e : k = i
  · rw [if_pos e, if_pos e.symm, if_pos hk]; rfl
  · rw [if_neg e, if_neg (fun e2 => e e2.symm), List.getD_eq_getElem?_getD]
theorem getD_piece (L : List Int) (p n d : Nat) (hd : d < n) : ((L.drop p).take n).getD d 0 = L.getD (p + d) 0 := by
  rw [List.getD_eq_getElem?_getD, List.getD_eq_getElem?_getD, List.getElem?_take, if_pos hd, List.getElem?_drop]
/-- one slides -/
theorem Mid.next {H : HS} {M : MS} {k : Nat} {x : Sl} {T : List Th} (hv : InvV H M) (h : Mid H M.things k x T) (hk : k < H.order.length) (h0 : H.order.getD k 0 ≠ 0) : ∃ T', Mid H M.things (k + 1) (slideStep x k) T' := by
  obtain ⟨i0, hi0, hlt, hb, ht, s1, s2, hr, hen, xs, hT, hsl, -⟩ := h.stepOk hv hk h0
  have h2 := lenN_two (M.things.getD i0 noTh).slots.length (M.things.getD i0 noTh).fmt
  have hxo : x.H.order.getD k 0 = i0 + 1 := by rw [h.ordA k (Nat.le_refl _)]; exact hi0
  have hml := h.ml
  have hol := h.ol
  have hxsl := h.sl
  have htk := h.tk
  have hTl := h.alike.len
  have hstep : slideStep x k = ⟨{ x.H with mem := splice x.H.mem x.en ((x.H.mem.drop (M.things.getD i0 noTh).place).take (lenN (M.things.getD i0 noTh).slots.length (M.things.getD i0 noTh).fmt)), seats := x.H.seats.set (i0 + 1) (x.en, lenN (M.things.getD i0 noTh).slots.length (M.things.getD i0 noTh).fmt, x.turns), order := x.H.order.set x.turns (i0 + 1) }, x.turns + 1, x.en + lenN (M.things.getD i0 noTh).slots.length (M.things.getD i0 noTh).fmt⟩ := by
    unfold slideStep
    rw [if_neg (by omega), hxo, xs, s1, s2]
  rw [hstep]
  have hg := fun i => getD_set T i0 i (placed (T.getD i0 noTh) x.en) (by omega)
  have hS := fun i => getD_seat x.H.seats (i0 + 1) i (x.en, lenN (M.things.getD i0 noTh).slots.length (M.things.getD i0 noTh).fmt, x.turns) (by omega)
  have hO := fun i => getD_nat x.H.order x.turns i (i0 + 1) (by omega)
  have hpl : ((x.H.mem.drop (M.things.getD i0 noTh).place).take (lenN (M.things.getD i0 noTh).slots.length (M.things.getD i0 noTh).fmt)).length = lenN (M.things.getD i0 noTh).slots.length (M.things.getD i0 noTh).fmt := by rw [List.length_take, List.length_drop]; omega
  have hM := fun p => splice_at x.H.mem ((x.H.mem.drop (M.things.getD i0 noTh).place).take (lenN (M.things.getD i0 noTh).slots.length (M.things.getD i0 noTh).fmt)) x.en p (by rw [hpl]; omega)
  rw [hpl] at hM
  have hMl := length_splice x.H.mem x.en ((x.H.mem.drop (M.things.getD i0 noTh).place).take (lenN (M.things.getD i0 noTh).slots.length (M.things.getD i0 noTh).fmt)) (by rw [hpl]; omega)
  have hpc := fun d hd => getD_piece x.H.mem (M.things.getD i0 noTh).place (lenN (M.things.getD i0 noTh).slots.length (M.things.getD i0 noTh).fmt) d hd
  have hat : ∀ i, (M.things.getD i noTh).there = true → (H.seats.getD (i + 1) (0, 0, 0)).2.2 = k → i = i0 := fun i hbi e => by
    have := (hv.turn i (th_in hbi) hbi).2
    rw [e] at this
    omega
  have hafter : ∀ i, (M.things.getD i noTh).there = true → k < (H.seats.getD (i + 1) (0, 0, 0)).2.2 → (M.things.getD i0 noTh).place + lenN (M.things.getD i0 noTh).slots.length (M.things.getD i0 noTh).fmt ≤ (M.things.getD i noTh).place := fun i hbi hlt2 => by
    obtain ⟨u1, u2⟩ := hv.turn i (th_in hbi) hbi
    have := hv.rise k _ hlt2 u1 h0 (by rw [u2]; omega)
    rw [u2, hi0, s1, s2, (hv.seat i (th_in hbi) hbi).1] at this
    exact this
  have hpick : pickTo T x.en T.length = some i0 := by
    refine pickTo_is T x.en i0 (by rw [hT]; exact hb) (by rw [hT]; exact hen) (fun i hne hbi hA => ?_) _ (by omega)
    have hbi2 : (M.things.getD i noTh).there = true := by rw [← (h.alike.at_ i).1]; exact hbi
    have h2i := lenN_two (M.things.getD i noTh).slots.length (M.things.getD i noTh).fmt
    rcases Nat.lt_trichotomy (H.seats.getD (i + 1) (0, 0, 0)).2.2 k with e | e | e
    · obtain ⟨t, t1, t2, t3, t4, t5⟩ := h.done i hbi2 e
      omega
    · exact absurd (hat i hbi2 e) hne
    · have := hafter i hbi2 e
      obtain ⟨a1, a2, a3⟩ := h.ahead i hbi2 (by omega)
      rw [hT, a2]
      omega
  generalize hLn : lenN (M.things.getD i0 noTh).slots.length (M.things.getD i0 noTh).fmt = L0 at *
  generalize hsp : splice x.H.mem x.en ((x.H.mem.drop (M.things.getD i0 noTh).place).take L0) = MM at *
  generalize hse : x.H.seats.set (i0 + 1) (x.en, L0, x.turns) = SS at *
  generalize hoe : x.H.order.set x.turns (i0 + 1) = OO at *
  have hSl : SS.length = x.H.seats.length := by rw [← hse, List.length_set]
  have hOl : OO.length = x.H.order.length := by rw [← hoe, List.length_set]
  refine ⟨T.set i0 (placed (T.getD i0 noTh) x.en), ?_⟩
  have hrun := fun r => slidN_some T x.en r i0 hpick
  have halike := h.alike.place i0 x.en (by omega)
  generalize hTe : T.set i0 (placed (T.getD i0 noTh) x.en) = T' at *
  have hT0 : (T'.getD i0 noTh).place = x.en := by rw [hg, if_pos rfl]; rfl
  have hTo : ∀ i, i ≠ i0 → T'.getD i noTh = T.getD i noTh := fun i hne => by rw [hg, if_neg hne]
  have hS0 : SS.getD (i0 + 1) (0, 0, 0) = (x.en, L0, x.turns) := by rw [hS, if_pos rfl]
  have hSo : ∀ i, i ≠ i0 → SS.getD (i + 1) (0, 0, 0) = x.H.seats.getD (i + 1) (0, 0, 0) := fun i hne => by rw [hS, if_neg (by omega)]
  exact {
    alike := halike
    run := fun r => by
      show slidN M.things 0 (x.turns + 1 + r) = slidN T' (x.en + L0) r
      rw [Nat.add_assoc, Nat.add_comm 1 r, h.run (r + 1), hrun r, hT, hLn]
    ml := by show MM.length = _; omega
    ol := by show OO.length = _; omega
    sl := by show SS.length = _; omega
    rest := h.rest
    tk := by show x.turns + 1 ≤ k + 1; omega
    off := fun o ho => by
      show SS.getD o (0, 0, 0) = _
      rw [hS, if_neg (fun e => by
        rcases ho with ho | ho
        · omega
        · rw [e, Nat.add_sub_cancel, hb] at ho; cases ho)]
      exact h.off o ho
    still := fun i hi => by
      rw [hTo i (fun e => by rw [e, hb] at hi; cases hi)]
      exact h.still i hi
    ahead := fun i hbi hki => by
      have hne : i ≠ i0 := fun e => by rw [e, ht] at hki; omega
      obtain ⟨a1, a2, a3⟩ := h.ahead i hbi (by omega)
      have := hafter i hbi (by omega)
      refine ⟨?_, by rw [hTo i hne]; exact a2, ?_⟩
      · show SS.getD (i + 1) (0, 0, 0) = _
        rw [hSo i hne]; exact a1
      · show x.en + L0 ≤ _; omega
    done := fun i hbi hki => by
      show ∃ t, SS.getD (i + 1) (0, 0, 0) = _ ∧ t < x.turns + 1 ∧ OO.getD t 0 = i + 1 ∧ _ ≤ x.en + L0 ∧ _ ∧ ∀ d, _ → MM.getD _ 0 = _
      by_cases e : i = i0
      · subst e
        rw [hT0, hLn]
        refine ⟨x.turns, hS0, by omega, by rw [hO, if_pos rfl], Nat.le_refl _, h.deep, fun d hd => ?_⟩
        rw [hM, if_pos (by omega), Nat.add_sub_cancel_left, hpc d hd, h.memA _ (by omega)]
      · have hne : (H.seats.getD (i + 1) (0, 0, 0)).2.2 ≠ k := fun e2 => e (hat i hbi e2)
        obtain ⟨t, t1, t2, t3, t4, t5, t6⟩ := h.done i hbi (by omega)
        rw [hTo i e]
        refine ⟨t, by rw [hSo i e]; exact t1, by omega, by rw [hO, if_neg (by omega)]; exact t3, by omega, t5, fun d hd => ?_⟩
        rw [hM, if_neg (by omega)]
        exact t6 d hd
    ord := fun r hr => by
      have hr2 : r < x.turns + 1 := hr
      show ∃ i, OO.getD r 0 = i + 1 ∧ _ ∧ _ ∧ (SS.getD (i + 1) (0, 0, 0)).2.2 = r
      by_cases e : r = x.turns
      · exact ⟨i0, by rw [hO, if_pos e], hb, by omega, by rw [hS0, e]⟩
      · obtain ⟨i, i1, i2, i3, i4⟩ := h.ord r (by omega)
        have hne : i ≠ i0 := fun e2 => by rw [e2, ht] at i3; omega
        exact ⟨i, by rw [hO, if_neg e]; exact i1, i2, by omega, by rw [hSo i hne]; exact i4⟩
    ordA := fun r hr => by
      show OO.getD r 0 = _
      rw [hO, if_neg (by omega)]
      exact h.ordA r (by omega)
    rise := fun i j hij hj => by
      have hj2 : j < x.turns + 1 := hj
      show (SS.getD (OO.getD i 0) (0, 0, 0)).1 + (SS.getD (OO.getD i 0) (0, 0, 0)).2.1 ≤ (SS.getD (OO.getD j 0) (0, 0, 0)).1
      obtain ⟨q, q1, q2, q3, q4⟩ := h.ord i (by omega)
      have hqn : q ≠ i0 := fun e2 => by rw [e2, ht] at q3; omega
      have hi3 := h.rise i j hij
      rw [hO i, if_neg (by omega), q1, hSo q hqn]
      by_cases e : j = x.turns
      · rw [hO j, if_pos e, hS0]
        obtain ⟨t, t1, t2, t3, t4, t5, t6⟩ := h.done q q2 q3
        rw [t1]
        exact t4
      · obtain ⟨z, z1, z2, z3, z4⟩ := h.ord j (by omega)
        have hzn : z ≠ i0 := fun e2 => by rw [e2, ht] at z3; omega
        have := hi3 (by omega)
        rw [q1, z1] at this
        rw [hO j, if_neg e, z1, hSo z hzn]
        exact this
    memA := fun p hp => by
      have hp2 : x.en + L0 ≤ p := hp
      show MM.getD p 0 = _
      rw [hM, if_neg (by omega)]
      exact h.memA p (by omega)
    cov := fun p hp => by
      have hp2 : p < x.en + L0 := hp
      by_cases e : p < x.en
      · obtain ⟨i, i1, i2, i3, i4⟩ := h.cov p e
        have hne : i ≠ i0 := fun e2 => by rw [e2, ht] at i2; omega
        exact ⟨i, i1, by omega, by rw [hTo i hne]; exact i3, by rw [hTo i hne]; exact i4⟩
      · exact ⟨i0, hb, by omega, by rw [hT0]; omega, by rw [hT0, hLn]; exact hp2⟩
    deep := by have := h.deep; show 2 * (x.turns + 1) ≤ x.en + L0; omega
    top := fun _ => ⟨i0, hb, by omega, by rw [hT0, hLn]⟩ }
theorem InvV.mid {H : HS} {M : MS} (hv : InvV H M) : ∀ k, k ≤ H.order.length → ∃ T, Mid H M.things k (slideTo H k) T := by
  intro k
  induction k with
  | zero => intro _; exact ⟨_, mid_start H M.things⟩
  | succ k ih =>
    intro hk
    obtain ⟨T, h⟩ := ih (by omega)
    show ∃ T, Mid H M.things (k + 1) (slideStep (slideTo H k) k) T
    by_cases h0 : H.order.getD k 0 = 0
    · have e : slideStep (slideTo H k) k = slideTo H k := by
        unfold slideStep
        rw [if_pos (by rw [h.ordA k (Nat.le_refl _)]; exact h0)]
      rw [e]
      exact ⟨T, h.skip hv h0⟩
    · exact h.next hv (by omega) h0
theorem InvV.slideOk {H : HS} {M : MS} (hv : InvV H M) : SlideOk H where
  step := fun k hk hne => by
    obtain ⟨T, h⟩ := hv.mid k (by omega)
    have e := h.ordA k (Nat.le_refl _)
    rw [e] at hne ⊢
    obtain ⟨i0, hi0, _, _, _, _, _, _, _, _, _, _, hs⟩ := h.stepOk hv hk hne
    rw [hi0]
    exact hs
  m1 := by have := hv.safe.small.mem; have := hv.safe.small.words; omega
  r1 := by have := hv.safe.order; omega
  t1 := by have := hv.safe.seats; omega
end Go.Proofs.YtdkbnnhcjaibdaaDoor

namespace Go.Proofs.YtdkbnnhcjaibdaaDoor
open Go.RowKit
set_option linter.unusedVariables false
/-- they have slid together: the heap's and the model's -/
theorem InvV.slide {H : HS} {M : MS} (hv : InvV H M) : Inv (slideH H) { M with things := slidN M.things 0 (thereTo M.things M.things.length) } := by
  obtain ⟨T, h⟩ := hv.mid H.order.length (Nat.le_refl _)
  have hdone : ∀ i, (M.things.getD i noTh).there = true → (H.seats.getD (i + 1) (0, 0, 0)).2.2 < H.order.length := fun i hb => (hv.turn i (th_in hb) hb).1
  have hen := (slideTo_len H hv.slideOk H.order.length (Nat.le_refl _)).2.2.2.2
  unfold slideH
  generalize slideTo H H.order.length = x at *
  have hml := h.ml
  have hol := h.ol
  have hxsl := h.sl
  have htk := h.tk
  have hTl := h.alike.len
  obtain ⟨e1, e2, e3, e4, e5, e6⟩ := h.rest
  have hb : ∀ i, (T.getD i noTh).there = (M.things.getD i noTh).there := fun i => (h.alike.at_ i).1
  have hln : ∀ i, lenN (T.getD i noTh).slots.length (T.getD i noTh).fmt = lenN (M.things.getD i noTh).slots.length (M.things.getD i noTh).fmt := fun i => by rw [(h.alike.at_ i).2.1, (h.alike.at_ i).2.2.1]
  have hD := fun i hbi => h.done i hbi (hdone i hbi)
  have hres : slidN M.things 0 (thereTo M.things M.things.length) = T := by
    have hc : x.turns ≤ thereTo M.things M.things.length := by
      refine thereTo_many x.turns M.things (fun r => x.H.order.getD r 0 - 1) (fun r hr => ?_) (fun i j hi hj e => ?_)
      · obtain ⟨i, i1, i2, i3, i4⟩ := h.ord r hr
        simp only [i1, Nat.add_sub_cancel]
        exact i2
      · obtain ⟨p, p1, p2, p3, p4⟩ := h.ord i hi
        obtain ⟨q, q1, q2, q3, q4⟩ := h.ord j hj
        simp only [p1, q1, Nat.add_sub_cancel] at e
        rw [e] at p4
        omega
    have := h.run (thereTo M.things M.things.length - x.turns)
    rw [show x.turns + (thereTo M.things M.things.length - x.turns) = thereTo M.things M.things.length from by omega] at this
    rw [this]
    have hno := pickTo_no T x.en (fun i hbi => by
      rw [hb] at hbi
      obtain ⟨t, t1, t2, t3, t4, t5, t6⟩ := hD i hbi
      have := lenN_two (M.things.getD i noTh).slots.length (M.things.getD i noTh).fmt
      omega) T.length
    cases thereTo M.things M.things.length - x.turns with
    | zero => rfl
    | succ n => exact slidN_none T x.en n hno
  rw [hres]
  have hsm := hv.safe.small
  have hMl : (x.H.mem.take x.en).length = x.en := by simp; omega
  have hM : ∀ p, p < x.en → (x.H.mem.take x.en).getD p 0 = x.H.mem.getD p 0 := fun p hp => by rw [getD_take, if_pos hp]
  have hOl : (x.H.order.take x.turns).length = x.turns := by simp; omega
  have hO : ∀ r, r < x.turns → (x.H.order.take x.turns).getD r 0 = x.H.order.getD r 0 := fun r hr => by rw [getD_take, if_pos hr]
  generalize x.H.mem.take x.en = MM at *
  generalize x.H.order.take x.turns = OO at *
  have hrm := hv.room
  exact {
    safe := ⟨⟨by show (x.H.words : Int) ≤ _; rw [e1]; exact hsm.words, by show (x.H.oops : Int) ≤ _; rw [e2]; exact hsm.oops, by show (MM.length : Int) ≤ (x.H.words : Int); rw [e1]; have := hsm.mem; omega, by show (x.H.count : Int) ≤ (x.H.oops : Int); rw [e6, e2]; exact hsm.count, by show (x.H.mark : Int) ≤ _; rw [e3]; exact hsm.mark⟩,
      by show x.H.low ≤ x.H.bits.length; rw [e4, e5]; exact hv.safe.low, by show (x.H.bits.length : Int) ≤ _; rw [e4]; exact hv.safe.bl, by show ∀ k, x.H.bits.getD k 0 ≤ full; rw [e4]; exact hv.safe.bits, by show (x.H.seats.length : Int) ≤ _; rw [hxsl]; exact hv.safe.seats, by show (OO.length : Int) ≤ _; rw [hOl]; have := hv.safe.order; omega⟩
    words := e1.trans hv.words
    oops := e2.trans hv.oops
    mark := e3.trans hv.mark
    len := by show x.H.seats.length ≤ T.length + 1; rw [hxsl, hTl]; exact hv.len
    seat0 := by show (x.H.seats.getD 0 (0, 0, 0)).2.1 = 0; rw [h.off 0 (.inl rfl)]; exact hv.seat0
    there := fun i hi => by
      have hi2 : i < M.things.length := by rw [← hTl]; exact hi
      show ((T.getD i noTh).there = true ↔ (x.H.seats.getD (i + 1) (0, 0, 0)).2.1 ≠ 0)
      rw [hb]
      cases hbi : (M.things.getD i noTh).there with
      | true =>
        obtain ⟨t, t1, -⟩ := hD i hbi
        have := lenN_two (M.things.getD i noTh).slots.length (M.things.getD i noTh).fmt
        rw [t1]
        exact ⟨fun _ => by show lenN _ _ ≠ 0; omega, fun _ => rfl⟩
      | false =>
        rw [h.off (i + 1) (.inr (by rw [Nat.add_sub_cancel]; exact hbi)), ← hbi]
        exact hv.there i hi2
    seat := fun i hi hbi => by
      show (x.H.seats.getD (i + 1) (0, 0, 0)).1 = (T.getD i noTh).place ∧ (x.H.seats.getD (i + 1) (0, 0, 0)).2.1 = lenN (T.getD i noTh).slots.length (T.getD i noTh).fmt
      have hbi2 : (M.things.getD i noTh).there = true := by rw [← hb]; exact hbi
      obtain ⟨t, t1, -⟩ := hD i hbi2
      rw [t1, hln]
      exact ⟨rfl, rfl⟩
    is := fun i hi hbi => by
      have hbi2 : (M.things.getD i noTh).there = true := by rw [← hb]; exact hbi
      have hI := hv.is i (th_in hbi2) hbi2
      have hsx := (has_yes hI.has).2.1
      obtain ⟨t, t1, t2, t3, t4, t5, t6⟩ := hD i hbi2
      have h2 := lenN_two (M.things.getD i noTh).slots.length (M.things.getD i noTh).fmt
      have hI2 : Is H (i + 1) (T.getD i noTh) := by
        obtain ⟨q1, q2, q3, q4, q5, q6⟩ := h.alike.at_ i
        exact ⟨hI.has, by rw [q2, q3]; exact hI.room, by rw [q4]; exact hI.cls, by rw [q2, q3]; exact hI.shape, by rw [q3]; exact hI.fmt, by rw [q2]; exact hI.len, by rw [q2, q3]; exact hI.word, by rw [q2, q3]; exact hI.byte⟩
      refine hI2.moved (T.getD i noTh).place ?_ ?_ ?_ ?_ ?_
      · show (x.H.seats.getD (i + 1) (0, 0, 0)).1 = _; rw [t1]
      · show (x.H.seats.getD (i + 1) (0, 0, 0)).2.1 ≠ 0; rw [t1]; show lenN _ _ ≠ 0; omega
      · show i + 1 < x.H.seats.length; omega
      · show _ ≤ MM.length; rw [hln]; omega
      · intro d hd
        rw [hln] at hd
        show MM.getD _ 0 = _
        rw [hM _ (by omega), t6 d hd, (hv.seat i (th_in hbi2) hbi2).1]
    count := by
      show x.H.count = thereTo T T.length
      rw [e6, hv.count, hTl, ← h.alike.there _ (by omega)]
    turn := fun i hi hbi => by
      have hbi2 : (M.things.getD i noTh).there = true := by rw [← hb]; exact hbi
      obtain ⟨t, t1, t2, t3, t4, t5, t6⟩ := hD i hbi2
      show (x.H.seats.getD (i + 1) (0, 0, 0)).2.2 < OO.length ∧ OO.getD (x.H.seats.getD (i + 1) (0, 0, 0)).2.2 0 = i + 1
      rw [t1, hOl]
      exact ⟨t2, by rw [hO _ t2]; exact t3⟩
    order := fun r hr hne => by
      have hr2 : r < x.turns := by rw [← hOl]; exact hr
      show OO.getD r 0 ≤ T.length ∧ (T.getD (OO.getD r 0 - 1) noTh).there = true ∧ (x.H.seats.getD (OO.getD r 0) (0, 0, 0)).2.2 = r
      obtain ⟨i, i1, i2, i3, i4⟩ := h.ord r hr2
      have := th_in i2
      rw [hO r hr2, i1, Nat.add_sub_cancel, hb]
      exact ⟨by omega, i2, i4⟩
    rise := fun i j hij hj _ _ => by
      have hj2 : j < x.turns := by rw [← hOl]; exact hj
      show (x.H.seats.getD (OO.getD i 0) (0, 0, 0)).1 + (x.H.seats.getD (OO.getD i 0) (0, 0, 0)).2.1 ≤ (x.H.seats.getD (OO.getD j 0) (0, 0, 0)).1
      rw [hO i (by omega), hO j hj2]
      exact h.rise i j hij hj2
    gaps := fun p hp hc => by
      have hp2 : p < x.en := by rw [← hMl]; exact hp
      obtain ⟨i, i1, i2, i3, i4⟩ := h.cov p hp2
      have hx : p < (T.getD i noTh).place ∨ (T.getD i noTh).place + lenN (T.getD i noTh).slots.length (T.getD i noTh).fmt ≤ p := hc i (by show i < T.length; have := th_in i1; omega) (by show (T.getD i noTh).there = true; rw [hb]; exact i1)
      rw [hln] at hx
      omega
    bit := fun j => by
      show (x.H.bits.getD (j / 64) 0).testBit (j % 64) = (T.getD j noTh).there
      rw [e4, hb]
      exact hv.bit j
    low := fun i hi => by
      show x.H.bits.getD i 0 = full
      rw [e4]
      exact hv.low i (by rw [← e5]; exact hi)
    model := ⟨by show (T.length : Int) ≤ _; rw [hTl]; exact hv.model.len, fun i hi => by
        show ((T.getD i noTh).slots.length : Int) ≤ 8192
        rw [(h.alike.at_ i).2.1]
        exact hv.model.slots i (by rw [← hTl]; exact hi), fun i hi => by
        show ((T.getD i noTh).place : Int) ≤ 1048576
        cases hbi : (M.things.getD i noTh).there with
        | true =>
          obtain ⟨t, t1, t2, t3, t4, t5, t6⟩ := hD i hbi
          have := hsm.mem
          omega
        | false =>
          rw [h.still i hbi]
          exact hv.model.place i (by rw [← hTl]; exact hi)⟩
    deep := fun j hj hne => by
      have hj2 : j < x.turns := by rw [← hOl]; exact hj
      show 2 * j ≤ (x.H.seats.getD (OO.getD j 0) (0, 0, 0)).1
      obtain ⟨i, i1, i2, i3, i4⟩ := h.ord j hj2
      obtain ⟨t, t1, t2, t3, t4, t5, t6⟩ := hD i i2
      rw [hO j hj2, i1, t1]
      rw [t1] at i4
      have i4' : t = j := i4
      show 2 * j ≤ (T.getD i noTh).place
      omega
    most := by show T.length ≤ M.oops; rw [hTl]; exact hv.most
    room := by show (x.H.words : Int) ≤ _; rw [e1]; exact hv.room
    fin := by
      show MM.length = endTo T T.length
      rw [hMl]
      refine (endTo_is T x.en _ (fun j hj hbj => ?_) ?_).symm
      · rw [hb] at hbj
        obtain ⟨t, t1, t2, t3, t4, t5, t6⟩ := hD j hbj
        rw [hln]
        exact t4
      · by_cases e : 0 < x.en
        · obtain ⟨i, i1, i2, i3⟩ := h.top e
          exact .inr ⟨i, by have := th_in i1; omega, by rw [hb]; exact i1, by rw [hln]; exact i3⟩
        · exact .inl (by omega)
    last := fun j hj => by
      have hj2 : x.turns = j + 1 := by rw [← hOl]; exact hj
      show OO.getD j 0 ≠ 0
      obtain ⟨i, i1, _⟩ := h.ord j (by omega)
      rw [hO j (by omega), i1]
      omega }
end Go.Proofs.YtdkbnnhcjaibdaaDoor

namespace Go.Proofs.YtdkbnnhcjaibdaaDoor
open Go.RowKit
set_option linter.unusedVariables false
def stayed (t : Th) (b : Bool) : Th := { t with there := t.there && b }
/-- the first k of the things that are not of the list are away -/
def stayTo (S : List Th) (ks : List Nat) : Nat → List Th
  | 0 => S
  | k + 1 => (stayTo S ks k).set k (stayed (S.getD k noTh) (decide (k + 1 ∈ ks)))
theorem stayTo_len (S : List Th) (ks : List Nat) : ∀ k, (stayTo S ks k).length = S.length := by
  intro k
  induction k with
  | zero => rfl
  | succ k ih => show ((stayTo S ks k).set k _).length = _; rw [List.length_set, ih]
theorem stayTo_at (S : List Th) (ks : List Nat) : ∀ k, k ≤ S.length → ∀ i, (stayTo S ks k).getD i noTh = if i < k then stayed (S.getD i noTh) (decide (i + 1 ∈ ks)) else S.getD i noTh := by
  intro k
  induction k with
  | zero => intro _ i; rw [if_neg (by omega)]; rfl
  | succ k ih =>
    intro hk i
    show ((stayTo S ks k).set k _).getD i noTh = _
    rw [getD_set _ _ _ _ (by rw [stayTo_len]; omega)]
    by_cases e : i = k
    · rw [if_pos e, if_pos (by omega), e]
    · rw [if_neg e, ih (by omega) i]
      by_cases e2 : i < k
      · rw [if_pos e2, if_pos (by omega)]
      · rw [if_neg e2, if_neg (by omega)]
theorem th_ext {S T : List Th} (hl : S.length = T.length) (h : ∀ i, i < S.length → S.getD i noTh = T.getD i noTh) : S = T := by
  apply List.ext_getElem hl
  intro i h1 h2
  have := h i h1
  rw [List.getD_eq_getElem?_getD, List.getD_eq_getElem?_getD, List.getElem?_eq_getElem h1, List.getElem?_eq_getElem h2] at this
  simpa using this
theorem InvV.vacs {H : HS} {M : MS} (hv : InvV H M) (ks : List Nat) : ∀ k, k ≤ H.order.length → ∃ T : List Th, InvV (vacTo H ks k) { M with things := T } ∧ T.length = M.things.length ∧
    (∀ i, T.getD i noTh = if (M.things.getD i noTh).there = true ∧ (H.seats.getD (i + 1) (0, 0, 0)).2.2 < k ∧ i + 1 ∉ ks then gone (M.things.getD i noTh) else M.things.getD i noTh) ∧
    (vacTo H ks k).order.length = H.order.length ∧ (∀ r, k ≤ r → (vacTo H ks k).order.getD r 0 = H.order.getD r 0) ∧ (vacTo H ks k).seats.length = H.seats.length := by
  intro k
  induction k with
  | zero => intro _; exact ⟨M.things, hv, rfl, fun i => by rw [if_neg (by omega)], rfl, fun _ _ => rfl, rfl⟩
  | succ k ih =>
    intro hk
    obtain ⟨T, h1, h2, h3, h4, h5, h6⟩ := ih (by omega)
    have ho := h5 k (Nat.le_refl _)
    have hat : ∀ i, (M.things.getD i noTh).there = true → (H.seats.getD (i + 1) (0, 0, 0)).2.2 = k → H.order.getD k 0 = i + 1 := fun i hb e => by
      have := (hv.turn i (th_in hb) hb).2
      rw [e] at this
      exact this
    by_cases hc : (vacTo H ks k).order.getD k 0 ≠ 0 ∧ (vacTo H ks k).order.getD k 0 ∉ ks
    · have e : vacTo H ks (k + 1) = vacH (vacTo H ks k) ((vacTo H ks k).order.getD k 0) := by
        show (if _ then _ else _) = _
        rw [if_pos hc]
      rw [e]
      obtain ⟨c1, c2⟩ := hc
      obtain ⟨o1, o2, o3⟩ := h1.order k (by omega) c1
      obtain ⟨u1, u2, u3⟩ := hv.order k (by omega) (by rw [← ho]; exact c1)
      obtain ⟨i0, hi0⟩ : ∃ i0, (vacTo H ks k).order.getD k 0 = i0 + 1 := ⟨(vacTo H ks k).order.getD k 0 - 1, by omega⟩
      rw [ho] at hi0
      rw [ho, hi0] at o1 o2 o3 c2
      rw [hi0] at u1 u2 u3
      rw [Nat.add_sub_cancel] at o2 u2
      rw [ho, hi0]
      have hlt : i0 < T.length := o1
      have hg := fun i => getD_set T i0 i (gone (T.getD i0 noTh)) hlt
      have hvac := h1.vac i0 hlt o2
      refine ⟨T.set i0 (gone (T.getD i0 noTh)), hvac, by rw [List.length_set]; exact h2, fun i => ?_, ?_, fun r hr => ?_, ?_⟩
      · have hTi : T.getD i0 noTh = M.things.getD i0 noTh := by
          rw [h3 i0, if_neg (fun hh => by omega)]
        rw [hg]
        by_cases e2 : i = i0
        · rw [if_pos e2, hTi, e2, if_pos ⟨u2, by omega, c2⟩]
        · rw [if_neg e2, h3 i]
          have hiff : ((M.things.getD i noTh).there = true ∧ (H.seats.getD (i + 1) (0, 0, 0)).2.2 < k ∧ i + 1 ∉ ks) ↔ ((M.things.getD i noTh).there = true ∧ (H.seats.getD (i + 1) (0, 0, 0)).2.2 < k + 1 ∧ i + 1 ∉ ks) := by
            refine ⟨fun q => ⟨q.1, by omega, q.2.2⟩, fun q => ⟨q.1, ?_, q.2.2⟩⟩
            have q2 := q.2.1
            by_cases e3 : (H.seats.getD (i + 1) (0, 0, 0)).2.2 = k
            · have := hat i q.1 e3; omega
            · omega
          simp only [hiff]
      · show ((vacTo H ks k).order.set _ 0).length = _; rw [List.length_set]; exact h4
      · show ((vacTo H ks k).order.set ((vacTo H ks k).seats.getD (i0 + 1) (0, 0, 0)).2.2 0).getD r 0 = _
        rw [o3, getD_nat _ _ _ _ (by omega), if_neg (by omega)]
        exact h5 r (by omega)
      · show ((vacTo H ks k).seats.set _ _).length = _; rw [List.length_set]; exact h6
    · have e : vacTo H ks (k + 1) = vacTo H ks k := by
        show (if _ then _ else _) = _
        rw [if_neg hc]
      rw [e]
      refine ⟨T, h1, h2, fun i => ?_, h4, fun r hr => h5 r (by omega), h6⟩
      rw [h3 i]
      have hiff : ((M.things.getD i noTh).there = true ∧ (H.seats.getD (i + 1) (0, 0, 0)).2.2 < k ∧ i + 1 ∉ ks) ↔ ((M.things.getD i noTh).there = true ∧ (H.seats.getD (i + 1) (0, 0, 0)).2.2 < k + 1 ∧ i + 1 ∉ ks) := by
        refine ⟨fun q => ⟨q.1, by omega, q.2.2⟩, fun q => ⟨q.1, ?_, q.2.2⟩⟩
        have q2 := q.2.1
        by_cases e3 : (H.seats.getD (i + 1) (0, 0, 0)).2.2 = k
        · have := hat i q.1 e3
          exact absurd ⟨by rw [ho, this]; omega, by rw [ho, this]; exact q.2.2⟩ hc
        · omega
      simp only [hiff]
theorem Inv.aged {H : HS} {M : MS} (h : Inv H M) (n : Nat) : Inv { H with age := n } M :=
  { safe := ⟨⟨h.safe.small.words, h.safe.small.oops, h.safe.small.mem, h.safe.small.count, h.safe.small.mark⟩, h.safe.low, h.safe.bl, h.safe.bits, h.safe.seats, h.safe.order⟩
    words := h.words, oops := h.oops, mark := h.mark, len := h.len, seat0 := h.seat0, there := h.there, seat := h.seat
    is := fun k hk hb => (h.is k hk hb).same rfl (by have := (has_yes (h.is k hk hb).has).2.1; show k + 1 < H.seats.length; omega) (h.is k hk hb).room (fun _ _ _ => rfl)
    count := h.count, turn := h.turn, order := h.order, rise := h.rise, gaps := h.gaps, bit := h.bit, low := h.low, model := h.model, deep := h.deep, most := h.most, room := h.room, fin := h.fin, last := h.last }
/-- what the model's things are behind a Keep -/
def keptTh (S : List Th) (ks : List Nat) : List Th := slidN (stayTo S ks S.length) 0 (thereTo (stayTo S ks S.length) S.length)
/-- Keep keeps it -/
theorem Inv.keep {H : HS} {M : MS} (h : Inv H M) (ks : List Nat) (hks : ∀ j ∈ ks, mhas M (j : Int) = true) (ha : H.age ≤ 1000000000) : KeepOk H ks ∧ Inv (keepH H ks) { M with things := keptTh M.things ks } := by
  have hv := h.toInvV
  have hsl : ∀ i, i < M.things.length → (M.things.getD i noTh).there = true → i + 1 < H.seats.length := fun i hi hb => hv.seatIn i hi hb
  obtain ⟨T, h1, h2, h3, h4, h5, h6⟩ := hv.vacs ks H.order.length (Nat.le_refl _)
  have hT : T = stayTo M.things ks M.things.length := by
    refine th_ext (by rw [h2, stayTo_len]) (fun i hi => ?_)
    have e2 := stayTo_at M.things ks M.things.length (Nat.le_refl _) i
    rw [if_pos (by omega)] at e2
    rw [h3 i, e2]
    cases hb : (M.things.getD i noTh).there with
    | true =>
      have := (hv.turn i (by omega) hb).1
      by_cases hm : i + 1 ∈ ks
      · rw [if_neg (fun hc => hc.2.2 hm)]
        simp [stayed, hm]
      · rw [if_pos ⟨rfl, this, hm⟩]
        simp [stayed, gone, hm]
    | false =>
      rw [if_neg (fun hc => by cases hc.1)]
      generalize M.things.getD i noTh = t at hb
      cases t
      simp only at hb
      subst hb
      simp [stayed]
  refine ⟨⟨fun j hj => ?_, fun k hk hne => ?_, h1.slideOk, ?_, ?_, ?_, ?_, ha⟩, ?_⟩
  · obtain ⟨i, i1, i2, i3⟩ := mhas_yes (hks j hj)
    have e : j = i + 1 := by omega
    subst e
    have := hsl i i2 i3
    exact ⟨by omega, by omega, (hv.there i i2).1 i3⟩
  · obtain ⟨T', q1, q2, q3, q4, q5, q6⟩ := hv.vacs ks k (by omega)
    obtain ⟨o1, o2, o3⟩ := q1.order k (by omega) hne
    obtain ⟨i0, hi0⟩ : ∃ i0, (vacTo H ks k).order.getD k 0 = i0 + 1 := ⟨(vacTo H ks k).order.getD k 0 - 1, by omega⟩
    rw [hi0] at o1 o2 ⊢
    rw [Nat.add_sub_cancel] at o2
    have o1' : i0 + 1 ≤ T'.length := o1
    have o4 : (M.things.getD i0 noTh).there = true := by
      have o5 : (T'.getD i0 noTh).there = true := o2
      rw [q3 i0] at o5
      split at o5
      · exact absurd o5 (by simp [gone])
      · exact o5
    exact ⟨hsl i0 (by omega) o4, fun _ => q1.vacOk i0 o1' o2⟩
  · have := hv.safe.small.mem; have := hv.safe.small.words; omega
  · have := hv.safe.order; omega
  · have := hv.safe.seats; omega
  · have := hv.safe.small.count; have := hv.safe.small.oops; omega
  · have hs := h1.slide
    have e : slidN ({ M with things := T } : MS).things 0 (thereTo ({ M with things := T } : MS).things ({ M with things := T } : MS).things.length) = keptTh M.things ks := by
      show slidN T 0 (thereTo T T.length) = _
      rw [h2, hT]
      rfl
    rw [e] at hs
    exact hs.aged _
theorem Inv.setMark {H : HS} {M : MS} (h : Inv H M) (n : Nat) (hn : (n : Int) ≤ 1073741824) : Inv { H with mark := n } { M with mark := n } :=
  { safe := ⟨⟨h.safe.small.words, h.safe.small.oops, h.safe.small.mem, h.safe.small.count, hn⟩, h.safe.low, h.safe.bl, h.safe.bits, h.safe.seats, h.safe.order⟩
    words := h.words, oops := h.oops, mark := rfl, len := h.len, seat0 := h.seat0, there := h.there, seat := h.seat
    is := fun k hk hb => (h.is k hk hb).same rfl (by have := (has_yes (h.is k hk hb).has).2.1; show k + 1 < H.seats.length; omega) (h.is k hk hb).room (fun _ _ _ => rfl)
    count := h.count, turn := h.turn, order := h.order, rise := h.rise, gaps := h.gaps, bit := h.bit, low := h.low, model := ⟨h.model.len, h.model.slots, h.model.place⟩, deep := h.deep, most := h.most, room := h.room, fin := h.fin, last := h.last }
end Go.Proofs.YtdkbnnhcjaibdaaDoor

namespace Go.Proofs.YtdkbnnhcjaibdaaDoor
open Go.RowKit
set_option linter.unusedVariables false
attribute [local go_sem ↓] Go.wp_at_zero Go.wp_at_succ
set_option maxRecDepth 20000 in
set_option maxHeartbeats 1000000 in
theorem Point_ok (a : Nat) (l : Lay) (H : HS) (w : World) (h : Rep w a l H) :
    Calls Tryd.prog 43 #[.pointer (some ⟨a, 0, none⟩)] w fun e w' => e = .returned (.agg #[.pointer (some ⟨a, 0, none⟩), .int .i64 (H.age : Int), .int .i64 (H.order.length : Int)]) ∧ Fr [] w w' := by
  have hal := h.lt a (by simp [foot])
  have c0 := (World.cell?_alloc_lt w (.cells #[.pointer none, .int .i64 0, .int .i64 0] 91) ⟨a, 0, none⟩ hal).trans h.c0
  have c10 := h.c10
  have c6 := h.c6
  have HM := mkHid (made_any a _ c0)
  clear h c0
  go_enter Tryd.func43, Tryd.ntmps43
  go_wp2_with (go_at_call 62; refine Calls.mono HM.out ?_; rintro e w' ⟨rfl, hw'⟩; rw [hw']; clear hw' w')
  go_region
  all_goals go_wp2_with fail
  refine bodyPost_ret (v := .agg #[.pointer (some ⟨a, 0, none⟩), .int .i64 (H.age : Int), .int .i64 (H.order.length : Int)]) (by simp [results, Tryd.results43, go_sem]) rfl ⟨rfl, (Fr.alloc [] _ _).trans (Fr.drew [] _) (by simp)⟩
/-- those from turn k on go, the first j of them -/
def backTo (H : HS) (T : Nat) : Nat → HS
  | 0 => H
  | j + 1 => vacH (backTo H T j) (H.order.getD (T + j) 0)
theorem backTo_age (H : HS) (T : Nat) : ∀ j, (backTo H T j).age = H.age := by
  intro j
  induction j with
  | zero => rfl
  | succ j ih => exact ih
structure BackOk (H : HS) (T : Nat) : Prop where
  t : T ≤ H.order.length
  vac : ∀ j, T + j < H.order.length → VacOk (backTo H T j) (H.order.getD (T + j) 0) ∧ (backTo H T j).order.getD (T + j) 0 = H.order.getD (T + j) 0 ∧ (backTo H T j).order.length = H.order.length
  r1 : (H.order.length : Int) ≤ 1048576
  a1 : (H.age : Int) ≤ 1000000000
theorem run_neq_ptr_same {tp te : TypeId} {j : TypeInfo} (V : World) (a : Addr) (hp : Tryd.prog.underlying tp = some (.pointer te)) (hte : Tryd.prog.info? te = some j) :
    (binOp .neq tp (.pointer (some a)) (.pointer (some a))).run Tryd.prog V = .ok (.bool false) V := by
  have h : ∀ d : Nat, (Op.equalIn (d + 1) tp (.pointer (some a)) (.pointer (some a))).run Tryd.prog V = .ok true V := fun d => by
    simp [Op.equalIn, run_underlying hp, sizeOf, typeInfo, hte, run_sameAddr_same]
  simp only [binOp]
  simp [Op.equal, Op.maxDepth, h 9999]
set_option maxRecDepth 20000 in
set_option maxHeartbeats 1000000 in
theorem Back_no (ag tn : Int) (a : Nat) (l : Lay) (H : HS) (w : World) (h : Rep w a l H) (hne : (ag != (H.age : Int)) = true) :
    Calls Tryd.prog 46 #[.pointer (some ⟨a, 0, none⟩), .agg #[.pointer (some ⟨a, 0, none⟩), .int .i64 ag, .int .i64 tn]] w fun e w' => e = .returned (.int .i64 25) ∧ Fr [] w w' := by
  have hal := h.lt a (by simp [foot])
  have c0 := (World.cell?_alloc_lt w (.cells #[.pointer (some ⟨a, 0, none⟩), .int .i64 ag, .int .i64 tn] 91) ⟨a, 0, none⟩ hal).trans h.c0
  have c10 := (World.cell?_alloc_lt w (.cells #[.pointer (some ⟨a, 0, none⟩), .int .i64 ag, .int .i64 tn] 91) ⟨a, 10, none⟩ hal).trans h.c10
  have HM := mkHid (made_any a _ c0)
  have HE : Hid (∀ n, Fr [] w ((w.alloc (.cells #[.pointer (some ⟨a, 0, none⟩), .int .i64 ag, .int .i64 tn] 91)).drewN n)) := fun n => (Fr.alloc [] _ _).trans (Fr.drewN [] _ _) (by simp)
  obtain ⟨j, hj⟩ := Option.isSome_iff_exists.1 info95
  have hq := fun V => run_neq_ptr_same V ⟨a, 0, none⟩ Tryd.underlying24 hj
  clear h c0 hj
  go_enter Tryd.func46, Tryd.ntmps46
  go_wp2_with (go_at_call 62; refine Calls.mono HM.out ?_; rintro e w' ⟨rfl, hw'⟩; rw [hw']; clear hw' w')
  go_region
  all_goals go_wp2_with fail
  all_goals
    go_ret
    exact ⟨rfl, HE.out _⟩
set_option maxRecDepth 20000 in
set_option maxHeartbeats 1000000 in
theorem Back_ok (T t e0 : Nat) (a : Nat) (l : Lay) (H : HS) (w : World) (h : Rep w a l H) (hk : BackOk H T) (hd : DrawOk (backTo H T (H.order.length - T)) t e0) :
    Calls Tryd.prog 46 #[.pointer (some ⟨a, 0, none⟩), .agg #[.pointer (some ⟨a, 0, none⟩), .int .i64 (H.age : Int), .int .i64 (T : Int)]] w fun e w' => e = .returned (.int .i64 0) ∧ Rep w' a l { drawH (backTo H T (H.order.length - T)) t e0 with age := H.age + 1 } ∧ Nx a l l w w' := by
  have hal := h.lt a (by simp [foot])
  obtain ⟨o, ho⟩ : ∃ o, o = Obj.cells #[.pointer (some ⟨a, 0, none⟩), .int .i64 (H.age : Int), .int .i64 (T : Int)] 91 := ⟨_, rfl⟩
  have c0 := (World.cell?_alloc_lt w o ⟨a, 0, none⟩ hal).trans h.c0
  have c10 := (World.cell?_alloc_lt w o ⟨a, 10, none⟩ hal).trans h.c10
  have c6 := (World.cell?_alloc_lt w o ⟨a, 6, none⟩ hal).trans h.c6
  have HM := mkHid (made_any a _ c0)
  have hr1 := h.alloc o
  have HR1 := mkHid hr1
  have HX1 : Hid (Nx a l l w (w.alloc o)) := Nx.frw (Fr.alloc _ _ _)
  obtain ⟨j, hj⟩ := Option.isSome_iff_exists.1 info95
  have hq := fun V => run_neq_ptr_same V ⟨a, 0, none⟩ Tryd.underlying24 hj
  have ht := hk.t
  have hrl := hk.r1
  have hage := hk.a1
  have HK := mkHid hk
  have HD := mkHid hd
  have u1 : (0 : Int) ≤ (T : Int) := by omega
  have u2 : (T : Int) ≤ (H.order.length : Int) := by omega
  have hcap : H.order.length ≤ l.co := by
    rcases h.order.2 with ⟨q, q0⟩ | ⟨g, cap, cur, q1, q2, q3, q4, q5, q6, q7⟩
    · injection q with _ _ q3; omega
    · injection q1 with _ _ q1c; omega
  have hpo : (l.po = none → H.order.length = 0 ∧ l.co = 0) ∧ (∀ ad, l.po = some ad → ∃ g, ad = ⟨g, 0, none⟩) := by
    rcases h.order.2 with ⟨q, q0⟩ | ⟨g, cap, cur, q1, q2, q3, q4, q5, q6, q7⟩
    · injection q with q1 _ q3; exact ⟨fun _ => ⟨by omega, by omega⟩, fun ad hd => (by rw [q1] at hd; cases hd)⟩
    · injection q1 with q1 _ q1c; exact ⟨fun hd => (by rw [q1] at hd; cases hd), fun ad hd => (by rw [q1] at hd; injection hd with hd; exact ⟨g, hd.symm⟩)⟩
  clear h c0 hj hk hd hr1
  have b0 : (w.alloc o).cell? ⟨w.heap.size, 0, none⟩ = some (.pointer (some ⟨a, 0, none⟩)) := by rw [ho, cell_in (heap_alloc_new w _)]; rfl
  have b1 : (w.alloc o).cell? ⟨w.heap.size, 1, none⟩ = some (.int .i64 (H.age : Int)) := by rw [ho, cell_in (heap_alloc_new w _)]; rfl
  have b2 : (w.alloc o).cell? ⟨w.heap.size, 2, none⟩ = some (.int .i64 (T : Int)) := by rw [ho, cell_in (heap_alloc_new w _)]; rfl
  have u3 : (T : Int) ≤ (l.co : Int) := by omega
  have HPO := mkHid hpo
  clear hpo
  obtain ⟨W1, hW1⟩ : ∃ W1, W1 = w.alloc o := ⟨_, rfl⟩
  rw [← hW1] at HM HR1 HX1 c10 c6 b0 b1 b2
  rw [ho] at hW1
  clear ho
  rcases hpoE : l.po with _ | ad
  · have hpo0 := hpoE
    clear hpo0
    go_enter Tryd.func46, Tryd.ntmps46
    go_wp2_with fail
    rw [← hW1]
    clear hW1
    refine Calls.mono HM.out ?_
    rintro e w' ⟨rfl, hw'⟩
    rw [hw']
    clear hw' w' HM
    go_wp2_with fail
    go_cut [22] (fun q V => q = .bool false ∧ Hid (Eqw W1 V))
    case first =>
      go_region
      all_goals go_wp2_with fail
      all_goals
        go_meet
        case rel => exact ⟨rfl, eqw_drew _⟩
    case rest =>
    obtain ⟨rfl, hc2⟩ := hcut
    have hR2 := HR1.out.eqw hc2.out
    have HF : Hid (∀ n, Rep (wc.drewN n) a l H ∧ Nx a l l w (wc.drewN n)) := fun n => ⟨hR2.drewN n, (HX1.out.eqw hc2.out).eqw ⟨rfl, rfl, rfl, rfl⟩⟩
    have c6' := hR2.c6
    rw [hpoE] at c6'
    have b2' : wc.cell? ⟨w.heap.size, 2, none⟩ = some (.int .i64 (T : Int)) := (World.cell?_of_block (w := W1) (by rw [hc2.out.2.2.2])).trans b2
    have HPE := mkHid hpoE
    clear b0 b1 b2 c6 c10 HR1 HX1 hR2 hpoE
    go_wp2_with fail
    go_quiet (fail)
    all_goals go_wp2_with fail
    all_goals
      have HF1 := mkHid (HF.out nq)
      clear HF c6' b2'
      generalize wc.drewN nq = W2 at *
      go_loopw [31] (fun q wr => ∃ j : Nat, j ≤ H.order.length - T ∧ q = .int .i64 j ∧ Hid (Rep wr a l (backTo H T j) ∧ Nx a l l w wr)) (fun q _ => (H.order.length - T) - (intOf q).toNat)
      case atStart => exact ⟨0, Nat.zero_le _, rfl, HF1.out⟩
      case round =>
        obtain ⟨j, hjn, rfl, hq2⟩ := hrel
        obtain ⟨hr, hx⟩ := hq2.out
        clear hq2
        by_cases hlt : j < H.order.length - T
        · exfalso; have := (HPO.out.1 HPE.out).1; omega
        · have hje : j = H.order.length - T := by omega
          subst hje
          have HDr := mkHid (drawEnd_ok t e0 a l _ wr hr HD.out)
          have HX := mkHid hx
          have hagl : (backTo H T (H.order.length - T)).age = H.age := backTo_age H T _
          clear hr hx
          go_wp2_with fail
          refine Calls.mono HDr.out ?_
          rintro e w3 ⟨rfl, hr3, hx3⟩
          have c10 := hr3.c10
          have f10 := hr3.frozen 10
          have e1 : (drawH (backTo H T (H.order.length - T)) t e0).age = H.age := hagl
          rw [e1] at c10
          have HE : Hid (Rep (w3.setCell ⟨a, 10, none⟩ (.int .i64 ((H.age : Int) + 1))) a l { drawH (backTo H T (H.order.length - T)) t e0 with age := H.age + 1 } ∧ Nx a l l w (w3.setCell ⟨a, 10, none⟩ (.int .i64 ((H.age : Int) + 1)))) :=
            ⟨hr3.set (H' := { drawH (backTo H T (H.order.length - T)) t e0 with age := H.age + 1 }) 10 _ rfl rfl rfl rfl rfl, (HX.out.trans hx3).trans (Nx.fr (Fr.setCell (S := [a]) _ _ _ (by simp)))⟩
          clear hr3 hx3 e1 hagl
          go_wp2_with fail
          go_ret
          exact ⟨rfl, HE.out⟩
  · obtain ⟨g0, hg0⟩ := HPO.out.2 ad hpoE
    subst hg0
    go_enter Tryd.func46, Tryd.ntmps46
    go_wp2_with fail
    rw [← hW1]
    clear hW1
    refine Calls.mono HM.out ?_
    rintro e w' ⟨rfl, hw'⟩
    rw [hw']
    clear hw' w' HM
    go_wp2_with fail
    go_cut [22] (fun q V => q = .bool false ∧ Hid (Eqw W1 V))
    case first =>
      go_region
      all_goals go_wp2_with fail
      all_goals
        go_meet
        case rel => exact ⟨rfl, eqw_drew _⟩
    case rest =>
    obtain ⟨rfl, hc2⟩ := hcut
    have hR2 := HR1.out.eqw hc2.out
    have HF : Hid (∀ n, Rep (wc.drewN n) a l H ∧ Nx a l l w (wc.drewN n)) := fun n => ⟨hR2.drewN n, (HX1.out.eqw hc2.out).eqw ⟨rfl, rfl, rfl, rfl⟩⟩
    have c6' := hR2.c6
    rw [hpoE] at c6'
    have b2' : wc.cell? ⟨w.heap.size, 2, none⟩ = some (.int .i64 (T : Int)) := (World.cell?_of_block (w := W1) (by rw [hc2.out.2.2.2])).trans b2
    have HPE := mkHid hpoE
    clear b0 b1 b2 c6 c10 HR1 HX1 hR2 hpoE
    go_wp2_with fail
    go_quiet (fail)
    all_goals go_wp2_with fail
    all_goals
      have HF1 := mkHid (HF.out nq)
      clear HF c6' b2'
      generalize wc.drewN nq = W2 at *
      go_loopw [31] (fun q wr => ∃ j : Nat, j ≤ H.order.length - T ∧ q = .int .i64 j ∧ Hid (Rep wr a l (backTo H T j) ∧ Nx a l l w wr)) (fun q _ => (H.order.length - T) - (intOf q).toNat)
      case atStart => exact ⟨0, Nat.zero_le _, rfl, HF1.out⟩
      case round =>
        obtain ⟨j, hjn, rfl, hq2⟩ := hrel
        obtain ⟨hr, hx⟩ := hq2.out
        clear hq2
        by_cases hlt : j < H.order.length - T
        · first
          | (exfalso; omega)
          | (obtain ⟨v1, v2, v3⟩ := HK.out.vac j (by omega)
             obtain ⟨go, hgo, hco, hfo, hgoa, hgol⟩ := hr.orderAt (T + j) (by omega)
             have o1 := hco (T + j) (by omega)
             rw [v2] at o1
             have HV := mkHid (vacate_ok (H.order.getD (T + j) 0) a l _ wr hr v1)
             have k1 : (0 : Int) ≤ (j : Int) := by omega
             have k2 : (j : Int) < ((H.order.length - T : Nat) : Int) := by omega
             have HN : Hid (backTo H T (j + 1) = vacH (backTo H T j) (H.order.getD (T + j) 0)) := rfl
             have HX := mkHid hx
             have hgg : go = g0 := by rw [HPE.out] at hgo; injection hgo with hgo; injection hgo with hgo _ _; exact hgo.symm
             subst hgg
             generalize H.order.getD (T + j) 0 = oo at *
             clear hr hx hco hfo v1 v2 v3 hgo HPO
             go_wp2_with fail
             refine Calls.mono HV.out ?_
             rintro e w3 ⟨rfl, hr3, hx3⟩
             have HF3 := mkHid (And.intro hr3 (HX.out.trans hx3))
             clear hr3 hx3
             go_wp2_with fail
             go_roundw
             case rel => exact ⟨j + 1, by omega, by go_num, by rw [HN.out]; exact HF3.out⟩
             case measure => simp [intOf]; omega)
        · have hje : j = H.order.length - T := by omega
          subst hje
          have HDr := mkHid (drawEnd_ok t e0 a l _ wr hr HD.out)
          have HX := mkHid hx
          have hagl : (backTo H T (H.order.length - T)).age = H.age := backTo_age H T _
          clear hr hx
          go_wp2_with fail
          refine Calls.mono HDr.out ?_
          rintro e w3 ⟨rfl, hr3, hx3⟩
          have c10 := hr3.c10
          have f10 := hr3.frozen 10
          have e1 : (drawH (backTo H T (H.order.length - T)) t e0).age = H.age := hagl
          rw [e1] at c10
          have HE : Hid (Rep (w3.setCell ⟨a, 10, none⟩ (.int .i64 ((H.age : Int) + 1))) a l { drawH (backTo H T (H.order.length - T)) t e0 with age := H.age + 1 } ∧ Nx a l l w (w3.setCell ⟨a, 10, none⟩ (.int .i64 ((H.age : Int) + 1)))) :=
            ⟨hr3.set (H' := { drawH (backTo H T (H.order.length - T)) t e0 with age := H.age + 1 }) 10 _ rfl rfl rfl rfl rfl, (HX.out.trans hx3).trans (Nx.fr (Fr.setCell (S := [a]) _ _ _ (by simp)))⟩
          clear hr3 hx3 e1 hagl
          go_wp2_with fail
          go_ret
          exact ⟨rfl, HE.out⟩
end Go.Proofs.YtdkbnnhcjaibdaaDoor

