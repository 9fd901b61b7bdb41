import Derived.Test.YtklfnjlenbgmoaaDoorPG12HInvT
import Derived.Test.YtklfnjlenbgmoaaDoorPG07HGet
import Derived.BigQuiet
import Derived.Laws.AppendOwnNone
set_option linter.unusedVariables false
namespace Go.Proofs.YtklfnjlenbgmoaaDoor
open Go.RowKit
theorem InvV.slide {H : HS} {M : MS} (hv : InvV H M) : Inv (slideH H) { M with things := slidN M.things 0 (thereTo M.things M.things.length) } := by
 obtain ⟨T, h⟩ := hv.mid H.order.length (Nat.le_refl _)
 have hdone : ∀ i, (M.things.getD i noTh).there = true → (H.seats.getD (i + 1) (0, 0, 0)).2.2 < H.order.length := fun i hb => (hv.turn i (th_in hb) hb).1
 have hen := (slideTo_len H hv.slideOk H.order.length (Nat.le_refl _)).2.2.2.2
 unfold slideH
 generalize slideTo H H.order.length = x at *
 have hml := h.ml
 have hol := h.ol
 have hxsl := h.sl
 have htk := h.tk
 have hTl := h.alike.len
 obtain ⟨e1, e2, e3, e4, e5, e6⟩ := h.rest
 have hb : ∀ i, (T.getD i noTh).there = (M.things.getD i noTh).there := fun i => (h.alike.at_ i).1
 have hln : ∀ i, lenN (T.getD i noTh).slots.length (T.getD i noTh).fmt = lenN (M.things.getD i noTh).slots.length (M.things.getD i noTh).fmt := fun i => by rw [(h.alike.at_ i).2.1, (h.alike.at_ i).2.2.1]
 have hD := fun i hbi => h.done i hbi (hdone i hbi)
 have hres : slidN M.things 0 (thereTo M.things M.things.length) = T := by
  have hc : x.turns ≤ thereTo M.things M.things.length := by
   refine thereTo_many x.turns M.things (fun r => x.H.order.getD r 0 - 1) (fun r hr => ?_) (fun i j hi hj e => ?_)
   ·obtain ⟨i, i1, i2, i3, i4⟩ := h.ord r hr
    simp only [i1, Nat.add_sub_cancel]
    exact i2
   ·obtain ⟨p, p1, p2, p3, p4⟩ := h.ord i hi
    obtain ⟨q, q1, q2, q3, q4⟩ := h.ord j hj
    simp only [p1, q1, Nat.add_sub_cancel] at e
    rw [e] at p4
    omega
  have := h.run (thereTo M.things M.things.length - x.turns)
  rw [show x.turns + (thereTo M.things M.things.length - x.turns) = thereTo M.things M.things.length from by omega] at this
  rw [this]
  have hno := pickTo_no T x.en (fun i hbi => by
   rw [hb] at hbi
   obtain ⟨t, t1, t2, t3, t4, t5, t6⟩ := hD i hbi
   have := lenN_two (M.things.getD i noTh).slots.length (M.things.getD i noTh).fmt
   omega) T.length
  cases thereTo M.things M.things.length - x.turns with
  | zero => rfl
  | succ n => exact slidN_none T x.en n hno
 rw [hres]
 have hsm := hv.safe.small
 have hMl : (x.H.mem.take x.en).length = x.en := by simp; omega
 have hM : ∀ p, p < x.en → (x.H.mem.take x.en).getD p 0 = x.H.mem.getD p 0 := fun p hp => by rw [getD_take, if_pos hp]
 have hOl : (x.H.order.take x.turns).length = x.turns := by simp; omega
 have hO : ∀ r, r < x.turns → (x.H.order.take x.turns).getD r 0 = x.H.order.getD r 0 := fun r hr => by rw [getD_take, if_pos hr]
 generalize x.H.mem.take x.en = MM at *
 generalize x.H.order.take x.turns = OO at *
 have hrm := hv.room
 exact {
  safe := ⟨⟨by show (x.H.words : Int) ≤ _; rw [e1]; exact hsm.words, by show (x.H.oops : Int) ≤ _; rw [e2]; exact hsm.oops, by show (MM.length : Int) ≤ (x.H.words : Int); rw [e1]; have := hsm.mem; omega, by show (x.H.count : Int) ≤ (x.H.oops : Int); rw [e6, e2]; exact hsm.count, by show (x.H.mark : Int) ≤ _; rw [e3]; exact hsm.mark⟩,
   by show x.H.low ≤ x.H.bits.length; rw [e4, e5]; exact hv.safe.low, by show (x.H.bits.length : Int) ≤ _; rw [e4]; exact hv.safe.bl, by show ∀ k, x.H.bits.getD k 0 ≤ full; rw [e4]; exact hv.safe.bits, by show (x.H.seats.length : Int) ≤ _; rw [hxsl]; exact hv.safe.seats, by show (OO.length : Int) ≤ _; rw [hOl]; have := hv.safe.order; omega⟩
  words := e1.trans hv.words
  oops := e2.trans hv.oops
  mark := e3.trans hv.mark
  len := by show x.H.seats.length ≤ T.length + 1; rw [hxsl, hTl]; exact hv.len
  seat0 := by show (x.H.seats.getD 0 (0, 0, 0)).2.1 = 0; rw [h.off 0 (.inl rfl)]; exact hv.seat0
  there := fun i hi => by
   have hi2 : i < M.things.length := by rw [← hTl]; exact hi
   show ((T.getD i noTh).there = true ↔ (x.H.seats.getD (i + 1) (0, 0, 0)).2.1 ≠ 0)
   rw [hb]
   cases hbi : (M.things.getD i noTh).there with
   | true =>
    obtain ⟨t, t1, -⟩ := hD i hbi
    have := lenN_two (M.things.getD i noTh).slots.length (M.things.getD i noTh).fmt
    rw [t1]
    exact ⟨fun _ => by show lenN _ _ ≠ 0; omega, fun _ => rfl⟩
   | false =>
    rw [h.off (i + 1) (.inr (by rw [Nat.add_sub_cancel]; exact hbi)), ← hbi]
    exact hv.there i hi2
  seat := fun i hi hbi => by
   show (x.H.seats.getD (i + 1) (0, 0, 0)).1 = (T.getD i noTh).place ∧ (x.H.seats.getD (i + 1) (0, 0, 0)).2.1 = lenN (T.getD i noTh).slots.length (T.getD i noTh).fmt
   have hbi2 : (M.things.getD i noTh).there = true := by rw [← hb]; exact hbi
   obtain ⟨t, t1, -⟩ := hD i hbi2
   rw [t1, hln]
   exact ⟨rfl, rfl⟩
  is := fun i hi hbi => by
   have hbi2 : (M.things.getD i noTh).there = true := by rw [← hb]; exact hbi
   have hI := hv.is i (th_in hbi2) hbi2
   have hsx := (has_yes hI.has).2.1
   obtain ⟨t, t1, t2, t3, t4, t5, t6⟩ := hD i hbi2
   have h2 := lenN_two (M.things.getD i noTh).slots.length (M.things.getD i noTh).fmt
   have hI2 : Is H (i + 1) (T.getD i noTh) := by
    obtain ⟨q1, q2, q3, q4, q5, q6⟩ := h.alike.at_ i
    exact ⟨hI.has, by rw [q2, q3]; exact hI.room, by rw [q4]; exact hI.cls, by rw [q2, q3]; exact hI.shape, by rw [q3]; exact hI.fmt, by rw [q2]; exact hI.len, by rw [q2, q3]; exact hI.word, by rw [q2, q3]; exact hI.byte⟩
   refine hI2.moved (T.getD i noTh).place ?_ ?_ ?_ ?_ ?_
   ·show (x.H.seats.getD (i + 1) (0, 0, 0)).1 = _; rw [t1]
   ·show (x.H.seats.getD (i + 1) (0, 0, 0)).2.1 ≠ 0; rw [t1]; show lenN _ _ ≠ 0; omega
   ·show i + 1 < x.H.seats.length; omega
   ·show _ ≤ MM.length; rw [hln]; omega
   ·intro d hd
    rw [hln] at hd
    show MM.getD _ 0 = _
    rw [hM _ (by omega), t6 d hd, (hv.seat i (th_in hbi2) hbi2).1]
  count := by
   show x.H.count = thereTo T T.length
   rw [e6, hv.count, hTl, ← h.alike.there _ (by omega)]
  turn := fun i hi hbi => by
   have hbi2 : (M.things.getD i noTh).there = true := by rw [← hb]; exact hbi
   obtain ⟨t, t1, t2, t3, t4, t5, t6⟩ := hD i hbi2
   show (x.H.seats.getD (i + 1) (0, 0, 0)).2.2 < OO.length ∧ OO.getD (x.H.seats.getD (i + 1) (0, 0, 0)).2.2 0 = i + 1
   rw [t1, hOl]
   exact ⟨t2, by rw [hO _ t2]; exact t3⟩
  order := fun r hr hne => by
   have hr2 : r < x.turns := by rw [← hOl]; exact hr
   show OO.getD r 0 ≤ T.length ∧ (T.getD (OO.getD r 0 - 1) noTh).there = true ∧ (x.H.seats.getD (OO.getD r 0) (0, 0, 0)).2.2 = r
   obtain ⟨i, i1, i2, i3, i4⟩ := h.ord r hr2
   have := th_in i2
   rw [hO r hr2, i1, Nat.add_sub_cancel, hb]
   exact ⟨by omega, i2, i4⟩
  rise := fun i j hij hj _ _ => by
   have hj2 : j < x.turns := by rw [← hOl]; exact hj
   show (x.H.seats.getD (OO.getD i 0) (0, 0, 0)).1 + (x.H.seats.getD (OO.getD i 0) (0, 0, 0)).2.1 ≤ (x.H.seats.getD (OO.getD j 0) (0, 0, 0)).1
   rw [hO i (by omega), hO j hj2]
   exact h.rise i j hij hj2
  gaps := fun p hp hc => by
   have hp2 : p < x.en := by rw [← hMl]; exact hp
   obtain ⟨i, i1, i2, i3, i4⟩ := h.cov p hp2
   have hx : p < (T.getD i noTh).place ∨ (T.getD i noTh).place + lenN (T.getD i noTh).slots.length (T.getD i noTh).fmt ≤ p := hc i (by show i < T.length; have := th_in i1; omega) (by show (T.getD i noTh).there = true; rw [hb]; exact i1)
   rw [hln] at hx
   omega
  bit := fun j => by
   show (x.H.bits.getD (j / 64) 0).testBit (j % 64) = (T.getD j noTh).there
   rw [e4, hb]
   exact hv.bit j
  low := fun i hi => by
   show x.H.bits.getD i 0 = full
   rw [e4]
   exact hv.low i (by rw [← e5]; exact hi)
  model := ⟨by show (T.length : Int) ≤ _; rw [hTl]; exact hv.model.len, fun i hi => by
    show ((T.getD i noTh).slots.length : Int) ≤ 8192
    rw [(h.alike.at_ i).2.1]
    exact hv.model.slots i (by rw [← hTl]; exact hi), fun i hi => by
    show ((T.getD i noTh).place : Int) ≤ 1048576
    cases hbi : (M.things.getD i noTh).there with
    | true =>
     obtain ⟨t, t1, t2, t3, t4, t5, t6⟩ := hD i hbi
     have := hsm.mem
     omega
    | false =>
     rw [h.still i hbi]
     exact hv.model.place i (by rw [← hTl]; exact hi)⟩
  deep := fun j hj hne => by
   have hj2 : j < x.turns := by rw [← hOl]; exact hj
   show 2 * j ≤ (x.H.seats.getD (OO.getD j 0) (0, 0, 0)).1
   obtain ⟨i, i1, i2, i3, i4⟩ := h.ord j hj2
   obtain ⟨t, t1, t2, t3, t4, t5, t6⟩ := hD i i2
   rw [hO j hj2, i1, t1]
   rw [t1] at i4
   have i4' : t = j := i4
   show 2 * j ≤ (T.getD i noTh).place
   omega
  most := by show T.length ≤ M.oops; rw [hTl]; exact hv.most
  room := by show (x.H.words : Int) ≤ _; rw [e1]; exact hv.room
  fin := by
   show MM.length = endTo T T.length
   rw [hMl]
   refine (endTo_is T x.en _ (fun j hj hbj => ?_) ?_).symm
   ·rw [hb] at hbj
    obtain ⟨t, t1, t2, t3, t4, t5, t6⟩ := hD j hbj
    rw [hln]
    exact t4
   ·by_cases e : 0 < x.en
    ·obtain ⟨i, i1, i2, i3⟩ := h.top e
     exact .inr ⟨i, by have := th_in i1; omega, by rw [hb]; exact i1, by rw [hln]; exact i3⟩
    ·exact .inl (by omega)
  last := fun j hj => by
   have hj2 : x.turns = j + 1 := by rw [← hOl]; exact hj
   show OO.getD j 0 ≠ 0
   obtain ⟨i, i1, _⟩ := h.ord j (by omega)
   rw [hO j (by omega), i1]
   omega }
def stayed (t : Th) (b : Bool) : Th := { t with there := t.there && b }
def stayTo (S : List Th) (ks : List Nat) : Nat → List Th
 | 0 => S
 | k + 1 => (stayTo S ks k).set k (stayed (S.getD k noTh) (decide (k + 1 ∈ ks)))
theorem stayTo_len (S : List Th) (ks : List Nat) : ∀ k, (stayTo S ks k).length = S.length := by
 intro k
 induction k with
 | zero => rfl
 | succ k ih => show ((stayTo S ks k).set k _).length = _; rw [List.length_set, ih]
theorem stayTo_at (S : List Th) (ks : List Nat) : ∀ k, k ≤ S.length → ∀ i, (stayTo S ks k).getD i noTh = if i < k then stayed (S.getD i noTh) (decide (i + 1 ∈ ks)) else S.getD i noTh := by
 intro k
 induction k with
 | zero => intro _ i; rw [if_neg (by omega)]; rfl
 | succ k ih =>
  intro hk i
  show ((stayTo S ks k).set k _).getD i noTh = _
  rw [getD_set _ _ _ _ (by rw [stayTo_len]; omega)]
  by_cases e : i = k
  ·rw [if_pos e, if_pos (by omega), e]
  ·rw [if_neg e, ih (by omega) i]
   by_cases e2 : i < k
   ·rw [if_pos e2, if_pos (by omega)]
   ·rw [if_neg e2, if_neg (by omega)]
theorem th_ext {S T : List Th} (hl : S.length = T.length) (h : ∀ i, i < S.length → S.getD i noTh = T.getD i noTh) : S = T := by
 apply List.ext_getElem hl
 intro i h1 h2
 have := h i h1
 rw [List.getD_eq_getElem?_getD, List.getD_eq_getElem?_getD, List.getElem?_eq_getElem h1, List.getElem?_eq_getElem h2] at this
 simpa using this
theorem InvV.vacs {H : HS} {M : MS} (hv : InvV H M) (ks : List Nat) : ∀ k, k ≤ H.order.length → ∃ T : List Th, InvV (vacTo H ks k) { M with things := T } ∧ T.length = M.things.length ∧
  (∀ i, T.getD i noTh = if (M.things.getD i noTh).there = true ∧ (H.seats.getD (i + 1) (0, 0, 0)).2.2 < k ∧ i + 1 ∉ ks then gone (M.things.getD i noTh) else M.things.getD i noTh) ∧
  (vacTo H ks k).order.length = H.order.length ∧ (∀ r, k ≤ r → (vacTo H ks k).order.getD r 0 = H.order.getD r 0) ∧ (vacTo H ks k).seats.length = H.seats.length := by
 intro k
 induction k with
 | zero => intro _; exact ⟨M.things, hv, rfl, fun i => by rw [if_neg (by omega)], rfl, fun _ _ => rfl, rfl⟩
 | succ k ih =>
  intro hk
  obtain ⟨T, h1, h2, h3, h4, h5, h6⟩ := ih (by omega)
  have ho := h5 k (Nat.le_refl _)
  have hat : ∀ i, (M.things.getD i noTh).there = true → (H.seats.getD (i + 1) (0, 0, 0)).2.2 = k → H.order.getD k 0 = i + 1 := fun i hb e => by
   have := (hv.turn i (th_in hb) hb).2
   rw [e] at this
   exact this
  by_cases hc : (vacTo H ks k).order.getD k 0 ≠ 0 ∧ (vacTo H ks k).order.getD k 0 ∉ ks
  ·have e : vacTo H ks (k + 1) = vacH (vacTo H ks k) ((vacTo H ks k).order.getD k 0) := by
    show (if _ then _ else _) = _
    rw [if_pos hc]
   rw [e]
   obtain ⟨c1, c2⟩ := hc
   obtain ⟨o1, o2, o3⟩ := h1.order k (by omega) c1
   obtain ⟨u1, u2, u3⟩ := hv.order k (by omega) (by rw [← ho]; exact c1)
   obtain ⟨i0, hi0⟩ : ∃ i0, (vacTo H ks k).order.getD k 0 = i0 + 1 := ⟨(vacTo H ks k).order.getD k 0 - 1, by omega⟩
   rw [ho] at hi0
   rw [ho, hi0] at o1 o2 o3 c2
   rw [hi0] at u1 u2 u3
   rw [Nat.add_sub_cancel] at o2 u2
   rw [ho, hi0]
   have hlt : i0 < T.length := o1
   have hg := fun i => getD_set T i0 i (gone (T.getD i0 noTh)) hlt
   have hvac := h1.vac i0 hlt o2
   refine ⟨T.set i0 (gone (T.getD i0 noTh)), hvac, by rw [List.length_set]; exact h2, fun i => ?_, ?_, fun r hr => ?_, ?_⟩
   ·have hTi : T.getD i0 noTh = M.things.getD i0 noTh := by
     rw [h3 i0, if_neg (fun hh => by omega)]
    rw [hg]
    by_cases e2 : i = i0
    ·rw [if_pos e2, hTi, e2, if_pos ⟨u2, by omega, c2⟩]
    ·rw [if_neg e2, h3 i]
     have hiff : ((M.things.getD i noTh).there = true ∧ (H.seats.getD (i + 1) (0, 0, 0)).2.2 < k ∧ i + 1 ∉ ks) ↔ ((M.things.getD i noTh).there = true ∧ (H.seats.getD (i + 1) (0, 0, 0)).2.2 < k + 1 ∧ i + 1 ∉ ks) := by
      refine ⟨fun q => ⟨q.1, by omega, q.2.2⟩, fun q => ⟨q.1, ?_, q.2.2⟩⟩
      have q2 := q.2.1
      by_cases e3 : (H.seats.getD (i + 1) (0, 0, 0)).2.2 = k
      ·have := hat i q.1 e3; omega
      ·omega
     simp only [hiff]
   ·show ((vacTo H ks k).order.set _ 0).length = _; rw [List.length_set]; exact h4
   ·show ((vacTo H ks k).order.set ((vacTo H ks k).seats.getD (i0 + 1) (0, 0, 0)).2.2 0).getD r 0 = _
    rw [o3, getD_nat _ _ _ _ (by omega), if_neg (by omega)]
    exact h5 r (by omega)
   ·show ((vacTo H ks k).seats.set _ _).length = _; rw [List.length_set]; exact h6
  ·have e : vacTo H ks (k + 1) = vacTo H ks k := by
    show (if _ then _ else _) = _
    rw [if_neg hc]
   rw [e]
   refine ⟨T, h1, h2, fun i => ?_, h4, fun r hr => h5 r (by omega), h6⟩
   rw [h3 i]
   have hiff : ((M.things.getD i noTh).there = true ∧ (H.seats.getD (i + 1) (0, 0, 0)).2.2 < k ∧ i + 1 ∉ ks) ↔ ((M.things.getD i noTh).there = true ∧ (H.seats.getD (i + 1) (0, 0, 0)).2.2 < k + 1 ∧ i + 1 ∉ ks) := by
    refine ⟨fun q => ⟨q.1, by omega, q.2.2⟩, fun q => ⟨q.1, ?_, q.2.2⟩⟩
    have q2 := q.2.1
    by_cases e3 : (H.seats.getD (i + 1) (0, 0, 0)).2.2 = k
    ·have := hat i q.1 e3
     exact absurd ⟨by rw [ho, this]; omega, by rw [ho, this]; exact q.2.2⟩ hc
    ·omega
   simp only [hiff]
theorem Inv.aged {H : HS} {M : MS} (h : Inv H M) (n : Nat) : Inv { H with age := n } M :=
 {safe := ⟨⟨h.safe.small.words, h.safe.small.oops, h.safe.small.mem, h.safe.small.count, h.safe.small.mark⟩, h.safe.low, h.safe.bl, h.safe.bits, h.safe.seats, h.safe.order⟩
  words := h.words, oops := h.oops, mark := h.mark, len := h.len, seat0 := h.seat0, there := h.there, seat := h.seat
  is := fun k hk hb => (h.is k hk hb).same rfl (by have := (has_yes (h.is k hk hb).has).2.1; show k + 1 < H.seats.length; omega) (h.is k hk hb).room (fun _ _ _ => rfl)
  count := h.count, turn := h.turn, order := h.order, rise := h.rise, gaps := h.gaps, bit := h.bit, low := h.low, model := h.model, deep := h.deep, most := h.most, room := h.room, fin := h.fin, last := h.last }
def keptTh (S : List Th) (ks : List Nat) : List Th := slidN (stayTo S ks S.length) 0 (thereTo (stayTo S ks S.length) S.length)
theorem Inv.keep {H : HS} {M : MS} (h : Inv H M) (ks : List Nat) (hks : ∀ j ∈ ks, mhas M (j : Int) = true) (ha : H.age ≤ 1000000000) : KeepOk H ks ∧ Inv (keepH H ks) { M with things := keptTh M.things ks } := by
 have hv := h.toInvV
 have hsl : ∀ i, i < M.things.length → (M.things.getD i noTh).there = true → i + 1 < H.seats.length := fun i hi hb => hv.seatIn i hi hb
 obtain ⟨T, h1, h2, h3, h4, h5, h6⟩ := hv.vacs ks H.order.length (Nat.le_refl _)
 have hT : T = stayTo M.things ks M.things.length := by
  refine th_ext (by rw [h2, stayTo_len]) (fun i hi => ?_)
  have e2 := stayTo_at M.things ks M.things.length (Nat.le_refl _) i
  rw [if_pos (by omega)] at e2
  rw [h3 i, e2]
  cases hb : (M.things.getD i noTh).there with
  | true =>
   have := (hv.turn i (by omega) hb).1
   by_cases hm : i + 1 ∈ ks
   ·rw [if_neg (fun hc => hc.2.2 hm)]
    simp [stayed, hm]
   ·rw [if_pos ⟨rfl, this, hm⟩]
    simp [stayed, gone, hm]
  | false =>
   rw [if_neg (fun hc => by cases hc.1)]
   generalize M.things.getD i noTh = t at hb
   cases t
   simp only at hb
   subst hb
   simp [stayed]
 refine ⟨⟨fun j hj => ?_, fun k hk hne => ?_, h1.slideOk, ?_, ?_, ?_, ?_, ha⟩, ?_⟩
 ·obtain ⟨i, i1, i2, i3⟩ := mhas_yes (hks j hj)
  have e : j = i + 1 := by omega
  subst e
  have := hsl i i2 i3
  exact ⟨by omega, by omega, (hv.there i i2).1 i3⟩
 ·obtain ⟨T', q1, q2, q3, q4, q5, q6⟩ := hv.vacs ks k (by omega)
  obtain ⟨o1, o2, o3⟩ := q1.order k (by omega) hne
  obtain ⟨i0, hi0⟩ : ∃ i0, (vacTo H ks k).order.getD k 0 = i0 + 1 := ⟨(vacTo H ks k).order.getD k 0 - 1, by omega⟩
  rw [hi0] at o1 o2 ⊢
  rw [Nat.add_sub_cancel] at o2
  have o1' : i0 + 1 ≤ T'.length := o1
  have o4 : (M.things.getD i0 noTh).there = true := by
   have o5 : (T'.getD i0 noTh).there = true := o2
   rw [q3 i0] at o5
   split at o5
   ·exact absurd o5 (by simp [gone])
   ·exact o5
  exact ⟨hsl i0 (by omega) o4, fun _ => q1.vacOk i0 o1' o2⟩
 ·have := hv.safe.small.mem; have := hv.safe.small.words; omega
 ·have := hv.safe.order; omega
 ·have := hv.safe.seats; omega
 ·have := hv.safe.small.count; have := hv.safe.small.oops; omega
 ·have hs := h1.slide
  have e : slidN ({ M with things := T } : MS).things 0 (thereTo ({ M with things := T } : MS).things ({ M with things := T } : MS).things.length) = keptTh M.things ks := by
   show slidN T 0 (thereTo T T.length) = _
   rw [h2, hT]
   rfl
  rw [e] at hs
  exact hs.aged _
theorem Inv.setMark {H : HS} {M : MS} (h : Inv H M) (n : Nat) (hn : (n : Int) ≤ 1073741824) : Inv { H with mark := n } { M with mark := n } :=
 {safe := ⟨⟨h.safe.small.words, h.safe.small.oops, h.safe.small.mem, h.safe.small.count, hn⟩, h.safe.low, h.safe.bl, h.safe.bits, h.safe.seats, h.safe.order⟩
  words := h.words, oops := h.oops, mark := rfl, len := h.len, seat0 := h.seat0, there := h.there, seat := h.seat
  is := fun k hk hb => (h.is k hk hb).same rfl (by have := (has_yes (h.is k hk hb).has).2.1; show k + 1 < H.seats.length; omega) (h.is k hk hb).room (fun _ _ _ => rfl)
  count := h.count, turn := h.turn, order := h.order, rise := h.rise, gaps := h.gaps, bit := h.bit, low := h.low, model := ⟨h.model.len, h.model.slots, h.model.place⟩, deep := h.deep, most := h.most, room := h.room, fin := h.fin, last := h.last }
def A1 : HS := ⟨40, 3, 0, [8, 6, 4, 4, 4], [(0, 0, 0), (0, 5, 0)], [1], [1], 0, 1, 0⟩
def A2 : HS := ⟨40, 3, 0, [8, 6, 4, 4, 4, 12, 11, 0, 0], [(0, 0, 0), (0, 5, 0), (5, 4, 1)], [1, 2], [3], 0, 2, 0⟩
def A3 : HS := { A2 with mem := [8, 6, 4, 4, 77, 12, 11, 0, 0] }
def A4 : HS := { A2 with mem := [8, 6, 4, 4, 77, 12, 11, 0, 200] }
def A5 : HS := { A4 with seats := [(0, 0, 0), (5, 4, 1), (0, 5, 0)], order := [2, 1], age := 1 }
def A5v : HS := ⟨40, 3, 0, [0, 0, 0, 0, 0, 12, 11, 0, 200], [(0, 0, 0), (5, 4, 1), (0, 0, 0)], [0, 1], [1], 0, 1, 1⟩
theorem v1 : vacTo A5 [1] 1 = A5v := by rfl
theorem v2 : vacTo A5 [1] 2 = A5v := by rfl
def bare (t : Th) : Th := { t with p := none, c := 0 }
structure Lk (M N : MS) : Prop where
 words : M.words = N.words
 oops : M.oops = N.oops
 mark : M.mark = N.mark
 things : M.things.map bare = N.things.map bare
theorem Lk.refl (M : MS) : Lk M M := ⟨rfl, rfl, rfl, rfl⟩
end Go.Proofs.YtklfnjlenbgmoaaDoor
namespace Go.Proofs.YtklfnjlenbgmoaaDoor
open Go.RowKit
attribute [local go_sem ↓] Go.wp_at_zero Go.wp_at_succ
def stepV (K O A B C X : Int) (ls : Value) : Value := .agg #[.int .i64 K, .int .i64 O, .int .i64 A, .int .i64 B, .int .i64 C, .int .i64 X, ls]
theorem all_nat (M : MS) : ∀ zs : List Int, zs.all (mhas M) = true → ∃ ks : List Nat, zs = ks.map (fun n : Nat => (n : Int)) ∧ ∀ j ∈ ks, mhas M (j : Int) = true := by
 intro zs
 induction zs with
 | nil => intro _; exact ⟨[], rfl, by simp⟩
 | cons z zs ih =>
  intro h
  rw [List.all_cons, Bool.and_eq_true] at h
  obtain ⟨ks, h1, h2⟩ := ih h.2
  obtain ⟨k, k1, k2, k3⟩ := mhas_yes h.1
  refine ⟨(k + 1) :: ks, ?_, ?_⟩
  ·rw [h1, k1]; simp
  ·intro j hj
   rcases List.mem_cons.1 hj with rfl | hj
   ·have := h.1; rw [k1] at this; simpa using this
   ·exact h2 j hj
structure LsAt (w0 : World) (ao : Option Addr) (c : Nat) (zs : List Int) : Prop where
 nil : ao = none → zs = [] ∧ c = 0
 row : zs ≠ [] → ∃ b off, ao = some ⟨b, off, none⟩ ∧ b < w0.heap.size ∧ ∀ j, j < zs.length → w0.cell? ⟨b, off + j, none⟩ = some (.int .i64 (zs.getD j 0))
 short : zs.length ≤ 17592186044416
theorem Exch_inv (x y : Nat) (a : Nat) (l : Lay) (H : HS) (M : MS) (w : World) (h : Rep w a l H) (hi : Inv H M) (hx : x < M.things.length) (hy : y < M.things.length) (bx : (M.things.getD x noTh).there = true) (by_ : (M.things.getD y noTh).there = true) (hage : (H.age : Int) ≤ 1000000000) :
  Calls Tryd.prog 46 #[.pointer (some ⟨a, 0, none⟩), .int .i64 ((x : Int) + 1), .int .i64 ((y : Int) + 1)] w fun e w' => e = .returned (.int .i64 0) ∧ Rep w' a l (exchH H (x + 1) (y + 1)) ∧ Nx a l l w w' := by
 obtain ⟨a1, a2, a3⟩ := has_yes (hi.is x hx bx).has
 obtain ⟨b1, b2, b3⟩ := has_yes (hi.is y hy by_).has
 obtain ⟨t1, t2⟩ := hi.turn x hx bx
 obtain ⟨u1, u2⟩ := hi.turn y hy by_
 have ho := hi.safe.order
 rw [show (x : Int) + 1 = ((x + 1 : Nat) : Int) from by omega, show (y : Int) + 1 = ((y + 1 : Nat) : Int) from by omega]
 by_cases e : x = y
 ·subst e
  exact Exchange_same (x + 1) a l H w h a1 a2 a3 t1 hi.safe.seats (by omega) hage
 ·exact Exchange_ok (x + 1) (y + 1) a l H w h a1 a2 a3 b1 b2 b3 (by omega) t1 u1 (fun e2 => by rw [e2, u2] at t2; omega) hi.safe.seats (by omega) hage
theorem slidN_alike : ∀ (n : Nat) (S : List Th) (A : Nat), Alike (slidN S A n) S := by
 intro n
 induction n with
 | zero => intro S A; exact Alike.refl S
 | succ n ih =>
  intro S A
  cases hp : pickTo S A S.length with
  | none => rw [slidN_none S A n hp]; exact Alike.refl S
  | some k =>
   rw [slidN_some S A n k hp]
   have h1 := ih (S.set k (placed (S.getD k noTh) A)) (A + lenN (S.getD k noTh).slots.length (S.getD k noTh).fmt)
   have h2 := (Alike.refl S).place k A (pickTo_lt S A S.length k hp).1
   refine ⟨h1.len.trans h2.len, fun i => ?_⟩
   obtain ⟨a1, a2, a3, a4, a5, a6⟩ := h1.at_ i
   obtain ⟨b1, b2, b3, b4, b5, b6⟩ := h2.at_ i
   exact ⟨a1.trans b1, a2.trans b2, a3.trans b3, a4.trans b4, a5.trans b5, a6.trans b6⟩
end Go.Proofs.YtklfnjlenbgmoaaDoor
namespace Go.Proofs.YtklfnjlenbgmoaaDoor
open Go.RowKit
def allocN (M : MS) (X A B : Int) : MS :=
 if isW X = false ∨ A < 0 ∨ B < 0 ∨ 1 < B then M
 else if 8192 < A then M
 else if M.oops = thereTo M.things M.things.length ∨ M.words < endTo M.things M.things.length + lenN A.toNat B.toNat then M
 else if M.mark = 1 then { M with mark := 0 }
 else { M with mark := M.mark - 1, things := putTh M.things (lowTo M.things - 1) ⟨true, X, B.toNat, endTo M.things M.things.length, List.replicate A.toNat (newX B.toNat), none, 0⟩ }
theorem allocN_bad {M : MS} {X A B : Int} (h : isW X = false ∨ A < 0 ∨ B < 0 ∨ 1 < B) : allocN M X A B = M := if_pos h
theorem allocN_big {M : MS} {X A B : Int} (h : ¬ (isW X = false ∨ A < 0 ∨ B < 0 ∨ 1 < B)) (h2 : 8192 < A) : allocN M X A B = M := by
 unfold allocN; rw [if_neg h, if_pos h2]
theorem allocN_full {M : MS} {X A B : Int} (h : ¬ (isW X = false ∨ A < 0 ∨ B < 0 ∨ 1 < B)) (h2 : ¬ 8192 < A) (h3 : M.oops = thereTo M.things M.things.length ∨ M.words < endTo M.things M.things.length + lenN A.toNat B.toNat) : allocN M X A B = M := by
 unfold allocN; rw [if_neg h, if_neg h2, if_pos h3]
theorem allocN_mark {M : MS} {X A B : Int} (h : ¬ (isW X = false ∨ A < 0 ∨ B < 0 ∨ 1 < B)) (h2 : ¬ 8192 < A) (h3 : ¬ (M.oops = thereTo M.things M.things.length ∨ M.words < endTo M.things M.things.length + lenN A.toNat B.toNat)) (h4 : M.mark = 1) : allocN M X A B = { M with mark := 0 } := by
 unfold allocN; rw [if_neg h, if_neg h2, if_neg h3, if_pos h4]
theorem allocN_made {M : MS} {X A B : Int} (h : ¬ (isW X = false ∨ A < 0 ∨ B < 0 ∨ 1 < B)) (h2 : ¬ 8192 < A) (h3 : ¬ (M.oops = thereTo M.things M.things.length ∨ M.words < endTo M.things M.things.length + lenN A.toNat B.toNat)) (h4 : M.mark ≠ 1) : allocN M X A B = { M with mark := M.mark - 1, things := putTh M.things (lowTo M.things - 1) ⟨true, X, B.toNat, endTo M.things M.things.length, List.replicate A.toNat (newX B.toNat), none, 0⟩ } := by
 unfold allocN; rw [if_neg h, if_neg h2, if_neg h3, if_neg h4]
def keepN (M : MS) (zs : List Int) : MS := if zs.all (mhas M) = true then { M with things := keptTh M.things (zs.map Int.toNat) } else M
def exchN (M : MS) (A B : Int) : MS := if mhas M A = true ∧ mhas M B = true then { M with things := (M.things.set (A.toNat - 1) (M.things.getD (B.toNat - 1) noTh)).set (B.toNat - 1) (M.things.getD (A.toNat - 1) noTh) } else M
def putN (M : MS) (A B X : Int) : MS := if mhas M A = true ∧ 0 ≤ B ∧ B < ((M.things.getD (A.toNat - 1) noTh).slots.length : Int) ∧ mayB X ((M.things.getD (A.toNat - 1) noTh).fmt : Int) = true then { M with things := M.things.set (A.toNat - 1) (withSlot (M.things.getD (A.toNat - 1) noTh) B.toNat X) } else M
def clsN (M : MS) (A X : Int) : MS := if mhas M A = true ∧ isW X = true then { M with things := M.things.set (A.toNat - 1) (withCls (M.things.getD (A.toNat - 1) noTh) X) } else M
def freeN (M : MS) (A : Int) : MS := if mhas M A = true then { M with things := M.things.set (A.toNat - 1) (gone (M.things.getD (A.toNat - 1) noTh)) } else M
def markN (M : MS) (A : Int) : MS := if isM A = true then { M with mark := A.toNat } else M
def nextM (M : MS) (K A B X : Int) (zs : List Int) : MS :=
 if K = 1 then allocN M X A B
 else if K = 2 then markN M A
 else if K = 3 then freeN M A
 else if K = 5 then clsN M A X
 else if K = 7 then putN M A B X
 else if K = 8 then exchN M A B
 else if K = 11 then keepN M zs
 else M
theorem sub1 (k : Nat) : ((k : Int) + 1).toNat - 1 = k := by omega
theorem map_nat_back (ks : List Nat) : (ks.map (fun n : Nat => (n : Int))).map Int.toNat = ks := by
 rw [List.map_map]
 conv => rhs; rw [← List.map_id ks]
 exact List.map_congr_left fun x _ => rfl
end Go.Proofs.YtklfnjlenbgmoaaDoor
namespace Go.Proofs.YtklfnjlenbgmoaaDoor
open Go.RowKit
attribute [local go_sem ↓] Go.wp_at_zero Go.wp_at_succ
end Go.Proofs.YtklfnjlenbgmoaaDoor
namespace Go.Proofs.YtklfnjlenbgmoaaDoor
open Go.RowKit
theorem getD_bare (S : List Th) (k : Nat) : (S.map bare).getD k noTh = bare (S.getD k noTh) := by
 rw [List.getD_eq_getElem?_getD, List.getD_eq_getElem?_getD, List.getElem?_map]
 cases S[k]? <;> rfl
theorem Lk.at {M N : MS} (h : Lk M N) (k : Nat) : bare (M.things.getD k noTh) = bare (N.things.getD k noTh) := by
 rw [← getD_bare, ← getD_bare, h.things]
theorem Lk.len {M N : MS} (h : Lk M N) : M.things.length = N.things.length := by
 have := congrArg List.length h.things
 rwa [List.length_map, List.length_map] at this
theorem Lk.fields {M N : MS} (h : Lk M N) (k : Nat) : (M.things.getD k noTh).there = (N.things.getD k noTh).there ∧ (M.things.getD k noTh).cls = (N.things.getD k noTh).cls ∧ (M.things.getD k noTh).fmt = (N.things.getD k noTh).fmt ∧ (M.things.getD k noTh).place = (N.things.getD k noTh).place ∧ (M.things.getD k noTh).slots = (N.things.getD k noTh).slots := by
 have := h.at k
 generalize M.things.getD k noTh = t at *
 generalize N.things.getD k noTh = u at *
 cases t; cases u
 simp only [bare, Th.mk.injEq] at this
 obtain ⟨h1, h2, h3, h4, h5, -⟩ := this
 exact ⟨h1, h2, h3, h4, h5⟩
def Fine (t : Th) : Prop := t.there = true → isW t.cls = true ∧ t.fmt ≤ 1 ∧ ∀ x ∈ t.slots, mayB x (t.fmt : Int) = true
def Good (M : MS) : Prop := ∀ i, Fine (M.things.getD i noTh)
theorem fine_no : Fine noTh := fun h => by simp [noTh] at h
theorem good_set {M : MS} (h : Good M) (k : Nat) (t : Th) (ht : Fine t) : Good { M with things := M.things.set k t } := by
 intro i
 show Fine ((M.things.set k t).getD i noTh)
 by_cases hk : k < M.things.length
 ·rw [getD_set _ _ _ _ hk]
  split
  ·exact ht
  ·exact h i
 ·rw [List.set_eq_of_length_le (by omega)]
  exact h i
theorem fine_new (X : Int) (f E n : Nat) (p : Option Addr) (c : Nat) (hX : isW X = true) (hf : f ≤ 1) : Fine ⟨true, X, f, E, List.replicate n (newX f), p, c⟩ := by
 intro _
 refine ⟨hX, hf, fun x hx => ?_⟩
 have hx' := List.eq_of_mem_replicate hx
 rw [hx']
 rcases (show f = 0 ∨ f = 1 from by omega) with rfl | rfl
 ·show mayB (newX 0) ((0 : Nat) : Int) = true
  decide
 ·show mayB (newX 1) ((1 : Nat) : Int) = true
  decide
theorem good_put {M : MS} (h : Good M) (k : Nat) (t : Th) (ht : Fine t) (mk : Nat) : Good { M with mark := mk, things := putTh M.things k t } := by
 intro i
 show Fine ((putTh M.things k t).getD i noTh)
 unfold putTh
 split
 ·exact good_set h k t ht i
 ·rw [List.getD_eq_getElem?_getD]
  by_cases e : i < M.things.length
  ·rw [List.getElem?_append_left e, ← List.getD_eq_getElem?_getD]; exact h i
  ·rw [List.getElem?_append_right (by omega)]
   cases hj : i - M.things.length with
   | zero => exact ht
   | succ j => exact fine_no
theorem fine_placed {t : Th} (h : Fine t) (A : Nat) : Fine (placed t A) := h
theorem good_slid : ∀ (n : Nat) (S : List Th) (A : Nat), (∀ i, Fine (S.getD i noTh)) → ∀ i, Fine ((slidN S A n).getD i noTh) := by
 intro n
 induction n with
 | zero => intro S A h; exact h
 | succ n ih =>
  intro S A h
  cases hp : pickTo S A S.length with
  | none => rw [slidN_none S A n hp]; exact h
  | some k =>
   rw [slidN_some S A n k hp]
   refine ih _ _ (fun i => ?_)
   have := (pickTo_lt S A _ _ hp).1
   rw [getD_set _ _ _ _ this]
   split
   ·exact fine_placed (h k) A
   ·exact h i
theorem good_kept {S : List Th} (h : ∀ i, Fine (S.getD i noTh)) (ks : List Nat) : ∀ i, Fine ((keptTh S ks).getD i noTh) := by
 unfold keptTh
 refine good_slid _ _ _ (fun i => ?_)
 rw [stayTo_at S ks S.length (Nat.le_refl _) i]
 split
 ·intro hb
  refine h i ?_
  have : ((S.getD i noTh).there && decide (i + 1 ∈ ks)) = true := hb
  simp at this
  exact this.1
 ·exact h i
theorem Good.next {M : MS} (h : Good M) (K A B X : Int) (zs : List Int) : Good (nextM M K A B X zs) := by
 unfold nextM
 split
 ·unfold allocN
  split
  ·exact h
  ·rename_i hg
   split
   ·exact h
   ·split
    ·exact h
    ·split
     ·exact h
     ·refine good_put h _ _ (fine_new X B.toNat _ _ none 0 ?_ (by omega)) _
      cases hx : isW X with
      | true => rfl
      | false => exact absurd (.inl hx) hg
 ·split
  ·unfold markN; split <;> exact h
  ·split
   ·unfold freeN
    split
    ·exact good_set h _ _ (fun hb => by simp [gone] at hb)
    ·exact h
   ·split
    ·unfold clsN
     split
     ·rename_i hc
      exact good_set h _ _ (fun hb => by
       obtain ⟨a1, a2, a3⟩ := h (A.toNat - 1) hb
       exact ⟨hc.2, a2, a3⟩)
     ·exact h
    ·split
     ·unfold putN
      split
      ·rename_i hc
       refine good_set h _ _ (fun hb => ?_)
       obtain ⟨a1, a2, a3⟩ := h (A.toNat - 1) hb
       refine ⟨a1, a2, fun x hx => ?_⟩
       have hx2 : x ∈ (M.things.getD (A.toNat - 1) noTh).slots.set B.toNat X := hx
       rcases List.mem_or_eq_of_mem_set hx2 with h3 | h3
       ·exact a3 x h3
       ·rw [h3]; exact hc.2.2.2
      ·exact h
     ·split
      ·unfold exchN
       split
       ·exact good_set (M := { M with things := M.things.set (A.toNat - 1) (M.things.getD (B.toNat - 1) noTh) }) (good_set h _ _ (h _)) _ _ (h _)
       ·exact h
      ·split
       ·unfold keepN
        split
        ·exact good_kept h _
        ·exact h
       ·exact h
end Go.Proofs.YtklfnjlenbgmoaaDoor
