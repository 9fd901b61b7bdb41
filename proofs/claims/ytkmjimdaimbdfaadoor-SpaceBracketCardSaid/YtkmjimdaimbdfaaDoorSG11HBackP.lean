import Derived.Test.YtkmjimdaimbdfaaDoorSG10HInvT
import Derived.Test.YtkmjimdaimbdfaaDoorSG06HTold
import Derived.BigQuiet
import Derived.Test.YtkmjimdaimbdfaaDoorSG07HRefB
namespace Go.Proofs.YtkmjimdaimbdfaaDoor
open Go.RowKit
set_option linter.unusedVariables false
/-- they have slid together: the heap's and the model's -/
theorem InvV.slide {H : HS} {M : MS} (hv : InvV H M) : Inv (slideH H) { M with things := slidN M.things 0 (thereTo M.things M.things.length) } := by
  obtain ⟨T, h⟩ := hv.mid H.order.length (Nat.le_refl _)
  have hdone : ∀ i, (M.things.getD i noTh).there = true → (H.seats.getD (i + 1) (0, 0, 0)).2.2 < H.order.length := fun i hb => (hv.turn i (th_in hb) hb).1
  have hen := (slideTo_len H hv.slideOk H.order.length (Nat.le_refl _)).2.2.2.2
  unfold slideH
  generalize slideTo H H.order.length = x at *
  have hml := h.ml
  have hol := h.ol
  have hxsl := h.sl
  have htk := h.tk
  have hTl := h.alike.len
  obtain ⟨e1, e2, e3, e4, e5, e6⟩ := h.rest
  have hb : ∀ i, (T.getD i noTh).there = (M.things.getD i noTh).there := fun i => (h.alike.at_ i).1
  have hln : ∀ i, lenN (T.getD i noTh).slots.length (T.getD i noTh).fmt = lenN (M.things.getD i noTh).slots.length (M.things.getD i noTh).fmt := fun i => by rw [(h.alike.at_ i).2.1, (h.alike.at_ i).2.2.1]
  have hD := fun i hbi => h.done i hbi (hdone i hbi)
  have hres : slidN M.things 0 (thereTo M.things M.things.length) = T := by
    have hc : x.turns ≤ thereTo M.things M.things.length := by
      refine thereTo_many x.turns M.things (fun r => x.H.order.getD r 0 - 1) (fun r hr => ?_) (fun i j hi hj e => ?_)
      · obtain ⟨i, i1, i2, i3, i4⟩ := h.ord r hr
        simp only [i1, Nat.add_sub_cancel]
        exact i2
      · obtain ⟨p, p1, p2, p3, p4⟩ := h.ord i hi
        obtain ⟨q, q1, q2, q3, q4⟩ := h.ord j hj
        simp only [p1, q1, Nat.add_sub_cancel] at e
        rw [e] at p4
        omega
    have := h.run (thereTo M.things M.things.length - x.turns)
    rw [show x.turns + (thereTo M.things M.things.length - x.turns) = thereTo M.things M.things.length from by omega] at this
    rw [this]
    have hno := pickTo_no T x.en (fun i hbi => by
      rw [hb] at hbi
      obtain ⟨t, t1, t2, t3, t4, t5, t6⟩ := hD i hbi
      have := lenN_two (M.things.getD i noTh).slots.length (M.things.getD i noTh).fmt
      omega) T.length
    cases thereTo M.things M.things.length - x.turns with
    | zero => rfl
    | succ n => exact slidN_none T x.en n hno
  rw [hres]
  have hsm := hv.safe.small
  have hMl : (x.H.mem.take x.en).length = x.en := by simp; omega
  have hM : ∀ p, p < x.en → (x.H.mem.take x.en).getD p 0 = x.H.mem.getD p 0 := fun p hp => by rw [getD_take, if_pos hp]
  have hOl : (x.H.order.take x.turns).length = x.turns := by simp; omega
  have hO : ∀ r, r < x.turns → (x.H.order.take x.turns).getD r 0 = x.H.order.getD r 0 := fun r hr => by rw [getD_take, if_pos hr]
  generalize x.H.mem.take x.en = MM at *
  generalize x.H.order.take x.turns = OO at *
  have hrm := hv.room
  exact {
    safe := ⟨⟨by show (x.H.words : Int) ≤ _; rw [e1]; exact hsm.words, by show (x.H.oops : Int) ≤ _; rw [e2]; exact hsm.oops, by show (MM.length : Int) ≤ (x.H.words : Int); rw [e1]; have := hsm.mem; omega, by show (x.H.count : Int) ≤ (x.H.oops : Int); rw [e6, e2]; exact hsm.count, by show (x.H.mark : Int) ≤ _; rw [e3]; exact hsm.mark⟩,
      by show x.H.low ≤ x.H.bits.length; rw [e4, e5]; exact hv.safe.low, by show (x.H.bits.length : Int) ≤ _; rw [e4]; exact hv.safe.bl, by show ∀ k, x.H.bits.getD k 0 ≤ full; rw [e4]; exact hv.safe.bits, by show (x.H.seats.length : Int) ≤ _; rw [hxsl]; exact hv.safe.seats, by show (OO.length : Int) ≤ _; rw [hOl]; have := hv.safe.order; omega⟩
    words := e1.trans hv.words
    oops := e2.trans hv.oops
    mark := e3.trans hv.mark
    len := by show x.H.seats.length ≤ T.length + 1; rw [hxsl, hTl]; exact hv.len
    seat0 := by show (x.H.seats.getD 0 (0, 0, 0)).2.1 = 0; rw [h.off 0 (.inl rfl)]; exact hv.seat0
    there := fun i hi => by
      have hi2 : i < M.things.length := by rw [← hTl]; exact hi
      show ((T.getD i noTh).there = true ↔ (x.H.seats.getD (i + 1) (0, 0, 0)).2.1 ≠ 0)
      rw [hb]
      cases hbi : (M.things.getD i noTh).there with
      | true =>
        obtain ⟨t, t1, -⟩ := hD i hbi
        have := lenN_two (M.things.getD i noTh).slots.length (M.things.getD i noTh).fmt
        rw [t1]
        exact ⟨fun _ => by show lenN _ _ ≠ 0; omega, fun _ => rfl⟩
      | false =>
        rw [h.off (i + 1) (.inr (by rw [Nat.add_sub_cancel]; exact hbi)), ← hbi]
        exact hv.there i hi2
    seat := fun i hi hbi => by
      show (x.H.seats.getD (i + 1) (0, 0, 0)).1 = (T.getD i noTh).place ∧ (x.H.seats.getD (i + 1) (0, 0, 0)).2.1 = lenN (T.getD i noTh).slots.length (T.getD i noTh).fmt
      have hbi2 : (M.things.getD i noTh).there = true := by rw [← hb]; exact hbi
      obtain ⟨t, t1, -⟩ := hD i hbi2
      rw [t1, hln]
      exact ⟨rfl, rfl⟩
    is := fun i hi hbi => by
      have hbi2 : (M.things.getD i noTh).there = true := by rw [← hb]; exact hbi
      have hI := hv.is i (th_in hbi2) hbi2
      have hsx := (has_yes hI.has).2.1
      obtain ⟨t, t1, t2, t3, t4, t5, t6⟩ := hD i hbi2
      have h2 := lenN_two (M.things.getD i noTh).slots.length (M.things.getD i noTh).fmt
      have hI2 : Is H (i + 1) (T.getD i noTh) := by
        obtain ⟨q1, q2, q3, q4, q5, q6⟩ := h.alike.at_ i
        exact ⟨hI.has, by rw [q2, q3]; exact hI.room, by rw [q4]; exact hI.cls, by rw [q2, q3]; exact hI.shape, by rw [q3]; exact hI.fmt, by rw [q2]; exact hI.len, by rw [q2, q3]; exact hI.word, by rw [q2, q3]; exact hI.byte⟩
      refine hI2.moved (T.getD i noTh).place ?_ ?_ ?_ ?_ ?_
      · show (x.H.seats.getD (i + 1) (0, 0, 0)).1 = _; rw [t1]
      · show (x.H.seats.getD (i + 1) (0, 0, 0)).2.1 ≠ 0; rw [t1]; show lenN _ _ ≠ 0; omega
      · show i + 1 < x.H.seats.length; omega
      · show _ ≤ MM.length; rw [hln]; omega
      · intro d hd
        rw [hln] at hd
        show MM.getD _ 0 = _
        rw [hM _ (by omega), t6 d hd, (hv.seat i (th_in hbi2) hbi2).1]
    count := by
      show x.H.count = thereTo T T.length
      rw [e6, hv.count, hTl, ← h.alike.there _ (by omega)]
    turn := fun i hi hbi => by
      have hbi2 : (M.things.getD i noTh).there = true := by rw [← hb]; exact hbi
      obtain ⟨t, t1, t2, t3, t4, t5, t6⟩ := hD i hbi2
      show (x.H.seats.getD (i + 1) (0, 0, 0)).2.2 < OO.length ∧ OO.getD (x.H.seats.getD (i + 1) (0, 0, 0)).2.2 0 = i + 1
      rw [t1, hOl]
      exact ⟨t2, by rw [hO _ t2]; exact t3⟩
    order := fun r hr hne => by
      have hr2 : r < x.turns := by rw [← hOl]; exact hr
      show OO.getD r 0 ≤ T.length ∧ (T.getD (OO.getD r 0 - 1) noTh).there = true ∧ (x.H.seats.getD (OO.getD r 0) (0, 0, 0)).2.2 = r
      obtain ⟨i, i1, i2, i3, i4⟩ := h.ord r hr2
      have := th_in i2
      rw [hO r hr2, i1, Nat.add_sub_cancel, hb]
      exact ⟨by omega, i2, i4⟩
    rise := fun i j hij hj _ _ => by
      have hj2 : j < x.turns := by rw [← hOl]; exact hj
      show (x.H.seats.getD (OO.getD i 0) (0, 0, 0)).1 + (x.H.seats.getD (OO.getD i 0) (0, 0, 0)).2.1 ≤ (x.H.seats.getD (OO.getD j 0) (0, 0, 0)).1
      rw [hO i (by omega), hO j hj2]
      exact h.rise i j hij hj2
    gaps := fun p hp hc => by
      have hp2 : p < x.en := by rw [← hMl]; exact hp
      obtain ⟨i, i1, i2, i3, i4⟩ := h.cov p hp2
      have hx : p < (T.getD i noTh).place ∨ (T.getD i noTh).place + lenN (T.getD i noTh).slots.length (T.getD i noTh).fmt ≤ p := hc i (by show i < T.length; have := th_in i1; omega) (by show (T.getD i noTh).there = true; rw [hb]; exact i1)
      rw [hln] at hx
      omega
    bit := fun j => by
      show (x.H.bits.getD (j / 64) 0).testBit (j % 64) = (T.getD j noTh).there
      rw [e4, hb]
      exact hv.bit j
    low := fun i hi => by
      show x.H.bits.getD i 0 = full
      rw [e4]
      exact hv.low i (by rw [← e5]; exact hi)
    model := ⟨by show (T.length : Int) ≤ _; rw [hTl]; exact hv.model.len, fun i hi => by
        show ((T.getD i noTh).slots.length : Int) ≤ 8192
        rw [(h.alike.at_ i).2.1]
        exact hv.model.slots i (by rw [← hTl]; exact hi), fun i hi => by
        show ((T.getD i noTh).place : Int) ≤ 1048576
        cases hbi : (M.things.getD i noTh).there with
        | true =>
          obtain ⟨t, t1, t2, t3, t4, t5, t6⟩ := hD i hbi
          have := hsm.mem
          omega
        | false =>
          rw [h.still i hbi]
          exact hv.model.place i (by rw [← hTl]; exact hi)⟩
    deep := fun j hj hne => by
      have hj2 : j < x.turns := by rw [← hOl]; exact hj
      show 2 * j ≤ (x.H.seats.getD (OO.getD j 0) (0, 0, 0)).1
      obtain ⟨i, i1, i2, i3, i4⟩ := h.ord j hj2
      obtain ⟨t, t1, t2, t3, t4, t5, t6⟩ := hD i i2
      rw [hO j hj2, i1, t1]
      rw [t1] at i4
      have i4' : t = j := i4
      show 2 * j ≤ (T.getD i noTh).place
      omega
    most := by show T.length ≤ M.oops; rw [hTl]; exact hv.most
    room := by show (x.H.words : Int) ≤ _; rw [e1]; exact hv.room
    fin := by
      show MM.length = endTo T T.length
      rw [hMl]
      refine (endTo_is T x.en _ (fun j hj hbj => ?_) ?_).symm
      · rw [hb] at hbj
        obtain ⟨t, t1, t2, t3, t4, t5, t6⟩ := hD j hbj
        rw [hln]
        exact t4
      · by_cases e : 0 < x.en
        · obtain ⟨i, i1, i2, i3⟩ := h.top e
          exact .inr ⟨i, by have := th_in i1; omega, by rw [hb]; exact i1, by rw [hln]; exact i3⟩
        · exact .inl (by omega)
    last := fun j hj => by
      have hj2 : x.turns = j + 1 := by rw [← hOl]; exact hj
      show OO.getD j 0 ≠ 0
      obtain ⟨i, i1, _⟩ := h.ord j (by omega)
      rw [hO j (by omega), i1]
      omega }
end Go.Proofs.YtkmjimdaimbdfaaDoor



namespace Go.Proofs.YtkmjimdaimbdfaaDoor
open Go.RowKit
set_option linter.unusedVariables false
def stayed (t : Th) (b : Bool) : Th := { t with there := t.there && b }
/-- the first k of the things that are not of the list are away -/
def stayTo (S : List Th) (ks : List Nat) : Nat → List Th
  | 0 => S
  | k + 1 => (stayTo S ks k).set k (stayed (S.getD k noTh) (decide (k + 1 ∈ ks)))
theorem stayTo_len (S : List Th) (ks : List Nat) : ∀ k, (stayTo S ks k).length = S.length := by
  intro k
  induction k with
  | zero => rfl
  | succ k ih => show ((stayTo S ks k).set k _).length = _; rw [List.length_set, ih]
theorem stayTo_at (S : List Th) (ks : List Nat) : ∀ k, k ≤ S.length → ∀ i, (stayTo S ks k).getD i noTh = if i < k then stayed (S.getD i noTh) (decide (i + 1 ∈ ks)) else S.getD i noTh := by
  intro k
  induction k with
  | zero => intro _ i; rw [if_neg (by omega)]; rfl
  | succ k ih =>
    intro hk i
    show ((stayTo S ks k).set k _).getD i noTh = _
    rw [getD_set _ _ _ _ (by rw [stayTo_len]; omega)]
    by_cases e : i = k
    · rw [if_pos e, if_pos (by omega), e]
    · rw [if_neg e, ih (by omega) i]
      by_cases e2 : i < k
      · rw [if_pos e2, if_pos (by omega)]
      · rw [if_neg e2, if_neg (by omega)]
theorem th_ext {S T : List Th} (hl : S.length = T.length) (h : ∀ i, i < S.length → S.getD i noTh = T.getD i noTh) : S = T := by
  apply List.ext_getElem hl
  intro i h1 h2
  have := h i h1
  rw [List.getD_eq_getElem?_getD, List.getD_eq_getElem?_getD, List.getElem?_eq_getElem h1, List.getElem?_eq_getElem h2] at this
  simpa using this
theorem InvV.vacs {H : HS} {M : MS} (hv : InvV H M) (ks : List Nat) : ∀ k, k ≤ H.order.length → ∃ T : List Th, InvV (vacTo H ks k) { M with things := T } ∧ T.length = M.things.length ∧
    (∀ i, T.getD i noTh = if (M.things.getD i noTh).there = true ∧ (H.seats.getD (i + 1) (0, 0, 0)).2.2 < k ∧ i + 1 ∉ ks then gone (M.things.getD i noTh) else M.things.getD i noTh) ∧
    (vacTo H ks k).order.length = H.order.length ∧ (∀ r, k ≤ r → (vacTo H ks k).order.getD r 0 = H.order.getD r 0) ∧ (vacTo H ks k).seats.length = H.seats.length := by
  intro k
  induction k with
  | zero => intro _; exact ⟨M.things, hv, rfl, fun i => by rw [if_neg (by omega)], rfl, fun _ _ => rfl, rfl⟩
  | succ k ih =>
    intro hk
    obtain ⟨T, h1, h2, h3, h4, h5, h6⟩ := ih (by omega)
    have ho := h5 k (Nat.le_refl _)
    have hat : ∀ i, (M.things.getD i noTh).there = true → (H.seats.getD (i + 1) (0, 0, 0)).2.2 = k → H.order.getD k 0 = i + 1 := fun i hb e => by
      have := (hv.turn i (th_in hb) hb).2
      rw [e] at this
      exact this
    by_cases hc : (vacTo H ks k).order.getD k 0 ≠ 0 ∧ (vacTo H ks k).order.getD k 0 ∉ ks
    · have e : vacTo H ks (k + 1) = vacH (vacTo H ks k) ((vacTo H ks k).order.getD k 0) := by
        show (if _ then _ else _) = _
        rw [if_pos hc]
      rw [e]
      obtain ⟨c1, c2⟩ := hc
      obtain ⟨o1, o2, o3⟩ := h1.order k (by omega) c1
      obtain ⟨u1, u2, u3⟩ := hv.order k (by omega) (by rw [← ho]; exact c1)
      obtain ⟨i0, hi0⟩ : ∃ i0, (vacTo H ks k).order.getD k 0 = i0 + 1 := ⟨(vacTo H ks k).order.getD k 0 - 1, by omega⟩
      rw [ho] at hi0
      rw [ho, hi0] at o1 o2 o3 c2
      rw [hi0] at u1 u2 u3
      rw [Nat.add_sub_cancel] at o2 u2
      rw [ho, hi0]
      have hlt : i0 < T.length := o1
      have hg := fun i => getD_set T i0 i (gone (T.getD i0 noTh)) hlt
      have hvac := h1.vac i0 hlt o2
      refine ⟨T.set i0 (gone (T.getD i0 noTh)), hvac, by rw [List.length_set]; exact h2, fun i => ?_, ?_, fun r hr => ?_, ?_⟩
      · have hTi : T.getD i0 noTh = M.things.getD i0 noTh := by
          rw [h3 i0, if_neg (fun hh => by omega)]
        rw [hg]
        by_cases e2 : i = i0
        · rw [if_pos e2, hTi, e2, if_pos ⟨u2, by omega, c2⟩]
        · rw [if_neg e2, h3 i]
          have hiff : ((M.things.getD i noTh).there = true ∧ (H.seats.getD (i + 1) (0, 0, 0)).2.2 < k ∧ i + 1 ∉ ks) ↔ ((M.things.getD i noTh).there = true ∧ (H.seats.getD (i + 1) (0, 0, 0)).2.2 < k + 1 ∧ i + 1 ∉ ks) := by
            refine ⟨fun q => ⟨q.1, by omega, q.2.2⟩, fun q => ⟨q.1, ?_, q.2.2⟩⟩
            have q2 := q.2.1
            by_cases e3 : (H.seats.getD (i + 1) (0, 0, 0)).2.2 = k
            · have := hat i q.1 e3; omega
            · omega
          simp only [hiff]
      · show ((vacTo H ks k).order.set _ 0).length = _; rw [List.length_set]; exact h4
      · show ((vacTo H ks k).order.set ((vacTo H ks k).seats.getD (i0 + 1) (0, 0, 0)).2.2 0).getD r 0 = _
        rw [o3, getD_nat _ _ _ _ (by omega), if_neg (by omega)]
        exact h5 r (by omega)
      · show ((vacTo H ks k).seats.set _ _).length = _; rw [List.length_set]; exact h6
    · have e : vacTo H ks (k + 1) = vacTo H ks k := by
        show (if _ then _ else _) = _
        rw [if_neg hc]
      rw [e]
      refine ⟨T, h1, h2, fun i => ?_, h4, fun r hr => h5 r (by omega), h6⟩
      rw [h3 i]
      have hiff : ((M.things.getD i noTh).there = true ∧ (H.seats.getD (i + 1) (0, 0, 0)).2.2 < k ∧ i + 1 ∉ ks) ↔ ((M.things.getD i noTh).there = true ∧ (H.seats.getD (i + 1) (0, 0, 0)).2.2 < k + 1 ∧ i + 1 ∉ ks) := by
        refine ⟨fun q => ⟨q.1, by omega, q.2.2⟩, fun q => ⟨q.1, ?_, q.2.2⟩⟩
        have q2 := q.2.1
        by_cases e3 : (H.seats.getD (i + 1) (0, 0, 0)).2.2 = k
        · have := hat i q.1 e3
          exact absurd ⟨by rw [ho, this]; omega, by rw [ho, this]; exact q.2.2⟩ hc
        · omega
      simp only [hiff]
theorem Inv.aged {H : HS} {M : MS} (h : Inv H M) (n : Nat) : Inv { H with age := n } M :=
  { safe := ⟨⟨h.safe.small.words, h.safe.small.oops, h.safe.small.mem, h.safe.small.count, h.safe.small.mark⟩, h.safe.low, h.safe.bl, h.safe.bits, h.safe.seats, h.safe.order⟩
    words := h.words, oops := h.oops, mark := h.mark, len := h.len, seat0 := h.seat0, there := h.there, seat := h.seat
    is := fun k hk hb => (h.is k hk hb).same rfl (by have := (has_yes (h.is k hk hb).has).2.1; show k + 1 < H.seats.length; omega) (h.is k hk hb).room (fun _ _ _ => rfl)
    count := h.count, turn := h.turn, order := h.order, rise := h.rise, gaps := h.gaps, bit := h.bit, low := h.low, model := h.model, deep := h.deep, most := h.most, room := h.room, fin := h.fin, last := h.last }
/-- what the model's things are behind a Keep -/
def keptTh (S : List Th) (ks : List Nat) : List Th := slidN (stayTo S ks S.length) 0 (thereTo (stayTo S ks S.length) S.length)
/-- Keep keeps it -/
theorem Inv.keep {H : HS} {M : MS} (h : Inv H M) (ks : List Nat) (hks : ∀ j ∈ ks, mhas M (j : Int) = true) (ha : H.age ≤ 1000000000) : KeepOk H ks ∧ Inv (keepH H ks) { M with things := keptTh M.things ks } := by
  have hv := h.toInvV
  have hsl : ∀ i, i < M.things.length → (M.things.getD i noTh).there = true → i + 1 < H.seats.length := fun i hi hb => hv.seatIn i hi hb
  obtain ⟨T, h1, h2, h3, h4, h5, h6⟩ := hv.vacs ks H.order.length (Nat.le_refl _)
  have hT : T = stayTo M.things ks M.things.length := by
    refine th_ext (by rw [h2, stayTo_len]) (fun i hi => ?_)
    have e2 := stayTo_at M.things ks M.things.length (Nat.le_refl _) i
    rw [if_pos (by omega)] at e2
    rw [h3 i, e2]
    cases hb : (M.things.getD i noTh).there with
    | true =>
      have := (hv.turn i (by omega) hb).1
      by_cases hm : i + 1 ∈ ks
      · rw [if_neg (fun hc => hc.2.2 hm)]
        simp [stayed, hm]
      · rw [if_pos ⟨rfl, this, hm⟩]
        simp [stayed, gone, hm]
    | false =>
      rw [if_neg (fun hc => by cases hc.1)]
      generalize M.things.getD i noTh = t at hb
      cases t
      simp only at hb
      subst hb
      simp [stayed]
  refine ⟨⟨fun j hj => ?_, fun k hk hne => ?_, h1.slideOk, ?_, ?_, ?_, ?_, ha⟩, ?_⟩
  · obtain ⟨i, i1, i2, i3⟩ := mhas_yes (hks j hj)
    have e : j = i + 1 := by omega
    subst e
    have := hsl i i2 i3
    exact ⟨by omega, by omega, (hv.there i i2).1 i3⟩
  · obtain ⟨T', q1, q2, q3, q4, q5, q6⟩ := hv.vacs ks k (by omega)
    obtain ⟨o1, o2, o3⟩ := q1.order k (by omega) hne
    obtain ⟨i0, hi0⟩ : ∃ i0, (vacTo H ks k).order.getD k 0 = i0 + 1 := ⟨(vacTo H ks k).order.getD k 0 - 1, by omega⟩
    rw [hi0] at o1 o2 ⊢
    rw [Nat.add_sub_cancel] at o2
    have o1' : i0 + 1 ≤ T'.length := o1
    have o4 : (M.things.getD i0 noTh).there = true := by
      have o5 : (T'.getD i0 noTh).there = true := o2
      rw [q3 i0] at o5
      split at o5
      · exact absurd o5 (by simp [gone])
      · exact o5
    exact ⟨hsl i0 (by omega) o4, fun _ => q1.vacOk i0 o1' o2⟩
  · have := hv.safe.small.mem; have := hv.safe.small.words; omega
  · have := hv.safe.order; omega
  · have := hv.safe.seats; omega
  · have := hv.safe.small.count; have := hv.safe.small.oops; omega
  · have hs := h1.slide
    have e : slidN ({ M with things := T } : MS).things 0 (thereTo ({ M with things := T } : MS).things ({ M with things := T } : MS).things.length) = keptTh M.things ks := by
      show slidN T 0 (thereTo T T.length) = _
      rw [h2, hT]
      rfl
    rw [e] at hs
    exact hs.aged _
theorem Inv.setMark {H : HS} {M : MS} (h : Inv H M) (n : Nat) (hn : (n : Int) ≤ 1073741824) : Inv { H with mark := n } { M with mark := n } :=
  { safe := ⟨⟨h.safe.small.words, h.safe.small.oops, h.safe.small.mem, h.safe.small.count, hn⟩, h.safe.low, h.safe.bl, h.safe.bits, h.safe.seats, h.safe.order⟩
    words := h.words, oops := h.oops, mark := rfl, len := h.len, seat0 := h.seat0, there := h.there, seat := h.seat
    is := fun k hk hb => (h.is k hk hb).same rfl (by have := (has_yes (h.is k hk hb).has).2.1; show k + 1 < H.seats.length; omega) (h.is k hk hb).room (fun _ _ _ => rfl)
    count := h.count, turn := h.turn, order := h.order, rise := h.rise, gaps := h.gaps, bit := h.bit, low := h.low, model := ⟨h.model.len, h.model.slots, h.model.place⟩, deep := h.deep, most := h.most, room := h.room, fin := h.fin, last := h.last }
end Go.Proofs.YtkmjimdaimbdfaaDoor



namespace Go.Proofs.YtkmjimdaimbdfaaDoor
open Go.RowKit
set_option linter.unusedVariables false
attribute [local go_sem ↓] Go.wp_at_zero Go.wp_at_succ
set_option maxRecDepth 20000 in
set_option maxHeartbeats 1000000 in
theorem Point_ok (a : Nat) (l : Lay) (H : HS) (w : World) (h : Rep w a l H) :
    Calls Tryd.prog 45 #[.pointer (some ⟨a, 0, none⟩)] w fun e w' => e = .returned (.agg #[.pointer (some ⟨a, 0, none⟩), .int .i64 (H.age : Int), .int .i64 (H.order.length : Int)]) ∧ Fr [] w w' := by
  have hal := h.lt a (by simp [foot])
  have c0 := (World.cell?_alloc_lt w (.cells #[.pointer none, .int .i64 0, .int .i64 0] 84) ⟨a, 0, none⟩ hal).trans h.c0
  have c10 := h.c10
  have c6 := h.c6
  have HM := mkHid (made_any a _ c0)
  clear h c0
  go_enter Tryd.func45, Tryd.ntmps45
  go_wp2_with (go_at_call 43; refine Calls.mono HM.out ?_; rintro e w' ⟨rfl, hw'⟩; rw [hw']; clear hw' w')
  go_region
  all_goals go_wp2_with fail
  refine bodyPost_ret (v := .agg #[.pointer (some ⟨a, 0, none⟩), .int .i64 (H.age : Int), .int .i64 (H.order.length : Int)]) (by simp [results, Tryd.results45, go_sem]) rfl ⟨rfl, (Fr.alloc [] _ _).trans (Fr.drew [] _) (by simp)⟩
/-- those from turn k on go, the first j of them -/
def backTo (H : HS) (T : Nat) : Nat → HS
  | 0 => H
  | j + 1 => vacH (backTo H T j) (H.order.getD (T + j) 0)
theorem backTo_age (H : HS) (T : Nat) : ∀ j, (backTo H T j).age = H.age := by
  intro j
  induction j with
  | zero => rfl
  | succ j ih => exact ih
structure BackOk (H : HS) (T : Nat) : Prop where
  t : T ≤ H.order.length
  vac : ∀ j, T + j < H.order.length → VacOk (backTo H T j) (H.order.getD (T + j) 0) ∧ (backTo H T j).order.getD (T + j) 0 = H.order.getD (T + j) 0 ∧ (backTo H T j).order.length = H.order.length
  r1 : (H.order.length : Int) ≤ 1048576
  a1 : (H.age : Int) ≤ 1000000000
theorem run_neq_ptr_same {tp te : TypeId} {j : TypeInfo} (V : World) (a : Addr) (hp : Tryd.prog.underlying tp = some (.pointer te)) (hte : Tryd.prog.info? te = some j) :
    (binOp .neq tp (.pointer (some a)) (.pointer (some a))).run Tryd.prog V = .ok (.bool false) V := by
  have h : ∀ d : Nat, (Op.equalIn (d + 1) tp (.pointer (some a)) (.pointer (some a))).run Tryd.prog V = .ok true V := fun d => by
    simp [Op.equalIn, run_underlying hp, sizeOf, typeInfo, hte, run_sameAddr_same]
  simp only [binOp]
  simp [Op.equal, Op.maxDepth, h 9999]
set_option maxRecDepth 20000 in
set_option maxHeartbeats 1000000 in
theorem Back_no (ag tn : Int) (a : Nat) (l : Lay) (H : HS) (w : World) (h : Rep w a l H) (hne : (ag != (H.age : Int)) = true) :
    Calls Tryd.prog 54 #[.pointer (some ⟨a, 0, none⟩), .agg #[.pointer (some ⟨a, 0, none⟩), .int .i64 ag, .int .i64 tn]] w fun e w' => e = .returned (.int .i64 25) ∧ Fr [] w w' := by
  have hal := h.lt a (by simp [foot])
  have c0 := (World.cell?_alloc_lt w (.cells #[.pointer (some ⟨a, 0, none⟩), .int .i64 ag, .int .i64 tn] 84) ⟨a, 0, none⟩ hal).trans h.c0
  have c10 := (World.cell?_alloc_lt w (.cells #[.pointer (some ⟨a, 0, none⟩), .int .i64 ag, .int .i64 tn] 84) ⟨a, 10, none⟩ hal).trans h.c10
  have HM := mkHid (made_any a _ c0)
  have HE : Hid (∀ n, Fr [] w ((w.alloc (.cells #[.pointer (some ⟨a, 0, none⟩), .int .i64 ag, .int .i64 tn] 84)).drewN n)) := fun n => (Fr.alloc [] _ _).trans (Fr.drewN [] _ _) (by simp)
  obtain ⟨j, hj⟩ := Option.isSome_iff_exists.1 info95
  have hq := fun V => run_neq_ptr_same V ⟨a, 0, none⟩ Tryd.underlying38 hj
  clear h c0 hj
  go_enter Tryd.func54, Tryd.ntmps54
  go_wp2_with (go_at_call 43; refine Calls.mono HM.out ?_; rintro e w' ⟨rfl, hw'⟩; rw [hw']; clear hw' w')
  go_region
  all_goals go_wp2_with fail
  all_goals
    go_ret
    exact ⟨rfl, HE.out _⟩
set_option maxRecDepth 20000 in
set_option maxHeartbeats 1000000 in
theorem Back_ok (T t e0 : Nat) (a : Nat) (l : Lay) (H : HS) (w : World) (h : Rep w a l H) (hk : BackOk H T) (hd : DrawOk (backTo H T (H.order.length - T)) t e0) :
    Calls Tryd.prog 54 #[.pointer (some ⟨a, 0, none⟩), .agg #[.pointer (some ⟨a, 0, none⟩), .int .i64 (H.age : Int), .int .i64 (T : Int)]] w fun e w' => e = .returned (.int .i64 0) ∧ Rep w' a l { drawH (backTo H T (H.order.length - T)) t e0 with age := H.age + 1 } ∧ Nx a l l w w' := by
  have hal := h.lt a (by simp [foot])
  obtain ⟨o, ho⟩ : ∃ o, o = Obj.cells #[.pointer (some ⟨a, 0, none⟩), .int .i64 (H.age : Int), .int .i64 (T : Int)] 84 := ⟨_, rfl⟩
  have c0 := (World.cell?_alloc_lt w o ⟨a, 0, none⟩ hal).trans h.c0
  have c10 := (World.cell?_alloc_lt w o ⟨a, 10, none⟩ hal).trans h.c10
  have c6 := (World.cell?_alloc_lt w o ⟨a, 6, none⟩ hal).trans h.c6
  have HM := mkHid (made_any a _ c0)
  have hr1 := h.alloc o
  have HR1 := mkHid hr1
  have HX1 : Hid (Nx a l l w (w.alloc o)) := Nx.frw (Fr.alloc _ _ _)
  obtain ⟨j, hj⟩ := Option.isSome_iff_exists.1 info95
  have hq := fun V => run_neq_ptr_same V ⟨a, 0, none⟩ Tryd.underlying38 hj
  have ht := hk.t
  have hrl := hk.r1
  have hage := hk.a1
  have HK := mkHid hk
  have HD := mkHid hd
  have u1 : (0 : Int) ≤ (T : Int) := by omega
  have u2 : (T : Int) ≤ (H.order.length : Int) := by omega
  have hcap : H.order.length ≤ l.co := by
    rcases h.order.2 with ⟨q, q0⟩ | ⟨g, cap, cur, q1, q2, q3, q4, q5, q6, q7⟩
    · injection q with _ _ q3; omega
    · injection q1 with _ _ q1c; omega
  have hpo : (l.po = none → H.order.length = 0 ∧ l.co = 0) ∧ (∀ ad, l.po = some ad → ∃ g, ad = ⟨g, 0, none⟩) := by
    rcases h.order.2 with ⟨q, q0⟩ | ⟨g, cap, cur, q1, q2, q3, q4, q5, q6, q7⟩
    · injection q with q1 _ q3; exact ⟨fun _ => ⟨by omega, by omega⟩, fun ad hd => (by rw [q1] at hd; cases hd)⟩
    · injection q1 with q1 _ q1c; exact ⟨fun hd => (by rw [q1] at hd; cases hd), fun ad hd => (by rw [q1] at hd; injection hd with hd; exact ⟨g, hd.symm⟩)⟩
  clear h c0 hj hk hd hr1
  have b0 : (w.alloc o).cell? ⟨w.heap.size, 0, none⟩ = some (.pointer (some ⟨a, 0, none⟩)) := by rw [ho, cell_in (heap_alloc_new w _)]; rfl
  have b1 : (w.alloc o).cell? ⟨w.heap.size, 1, none⟩ = some (.int .i64 (H.age : Int)) := by rw [ho, cell_in (heap_alloc_new w _)]; rfl
  have b2 : (w.alloc o).cell? ⟨w.heap.size, 2, none⟩ = some (.int .i64 (T : Int)) := by rw [ho, cell_in (heap_alloc_new w _)]; rfl
  have u3 : (T : Int) ≤ (l.co : Int) := by omega
  have HPO := mkHid hpo
  clear hpo
  obtain ⟨W1, hW1⟩ : ∃ W1, W1 = w.alloc o := ⟨_, rfl⟩
  rw [← hW1] at HM HR1 HX1 c10 c6 b0 b1 b2
  rw [ho] at hW1
  clear ho
  rcases hpoE : l.po with _ | ad
  · have hpo0 := hpoE
    clear hpo0
    go_enter Tryd.func54, Tryd.ntmps54
    go_wp2_with fail
    rw [← hW1]
    clear hW1
    refine Calls.mono HM.out ?_
    rintro e w' ⟨rfl, hw'⟩
    rw [hw']
    clear hw' w' HM
    go_wp2_with fail
    go_cut [22] (fun q V => q = .bool false ∧ Hid (Eqw W1 V))
    case first =>
      go_region
      all_goals go_wp2_with fail
      all_goals
        go_meet
        case rel => exact ⟨rfl, eqw_drew _⟩
    case rest =>
    obtain ⟨rfl, hc2⟩ := hcut
    have hR2 := HR1.out.eqw hc2.out
    have HF : Hid (∀ n, Rep (wc.drewN n) a l H ∧ Nx a l l w (wc.drewN n)) := fun n => ⟨hR2.drewN n, (HX1.out.eqw hc2.out).eqw ⟨rfl, rfl, rfl, rfl⟩⟩
    have c6' := hR2.c6
    rw [hpoE] at c6'
    have b2' : wc.cell? ⟨w.heap.size, 2, none⟩ = some (.int .i64 (T : Int)) := (World.cell?_of_block (w := W1) (by rw [hc2.out.2.2.2])).trans b2
    have HPE := mkHid hpoE
    clear b0 b1 b2 c6 c10 HR1 HX1 hR2 hpoE
    go_wp2_with fail
    go_quiet (fail)
    all_goals go_wp2_with fail
    all_goals
      have HF1 := mkHid (HF.out nq)
      clear HF c6' b2'
      generalize wc.drewN nq = W2 at *
      go_loopw [31] (fun q wr => ∃ j : Nat, j ≤ H.order.length - T ∧ q = .int .i64 j ∧ Hid (Rep wr a l (backTo H T j) ∧ Nx a l l w wr)) (fun q _ => (H.order.length - T) - (intOf q).toNat)
      case atStart => exact ⟨0, Nat.zero_le _, rfl, HF1.out⟩
      case round =>
        obtain ⟨j, hjn, rfl, hq2⟩ := hrel
        obtain ⟨hr, hx⟩ := hq2.out
        clear hq2
        by_cases hlt : j < H.order.length - T
        · exfalso; have := (HPO.out.1 HPE.out).1; omega
        · have hje : j = H.order.length - T := by omega
          subst hje
          have HDr := mkHid (drawEnd_ok t e0 a l _ wr hr HD.out)
          have HX := mkHid hx
          have hagl : (backTo H T (H.order.length - T)).age = H.age := backTo_age H T _
          clear hr hx
          go_wp2_with fail
          refine Calls.mono HDr.out ?_
          rintro e w3 ⟨rfl, hr3, hx3⟩
          have c10 := hr3.c10
          have f10 := hr3.frozen 10
          have e1 : (drawH (backTo H T (H.order.length - T)) t e0).age = H.age := hagl
          rw [e1] at c10
          have HE : Hid (Rep (w3.setCell ⟨a, 10, none⟩ (.int .i64 ((H.age : Int) + 1))) a l { drawH (backTo H T (H.order.length - T)) t e0 with age := H.age + 1 } ∧ Nx a l l w (w3.setCell ⟨a, 10, none⟩ (.int .i64 ((H.age : Int) + 1)))) :=
            ⟨hr3.set (H' := { drawH (backTo H T (H.order.length - T)) t e0 with age := H.age + 1 }) 10 _ rfl rfl rfl rfl rfl, (HX.out.trans hx3).trans (Nx.fr (Fr.setCell (S := [a]) _ _ _ (by simp)))⟩
          clear hr3 hx3 e1 hagl
          go_wp2_with fail
          go_ret
          exact ⟨rfl, HE.out⟩
  · obtain ⟨g0, hg0⟩ := HPO.out.2 ad hpoE
    subst hg0
    go_enter Tryd.func54, Tryd.ntmps54
    go_wp2_with fail
    rw [← hW1]
    clear hW1
    refine Calls.mono HM.out ?_
    rintro e w' ⟨rfl, hw'⟩
    rw [hw']
    clear hw' w' HM
    go_wp2_with fail
    go_cut [22] (fun q V => q = .bool false ∧ Hid (Eqw W1 V))
    case first =>
      go_region
      all_goals go_wp2_with fail
      all_goals
        go_meet
        case rel => exact ⟨rfl, eqw_drew _⟩
    case rest =>
    obtain ⟨rfl, hc2⟩ := hcut
    have hR2 := HR1.out.eqw hc2.out
    have HF : Hid (∀ n, Rep (wc.drewN n) a l H ∧ Nx a l l w (wc.drewN n)) := fun n => ⟨hR2.drewN n, (HX1.out.eqw hc2.out).eqw ⟨rfl, rfl, rfl, rfl⟩⟩
    have c6' := hR2.c6
    rw [hpoE] at c6'
    have b2' : wc.cell? ⟨w.heap.size, 2, none⟩ = some (.int .i64 (T : Int)) := (World.cell?_of_block (w := W1) (by rw [hc2.out.2.2.2])).trans b2
    have HPE := mkHid hpoE
    clear b0 b1 b2 c6 c10 HR1 HX1 hR2 hpoE
    go_wp2_with fail
    go_quiet (fail)
    all_goals go_wp2_with fail
    all_goals
      have HF1 := mkHid (HF.out nq)
      clear HF c6' b2'
      generalize wc.drewN nq = W2 at *
      go_loopw [31] (fun q wr => ∃ j : Nat, j ≤ H.order.length - T ∧ q = .int .i64 j ∧ Hid (Rep wr a l (backTo H T j) ∧ Nx a l l w wr)) (fun q _ => (H.order.length - T) - (intOf q).toNat)
      case atStart => exact ⟨0, Nat.zero_le _, rfl, HF1.out⟩
      case round =>
        obtain ⟨j, hjn, rfl, hq2⟩ := hrel
        obtain ⟨hr, hx⟩ := hq2.out
        clear hq2
        by_cases hlt : j < H.order.length - T
        · first
          | (exfalso; omega)
          | (obtain ⟨v1, v2, v3⟩ := HK.out.vac j (by omega)
             obtain ⟨go, hgo, hco, hfo, hgoa, hgol⟩ := hr.orderAt (T + j) (by omega)
             have o1 := hco (T + j) (by omega)
             rw [v2] at o1
             have HV := mkHid (vacate_ok (H.order.getD (T + j) 0) a l _ wr hr v1)
             have k1 : (0 : Int) ≤ (j : Int) := by omega
             have k2 : (j : Int) < ((H.order.length - T : Nat) : Int) := by omega
             have HN : Hid (backTo H T (j + 1) = vacH (backTo H T j) (H.order.getD (T + j) 0)) := rfl
             have HX := mkHid hx
             have hgg : go = g0 := by rw [HPE.out] at hgo; injection hgo with hgo; injection hgo with hgo _ _; exact hgo.symm
             subst hgg
             generalize H.order.getD (T + j) 0 = oo at *
             clear hr hx hco hfo v1 v2 v3 hgo HPO
             go_wp2_with fail
             refine Calls.mono HV.out ?_
             rintro e w3 ⟨rfl, hr3, hx3⟩
             have HF3 := mkHid (And.intro hr3 (HX.out.trans hx3))
             clear hr3 hx3
             go_wp2_with fail
             go_roundw
             case rel => exact ⟨j + 1, by omega, by go_num, by rw [HN.out]; exact HF3.out⟩
             case measure => simp [intOf]; omega)
        · have hje : j = H.order.length - T := by omega
          subst hje
          have HDr := mkHid (drawEnd_ok t e0 a l _ wr hr HD.out)
          have HX := mkHid hx
          have hagl : (backTo H T (H.order.length - T)).age = H.age := backTo_age H T _
          clear hr hx
          go_wp2_with fail
          refine Calls.mono HDr.out ?_
          rintro e w3 ⟨rfl, hr3, hx3⟩
          have c10 := hr3.c10
          have f10 := hr3.frozen 10
          have e1 : (drawH (backTo H T (H.order.length - T)) t e0).age = H.age := hagl
          rw [e1] at c10
          have HE : Hid (Rep (w3.setCell ⟨a, 10, none⟩ (.int .i64 ((H.age : Int) + 1))) a l { drawH (backTo H T (H.order.length - T)) t e0 with age := H.age + 1 } ∧ Nx a l l w (w3.setCell ⟨a, 10, none⟩ (.int .i64 ((H.age : Int) + 1)))) :=
            ⟨hr3.set (H' := { drawH (backTo H T (H.order.length - T)) t e0 with age := H.age + 1 }) 10 _ rfl rfl rfl rfl rfl, (HX.out.trans hx3).trans (Nx.fr (Fr.setCell (S := [a]) _ _ _ (by simp)))⟩
          clear hr3 hx3 e1 hagl
          go_wp2_with fail
          go_ret
          exact ⟨rfl, HE.out⟩
end Go.Proofs.YtkmjimdaimbdfaaDoor


namespace Go.Proofs.YtkmjimdaimbdfaaDoor
open Go.RowKit
set_option linter.unusedVariables false
/-- what lies between a point and a Back: allocations alone -/
structure Behind (H0 : HS) (M0 : MS) (H : HS) (M : MS) : Prop where
  inv : Inv H M
  age : H.age = H0.age
  words : H.words = H0.words
  oops : H.oops = H0.oops
  mark : H.mark = 0
  len : H0.order.length ≤ H.order.length
  old : ∀ j, j < H0.order.length → H.order.getD j 0 = H0.order.getD j 0
  young : ∀ j, H0.order.length ≤ j → j < H.order.length → H.order.getD j 0 ≠ 0
  tl : M0.things.length ≤ M.things.length
  same : ∀ k, (M0.things.getD k noTh).there = true → M.things.getD k noTh = M0.things.getD k noTh
theorem behind_refl {H : HS} {M : MS} (h : Inv H M) (hm : H.mark = 0) : Behind H M H M :=
  ⟨h, rfl, rfl, rfl, hm, Nat.le_refl _, fun _ _ => rfl, fun j h1 h2 => by omega, Nat.le_refl _, fun _ _ => rfl⟩
/-- which of the things are old: those whose turn lies ahead of the point -/
theorem Behind.turnOld {H0 H : HS} {M0 M : MS} (h0 : Inv H0 M0) (h : Behind H0 M0 H M) (k : Nat) (hb : (M.things.getD k noTh).there = true) : (M0.things.getD k noTh).there = true ↔ (H.seats.getD (k + 1) (0, 0, 0)).2.2 < H0.order.length := by
  obtain ⟨u1, u2⟩ := h.inv.turn k (th_in hb) hb
  constructor
  · intro hb0
    obtain ⟨v1, v2⟩ := h0.turn k (th_in hb0) hb0
    have e := h.old _ v1
    rw [v2] at e
    have := (h.inv.order (H0.seats.getD (k + 1) (0, 0, 0)).2.2 (by have := h.len; omega) (by omega)).2.2
    rw [e] at this
    omega
  · intro hlt
    have e := h.old _ hlt
    rw [u2] at e
    have := (h0.order _ hlt (by omega)).2.1
    rw [← e, Nat.add_sub_cancel] at this
    exact this
/-- the young ones go, one by one -/
theorem Behind.backs {H0 H : HS} {M0 M : MS} (h0 : Inv H0 M0) (h : Behind H0 M0 H M) : ∀ j, H0.order.length + j ≤ H.order.length → ∃ X : List Th, InvV (backTo H H0.order.length j) { M with things := X } ∧ X.length = M.things.length ∧
    (∀ k, X.getD k noTh = if (M.things.getD k noTh).there = true ∧ H0.order.length ≤ (H.seats.getD (k + 1) (0, 0, 0)).2.2 ∧ (H.seats.getD (k + 1) (0, 0, 0)).2.2 < H0.order.length + j then gone (M.things.getD k noTh) else M.things.getD k noTh) ∧
    (backTo H H0.order.length j).order.length = H.order.length ∧ (∀ r, r < H0.order.length ∨ H0.order.length + j ≤ r → (backTo H H0.order.length j).order.getD r 0 = H.order.getD r 0) ∧
    (∀ r, H0.order.length ≤ r → r < H0.order.length + j → (backTo H H0.order.length j).order.getD r 0 = 0) ∧
    (backTo H H0.order.length j).words = H.words ∧ (backTo H H0.order.length j).oops = H.oops ∧ (backTo H H0.order.length j).mark = H.mark := by
  intro j
  induction j with
  | zero => intro _; exact ⟨M.things, h.inv.toInvV, rfl, fun k => by rw [if_neg (by omega)], rfl, fun _ _ => rfl, fun r h1 h2 => by omega, rfl, rfl, rfl⟩
  | succ j ih =>
    intro hj
    obtain ⟨X, h1, h2, h3, h4, h5, h6, h7, h8, h9⟩ := ih (by omega)
    have hne := h.young (H0.order.length + j) (by omega) (by omega)
    have ho := h5 (H0.order.length + j) (.inr (Nat.le_refl _))
    obtain ⟨u1, u2, u3⟩ := h.inv.order (H0.order.length + j) (by omega) hne
    obtain ⟨o1, o2, o3⟩ := h1.order (H0.order.length + j) (by omega) (by rw [ho]; exact hne)
    rw [ho] at o1 o2 o3
    obtain ⟨i0, hi0⟩ : ∃ i0, H.order.getD (H0.order.length + j) 0 = i0 + 1 := ⟨H.order.getD (H0.order.length + j) 0 - 1, by omega⟩
    rw [hi0] at u1 u2 u3 o1 o2 o3
    rw [Nat.add_sub_cancel] at u2 o2
    have hlt : i0 < X.length := o1
    have hvac := h1.vac i0 hlt o2
    have hg := fun i => getD_set X i0 i (gone (X.getD i0 noTh)) hlt
    have e : backTo H H0.order.length (j + 1) = vacH (backTo H H0.order.length j) (i0 + 1) := by
      show vacH (backTo H H0.order.length j) (H.order.getD (H0.order.length + j) 0) = _
      rw [hi0]
    rw [e]
    have hord : ∀ r, (vacH (backTo H H0.order.length j) (i0 + 1)).order.getD r 0 = if r = H0.order.length + j then 0 else (backTo H H0.order.length j).order.getD r 0 := fun r => by
      show ((backTo H H0.order.length j).order.set ((backTo H H0.order.length j).seats.getD (i0 + 1) (0, 0, 0)).2.2 0).getD r 0 = _
      rw [o3, getD_nat _ _ _ _ (by omega)]
    refine ⟨X.set i0 (gone (X.getD i0 noTh)), hvac, by rw [List.length_set]; exact h2, fun k => ?_, ?_, fun r hr => ?_, fun r r1 r2 => ?_, h7, h8, h9⟩
    · have hXi : X.getD i0 noTh = M.things.getD i0 noTh := by rw [h3 i0, if_neg (fun hh => by omega)]
      have hat : ∀ k, (M.things.getD k noTh).there = true → (H.seats.getD (k + 1) (0, 0, 0)).2.2 = H0.order.length + j → k = i0 := fun k hb e => by
        have := (h.inv.turn k (th_in hb) hb).2
        rw [e, hi0] at this
        omega
      rw [hg]
      by_cases e2 : k = i0
      · rw [if_pos e2, hXi, e2, if_pos ⟨u2, by omega, by omega⟩]
      · rw [if_neg e2, h3 k]
        have hiff : ((M.things.getD k noTh).there = true ∧ H0.order.length ≤ (H.seats.getD (k + 1) (0, 0, 0)).2.2 ∧ (H.seats.getD (k + 1) (0, 0, 0)).2.2 < H0.order.length + j) ↔ ((M.things.getD k noTh).there = true ∧ H0.order.length ≤ (H.seats.getD (k + 1) (0, 0, 0)).2.2 ∧ (H.seats.getD (k + 1) (0, 0, 0)).2.2 < H0.order.length + (j + 1)) := by
          refine ⟨fun q => ⟨q.1, q.2.1, by omega⟩, fun q => ⟨q.1, q.2.1, ?_⟩⟩
          by_cases e3 : (H.seats.getD (k + 1) (0, 0, 0)).2.2 = H0.order.length + j
          · exact absurd (hat k q.1 e3) e2
          · have := q.2.2; omega
        simp only [hiff]
    · show ((backTo H H0.order.length j).order.set _ 0).length = _; rw [List.length_set]; exact h4
    · rw [hord, if_neg (by omega)]; exact h5 r (by omega)
    · rw [hord]
      by_cases e3 : r = H0.order.length + j
      · rw [if_pos e3]
      · rw [if_neg e3]; exact h6 r r1 (by omega)
theorem Behind.backOk {H0 H : HS} {M0 M : MS} (h0 : Inv H0 M0) (h : Behind H0 M0 H M) (hage : (H.age : Int) ≤ 1000000000) : BackOk H H0.order.length where
  t := h.len
  vac := fun j hj => by
    obtain ⟨X, h1, h2, h3, h4, h5, h6, h7, h8, h9⟩ := h.backs h0 j (by omega)
    have hne := h.young (H0.order.length + j) (by omega) hj
    have ho := h5 (H0.order.length + j) (.inr (Nat.le_refl _))
    obtain ⟨o1, o2, o3⟩ := h1.order (H0.order.length + j) (by omega) (by rw [ho]; exact hne)
    rw [ho] at o1 o2 o3
    obtain ⟨i0, hi0⟩ : ∃ i0, H.order.getD (H0.order.length + j) 0 = i0 + 1 := ⟨H.order.getD (H0.order.length + j) 0 - 1, by omega⟩
    rw [hi0] at o1 o2 ho ⊢
    rw [Nat.add_sub_cancel] at o2
    exact ⟨h1.vacOk i0 o1 o2, ho, h4⟩
  r1 := by have := h.inv.safe.order; omega
  a1 := hage
/-- two models of which one has things more that are not there -/
structure Agree (M M0 : MS) : Prop where
  words : M.words = M0.words
  oops : M.oops = M0.oops
  mark : M.mark = M0.mark
  len : M0.things.length ≤ M.things.length
  there : ∀ k, (M.things.getD k noTh).there = (M0.things.getD k noTh).there
  same : ∀ k, (M0.things.getD k noTh).there = true → M.things.getD k noTh = M0.things.getD k noTh
theorem thereTo_out (S : List Th) (k : Nat) (hk : S.length ≤ k) : thereTo S k = thereTo S S.length := by
  unfold thereTo
  rw [List.take_of_length_le hk, List.take_length]
theorem Agree.thereTo {M M0 : MS} (h : Agree M M0) : ∀ k, k ≤ M.things.length → thereTo M.things k = Go.Proofs.YtkmjimdaimbdfaaDoor.thereTo M0.things k := by
  intro k
  induction k with
  | zero => intro _; rfl
  | succ k ih =>
    intro hk
    have hl := h.len
    by_cases e : k < M0.things.length
    · rw [thereTo_succ _ _ (by omega), thereTo_succ _ _ e, ih (by omega), h.there k]
    · have hf : (M.things.getD k noTh).there = false := by
        rw [h.there k, List.getD_eq_getElem?_getD, List.getElem?_eq_none (by omega)]
        rfl
      rw [thereTo_succ _ _ (by omega), ih (by omega), hf, thereTo_out M0.things k (by omega), thereTo_out M0.things (k + 1) (by omega)]
      simp
theorem Agree.thereAll {M M0 : MS} (h : Agree M M0) : Go.Proofs.YtkmjimdaimbdfaaDoor.thereTo M.things M.things.length = Go.Proofs.YtkmjimdaimbdfaaDoor.thereTo M0.things M0.things.length := by
  rw [h.thereTo _ (Nat.le_refl _), thereTo_out M0.things _ h.len]
theorem Agree.endAll {M M0 : MS} (h : Agree M M0) : endTo M.things M.things.length = endTo M0.things M0.things.length := by
  have hmax : ∀ (S : List Th) (k : Nat), k ≤ S.length → (∀ j, j < k → (S.getD j noTh).there = true → (S.getD j noTh).place + lenN (S.getD j noTh).slots.length (S.getD j noTh).fmt ≤ endTo S k) ∧ (endTo S k = 0 ∨ ∃ j, j < k ∧ (S.getD j noTh).there = true ∧ (S.getD j noTh).place + lenN (S.getD j noTh).slots.length (S.getD j noTh).fmt = endTo S k) := by
    intro S k
    induction k with
    | zero => intro _; exact ⟨fun j hj => by omega, .inl rfl⟩
    | succ k ih =>
      intro hk
      obtain ⟨a1, a2⟩ := ih (by omega)
      rw [endTo_succ]
      split
      · rename_i hc
        refine ⟨fun j hj hb => ?_, .inr ⟨k, by omega, hc.1, rfl⟩⟩
        by_cases e : j = k
        · rw [e]; exact Nat.le_refl _
        · have := a1 j (by omega) hb; omega
      · rename_i hc
        refine ⟨fun j hj hb => ?_, ?_⟩
        · by_cases e : j = k
          · rw [e] at hb ⊢
            by_cases hx : endTo S k < (S.getD k noTh).place + lenN (S.getD k noTh).slots.length (S.getD k noTh).fmt
            · exact absurd ⟨hb, hx⟩ hc
            · omega
          · exact a1 j (by omega) hb
        · rcases a2 with a2 | ⟨j, j1, j2, j3⟩
          · exact .inl a2
          · exact .inr ⟨j, by omega, j2, j3⟩
  obtain ⟨a1, a2⟩ := hmax M0.things M0.things.length (Nat.le_refl _)
  refine endTo_is M.things _ _ (fun j hj hb => ?_) ?_
  · have hb0 : (M0.things.getD j noTh).there = true := by rw [← h.there j]; exact hb
    rw [h.same j hb0]
    exact a1 j (th_in hb0) hb0
  · rcases a2 with a2 | ⟨j, j1, j2, j3⟩
    · exact .inl a2
    · exact .inr ⟨j, by have := h.len; omega, by rw [h.there j]; exact j2, by rw [h.same j j2]; exact j3⟩
theorem Agree.low {M M0 : MS} (h : Agree M M0) : lowTo M.things = lowTo M0.things := by
  obtain ⟨f1, f2⟩ := lowTo_free M0.things
  obtain ⟨g1, g2⟩ := lowTo_free M.things
  have p0 : 1 ≤ lowTo M0.things := by unfold lowTo; omega
  have p1 : 1 ≤ lowTo M.things := by unfold lowTo; omega
  rcases Nat.lt_trichotomy (lowTo M.things) (lowTo M0.things) with e | e | e
  · have := f2 (lowTo M.things - 1) (by omega)
    rw [← h.there, g1] at this
    cases this
  · exact e
  · have := g2 (lowTo M0.things - 1) (by omega)
    rw [h.there, f1] at this
    cases this
/-- what the heap says of the one it says of the other -/
theorem Agree.told {H : HS} {M M0 : MS} (h : Agree M M0) (ht : Told H M) : Told H M0 where
  small := ht.small
  words := ht.words.trans h.words
  oops := ht.oops.trans h.oops
  mark := ht.mark.trans h.mark
  fin := by rw [ht.fin, h.endAll]
  cnt := by rw [ht.cnt, h.thereAll]
  is := fun k hk hb => by rw [← h.same k hb]; exact ht.is k (by have := h.len; omega) (by rw [h.there]; exact hb)
  none := fun k hk hb => ht.none k (by have := h.len; omega) (by rw [h.there]; exact hb)
  all := fun k hk hb => by rw [← h.thereTo k (by have := h.len; omega)]; exact ht.all k (by have := h.len; omega) (by rw [h.there]; exact hb)
  allLen := by rw [ht.allLen, h.thereAll]
  seats := ht.seats
/-- behind a Back all is as it was at the point -/
theorem Behind.back {H0 H : HS} {M0 M : MS} (h0 : Inv H0 M0) (hm0 : H0.mark = 0) (h : Behind H0 M0 H M) : ∃ t e0 M2, DrawOk (backTo H H0.order.length (H.order.length - H0.order.length)) t e0 ∧ Inv { drawH (backTo H H0.order.length (H.order.length - H0.order.length)) t e0 with age := H.age + 1 } M2 ∧ Agree M2 M0 ∧
    stKeys (drawH (backTo H H0.order.length (H.order.length - H0.order.length)) t e0) M2.things (drawH (backTo H H0.order.length (H.order.length - H0.order.length)) t e0).order.length = stKeys H0 M0.things H0.order.length ∧
    (drawH (backTo H H0.order.length (H.order.length - H0.order.length)) t e0).words = H0.words ∧ (drawH (backTo H H0.order.length (H.order.length - H0.order.length)) t e0).oops = H0.oops ∧ (drawH (backTo H H0.order.length (H.order.length - H0.order.length)) t e0).mark = 0 := by
  have hlen := h.len
  obtain ⟨X, h1, h2, h3, h4, h5, h6, h7, h8, h9⟩ := h.backs h0 (H.order.length - H0.order.length) (by omega)
  obtain ⟨t, e0, hd, hinv⟩ := h1.draw
  have hXt : ∀ k, (X.getD k noTh).there = (M0.things.getD k noTh).there ∧ ((M0.things.getD k noTh).there = true → X.getD k noTh = M0.things.getD k noTh) := fun k => by
    rw [h3 k]
    cases hb : (M.things.getD k noTh).there with
    | false =>
      rw [if_neg (fun hc => by cases hc.1), hb]
      cases hb0 : (M0.things.getD k noTh).there with
      | false => exact ⟨rfl, fun hc => by cases hc⟩
      | true =>
        have := h.same k hb0
        rw [this, hb0] at hb
        cases hb
    | true =>
      have hiff := h.turnOld h0 k hb
      have hu := (h.inv.turn k (th_in hb) hb).1
      cases hb0 : (M0.things.getD k noTh).there with
      | true =>
        have := hiff.1 hb0
        rw [if_neg (fun hc => by omega), h.same k hb0]
        exact ⟨hb0, fun _ => rfl⟩
      | false =>
        have : ¬ (H.seats.getD (k + 1) (0, 0, 0)).2.2 < H0.order.length := fun hc => by
          have := hiff.2 hc
          rw [hb0] at this
          cases this
        rw [if_pos ⟨rfl, by omega, by omega⟩]
        exact ⟨rfl, fun hc => by cases hc⟩
  have hag : Agree { M with things := X } M0 := by
    refine ⟨?_, ?_, ?_, ?_, fun k => (hXt k).1, fun k hb => (hXt k).2 hb⟩
    · show M.words = M0.words; rw [← h.inv.words, h.words, h0.words]
    · show M.oops = M0.oops; rw [← h.inv.oops, h.oops, h0.oops]
    · show M.mark = M0.mark; rw [← h.inv.mark, h.mark, ← h0.mark, hm0]
    · show M0.things.length ≤ X.length; rw [h2]; exact h.tl
  have htT : t = H0.order.length := by
    have ht1 := hd.t1
    rcases Nat.lt_trichotomy t H0.order.length with e | e | e
    · exfalso
      have hz := hd.t2 (H0.order.length - 1) (by omega) (by omega)
      rw [h5 _ (.inl (by omega)), h.old _ (by omega)] at hz
      exact h0.last (H0.order.length - 1) (by omega) hz
    · exact e
    · exfalso
      have := (hd.t3 (by omega)).1
      exact this (h6 (t - 1) (by omega) (by omega))
  have hord : (drawH (backTo H H0.order.length (H.order.length - H0.order.length)) t e0).order = H0.order := by
    show (backTo H H0.order.length (H.order.length - H0.order.length)).order.take t = H0.order
    rw [htT]
    apply List.ext_getElem?
    intro r
    rw [List.getElem?_take]
    by_cases hr : r < H0.order.length
    · rw [if_pos hr]
      have e1 := h5 r (.inl hr)
      rw [h.old r hr] at e1
      rw [List.getD_eq_getElem?_getD, List.getD_eq_getElem?_getD, List.getElem?_eq_getElem (by omega), List.getElem?_eq_getElem hr] at e1
      rw [List.getElem?_eq_getElem (by omega), List.getElem?_eq_getElem hr]
      exact congrArg some e1
    · rw [if_neg hr, List.getElem?_eq_none (by omega)]
  refine ⟨t, e0, { M with things := X }, hd, hinv.aged _, hag, ?_, ?_, ?_, ?_⟩
  · unfold stKeys
    rw [hord, List.take_length]
    apply List.map_congr_left
    intro o ho
    obtain ⟨ho1, ho2⟩ := List.mem_filter.1 ho
    obtain ⟨r, hr, hro⟩ := List.getElem_of_mem ho1
    have hne : o ≠ 0 := by simpa using ho2
    have hg : H0.order.getD r 0 = o := by rw [List.getD_eq_getElem?_getD, List.getElem?_eq_getElem hr, hro]; rfl
    have hb := (h0.order r hr (by rw [hg]; exact hne)).2.1
    rw [hg] at hb
    show (o, (X.getD (o - 1) noTh).cls, (X.getD (o - 1) noTh).fmt, (X.getD (o - 1) noTh).slots) = _
    rw [(hXt (o - 1)).2 hb]
  · show (backTo H H0.order.length (H.order.length - H0.order.length)).words = _; rw [h7]; exact h.words
  · show (backTo H H0.order.length (H.order.length - H0.order.length)).oops = _; rw [h8]; exact h.oops
  · show (backTo H H0.order.length (H.order.length - H0.order.length)).mark = _; rw [h9]; exact h.mark
end Go.Proofs.YtkmjimdaimbdfaaDoor



