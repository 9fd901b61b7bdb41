import Derived.Test.YtklfnjlenbgmoaaDoorAG24HInvU
import Derived.Test.YtklfnjlenbgmoaaDoorAG10HGet
namespace Go.Proofs.YtklfnjlenbgmoaaDoor
open Go.RowKit
set_option linter.unusedVariables false
def stayed (t : Th) (b : Bool) : Th := { t with there := t.there && b }
/-- the first k of the things that are not of the list are away -/
def stayTo (S : List Th) (ks : List Nat) : Nat → List Th
  | 0 => S
  | k + 1 => (stayTo S ks k).set k (stayed (S.getD k noTh) (decide (k + 1 ∈ ks)))
theorem stayTo_len (S : List Th) (ks : List Nat) : ∀ k, (stayTo S ks k).length = S.length := by
  intro k
  induction k with
  | zero => rfl
  | succ k ih => show ((stayTo S ks k).set k _).length = _; rw [List.length_set, ih]
theorem stayTo_at (S : List Th) (ks : List Nat) : ∀ k, k ≤ S.length → ∀ i, (stayTo S ks k).getD i noTh = if i < k then stayed (S.getD i noTh) (decide (i + 1 ∈ ks)) else S.getD i noTh := by
  intro k
  induction k with
  | zero => intro _ i; rw [if_neg (by omega)]; rfl
  | succ k ih =>
    intro hk i
    show ((stayTo S ks k).set k _).getD i noTh = _
    rw [getD_set _ _ _ _ (by rw [stayTo_len]; omega)]
    by_cases e : i = k
    · rw [if_pos e, if_pos (by omega), e]
    · rw [if_neg e, ih (by omega) i]
      by_cases e2 : i < k
      · rw [if_pos e2, if_pos (by omega)]
      · rw [if_neg e2, if_neg (by omega)]
theorem th_ext {S T : List Th} (hl : S.length = T.length) (h : ∀ i, i < S.length → S.getD i noTh = T.getD i noTh) : S = T := by
  apply List.ext_getElem hl
  intro i h1 h2
  have := h i h1
  rw [List.getD_eq_getElem?_getD, List.getD_eq_getElem?_getD, List.getElem?_eq_getElem h1, List.getElem?_eq_getElem h2] at this
  simpa using this
theorem InvV.vacs {H : HS} {M : MS} (hv : InvV H M) (ks : List Nat) : ∀ k, k ≤ H.order.length → ∃ T : List Th, InvV (vacTo H ks k) { M with things := T } ∧ T.length = M.things.length ∧
    (∀ i, T.getD i noTh = if (M.things.getD i noTh).there = true ∧ (H.seats.getD (i + 1) (0, 0, 0)).2.2 < k ∧ i + 1 ∉ ks then gone (M.things.getD i noTh) else M.things.getD i noTh) ∧
    (vacTo H ks k).order.length = H.order.length ∧ (∀ r, k ≤ r → (vacTo H ks k).order.getD r 0 = H.order.getD r 0) ∧ (vacTo H ks k).seats.length = H.seats.length := by
  intro k
  induction k with
  | zero => intro _; exact ⟨M.things, hv, rfl, fun i => by rw [if_neg (by omega)], rfl, fun _ _ => rfl, rfl⟩
  | succ k ih =>
    intro hk
    obtain ⟨T, h1, h2, h3, h4, h5, h6⟩ := ih (by omega)
    have ho := h5 k (Nat.le_refl _)
    have hat : ∀ i, (M.things.getD i noTh).there = true → (H.seats.getD (i + 1) (0, 0, 0)).2.2 = k → H.order.getD k 0 = i + 1 := fun i hb e => by
      have := (hv.turn i (th_in hb) hb).2
      rw [e] at this
      exact this
    by_cases hc : (vacTo H ks k).order.getD k 0 ≠ 0 ∧ (vacTo H ks k).order.getD k 0 ∉ ks
    · have e : vacTo H ks (k + 1) = vacH (vacTo H ks k) ((vacTo H ks k).order.getD k 0) := by
        show (if _ then _ else _) = _
        rw [if_pos hc]
      rw [e]
      obtain ⟨c1, c2⟩ := hc
      obtain ⟨o1, o2, o3⟩ := h1.order k (by omega) c1
      obtain ⟨u1, u2, u3⟩ := hv.order k (by omega) (by rw [← ho]; exact c1)
      obtain ⟨i0, hi0⟩ : ∃ i0, (vacTo H ks k).order.getD k 0 = i0 + 1 := ⟨(vacTo H ks k).order.getD k 0 - 1, by omega⟩
      rw [ho] at hi0
      rw [ho, hi0] at o1 o2 o3 c2
      rw [hi0] at u1 u2 u3
      rw [Nat.add_sub_cancel] at o2 u2
      rw [ho, hi0]
      have hlt : i0 < T.length := o1
      have hg := fun i => getD_set T i0 i (gone (T.getD i0 noTh)) hlt
      have hvac := h1.vac i0 hlt o2
      refine ⟨T.set i0 (gone (T.getD i0 noTh)), hvac, by rw [List.length_set]; exact h2, fun i => ?_, ?_, fun r hr => ?_, ?_⟩
      · have hTi : T.getD i0 noTh = M.things.getD i0 noTh := by
          rw [h3 i0, if_neg (fun hh => by omega)]
        rw [hg]
        by_cases e2 : i = i0
        · rw [if_pos e2, hTi, e2, if_pos ⟨u2, by omega, c2⟩]
        · rw [if_neg e2, h3 i]
          have hiff : ((M.things.getD i noTh).there = true ∧ (H.seats.getD (i + 1) (0, 0, 0)).2.2 < k ∧ i + 1 ∉ ks) ↔ ((M.things.getD i noTh).there = true ∧ (H.seats.getD (i + 1) (0, 0, 0)).2.2 < k + 1 ∧ i + 1 ∉ ks) := by
            refine ⟨fun q => ⟨q.1, by omega, q.2.2⟩, fun q => ⟨q.1, ?_, q.2.2⟩⟩
            have q2 := q.2.1
            by_cases e3 : (H.seats.getD (i + 1) (0, 0, 0)).2.2 = k
            · have := hat i q.1 e3; omega
            · omega
          simp only [hiff]
      · show ((vacTo H ks k).order.set _ 0).length = _; rw [List.length_set]; exact h4
      · show ((vacTo H ks k).order.set ((vacTo H ks k).seats.getD (i0 + 1) (0, 0, 0)).2.2 0).getD r 0 = _
        rw [o3, getD_nat _ _ _ _ (by omega), if_neg (by omega)]
        exact h5 r (by omega)
      · show ((vacTo H ks k).seats.set _ _).length = _; rw [List.length_set]; exact h6
    · have e : vacTo H ks (k + 1) = vacTo H ks k := by
        show (if _ then _ else _) = _
        rw [if_neg hc]
      rw [e]
      refine ⟨T, h1, h2, fun i => ?_, h4, fun r hr => h5 r (by omega), h6⟩
      rw [h3 i]
      have hiff : ((M.things.getD i noTh).there = true ∧ (H.seats.getD (i + 1) (0, 0, 0)).2.2 < k ∧ i + 1 ∉ ks) ↔ ((M.things.getD i noTh).there = true ∧ (H.seats.getD (i + 1) (0, 0, 0)).2.2 < k + 1 ∧ i + 1 ∉ ks) := by
        refine ⟨fun q => ⟨q.1, by omega, q.2.2⟩, fun q => ⟨q.1, ?_, q.2.2⟩⟩
        have q2 := q.2.1
        by_cases e3 : (H.seats.getD (i + 1) (0, 0, 0)).2.2 = k
        · have := hat i q.1 e3
          exact absurd ⟨by rw [ho, this]; omega, by rw [ho, this]; exact q.2.2⟩ hc
        · omega
      simp only [hiff]
theorem Inv.aged {H : HS} {M : MS} (h : Inv H M) (n : Nat) : Inv { H with age := n } M :=
  { safe := ⟨⟨h.safe.small.words, h.safe.small.oops, h.safe.small.mem, h.safe.small.count, h.safe.small.mark⟩, h.safe.low, h.safe.bl, h.safe.bits, h.safe.seats, h.safe.order⟩
    words := h.words, oops := h.oops, mark := h.mark, len := h.len, seat0 := h.seat0, there := h.there, seat := h.seat
    is := fun k hk hb => (h.is k hk hb).same rfl (by have := (has_yes (h.is k hk hb).has).2.1; show k + 1 < H.seats.length; omega) (h.is k hk hb).room (fun _ _ _ => rfl)
    count := h.count, turn := h.turn, order := h.order, rise := h.rise, gaps := h.gaps, bit := h.bit, low := h.low, model := h.model, deep := h.deep, most := h.most, room := h.room, fin := h.fin, last := h.last }
/-- what the model's things are behind a Keep -/
def keptTh (S : List Th) (ks : List Nat) : List Th := slidN (stayTo S ks S.length) 0 (thereTo (stayTo S ks S.length) S.length)
/-- Keep keeps it -/
theorem Inv.keep {H : HS} {M : MS} (h : Inv H M) (ks : List Nat) (hks : ∀ j ∈ ks, mhas M (j : Int) = true) (ha : H.age ≤ 1000000000) : KeepOk H ks ∧ Inv (keepH H ks) { M with things := keptTh M.things ks } := by
  have hv := h.toInvV
  have hsl : ∀ i, i < M.things.length → (M.things.getD i noTh).there = true → i + 1 < H.seats.length := fun i hi hb => hv.seatIn i hi hb
  obtain ⟨T, h1, h2, h3, h4, h5, h6⟩ := hv.vacs ks H.order.length (Nat.le_refl _)
  have hT : T = stayTo M.things ks M.things.length := by
    refine th_ext (by rw [h2, stayTo_len]) (fun i hi => ?_)
    have e2 := stayTo_at M.things ks M.things.length (Nat.le_refl _) i
    rw [if_pos (by omega)] at e2
    rw [h3 i, e2]
    cases hb : (M.things.getD i noTh).there with
    | true =>
      have := (hv.turn i (by omega) hb).1
      by_cases hm : i + 1 ∈ ks
      · rw [if_neg (fun hc => hc.2.2 hm)]
        simp [stayed, hm]
      · rw [if_pos ⟨rfl, this, hm⟩]
        simp [stayed, gone, hm]
    | false =>
      rw [if_neg (fun hc => by cases hc.1)]
      generalize M.things.getD i noTh = t at hb
      cases t
      simp only at hb
      subst hb
      simp [stayed]
  refine ⟨⟨fun j hj => ?_, fun k hk hne => ?_, h1.slideOk, ?_, ?_, ?_, ?_, ha⟩, ?_⟩
  · obtain ⟨i, i1, i2, i3⟩ := mhas_yes (hks j hj)
    have e : j = i + 1 := by omega
    subst e
    have := hsl i i2 i3
    exact ⟨by omega, by omega, (hv.there i i2).1 i3⟩
  · obtain ⟨T', q1, q2, q3, q4, q5, q6⟩ := hv.vacs ks k (by omega)
    obtain ⟨o1, o2, o3⟩ := q1.order k (by omega) hne
    obtain ⟨i0, hi0⟩ : ∃ i0, (vacTo H ks k).order.getD k 0 = i0 + 1 := ⟨(vacTo H ks k).order.getD k 0 - 1, by omega⟩
    rw [hi0] at o1 o2 ⊢
    rw [Nat.add_sub_cancel] at o2
    have o1' : i0 + 1 ≤ T'.length := o1
    have o4 : (M.things.getD i0 noTh).there = true := by
      have o5 : (T'.getD i0 noTh).there = true := o2
      rw [q3 i0] at o5
      split at o5
      · exact absurd o5 (by simp [gone])
      · exact o5
    exact ⟨hsl i0 (by omega) o4, fun _ => q1.vacOk i0 o1' o2⟩
  · have := hv.safe.small.mem; have := hv.safe.small.words; omega
  · have := hv.safe.order; omega
  · have := hv.safe.seats; omega
  · have := hv.safe.small.count; have := hv.safe.small.oops; omega
  · have hs := h1.slide
    have e : slidN ({ M with things := T } : MS).things 0 (thereTo ({ M with things := T } : MS).things ({ M with things := T } : MS).things.length) = keptTh M.things ks := by
      show slidN T 0 (thereTo T T.length) = _
      rw [h2, hT]
      rfl
    rw [e] at hs
    exact hs.aged _
theorem Inv.setMark {H : HS} {M : MS} (h : Inv H M) (n : Nat) (hn : (n : Int) ≤ 1073741824) : Inv { H with mark := n } { M with mark := n } :=
  { safe := ⟨⟨h.safe.small.words, h.safe.small.oops, h.safe.small.mem, h.safe.small.count, hn⟩, h.safe.low, h.safe.bl, h.safe.bits, h.safe.seats, h.safe.order⟩
    words := h.words, oops := h.oops, mark := rfl, len := h.len, seat0 := h.seat0, there := h.there, seat := h.seat
    is := fun k hk hb => (h.is k hk hb).same rfl (by have := (has_yes (h.is k hk hb).has).2.1; show k + 1 < H.seats.length; omega) (h.is k hk hb).room (fun _ _ _ => rfl)
    count := h.count, turn := h.turn, order := h.order, rise := h.rise, gaps := h.gaps, bit := h.bit, low := h.low, model := ⟨h.model.len, h.model.slots, h.model.place⟩, deep := h.deep, most := h.most, room := h.room, fin := h.fin, last := h.last }
end Go.Proofs.YtklfnjlenbgmoaaDoor
namespace Go.Proofs.YtklfnjlenbgmoaaDoor
open Go.RowKit
set_option linter.unusedVariables false
/-- a heap made since w -/
structure St (w : World) (a : Nat) (W : World) (l : Lay) (H : HS) : Prop where
  rep : Rep W a l H
  fr : Fr [] w W
  ge : ∀ b ∈ foot a l, w.heap.size ≤ b
theorem St.next {w W W' : World} {a : Nat} {l l' : Lay} {H H' : HS} (h : St w a W l H) (hr : Rep W' a l' H') (hx : Nx a l l' W W') : St w a W' l' H' :=
  ⟨hr, h.fr.trans hx.1 (fun b hb => .inr (h.ge b hb)), fun b hb => by
    rcases hx.2 b hb with h1 | h1
    · exact h.ge b h1
    · exact Nat.le_trans h.fr.size h1⟩
theorem St.more {w W W' : World} {a : Nat} {l : Lay} {H : HS} (h : St w a W l H) (hf : Fr [] W W') : St w a W' l H :=
  ⟨h.rep.keep hf (by simp), h.fr.trans hf (by simp), h.ge⟩
theorem St.tab {w W : World} {a : Nat} {l : Lay} {H : HS} (h : St w a W l H) (hT : Tab w) (h2 : 2 ≤ w.heap.size) : Tab W := hT.keep h.fr (by omega) (by simp)
theorem St.tab64 {w W : World} {a : Nat} {l : Lay} {H : HS} (h : St w a W l H) (hT : Tab64 w) (h2 : 2 ≤ w.heap.size) : Tab64 W := hT.keep h.fr (by omega) (by simp)
def A0 : HS := emptyH 40 3
def A1 : HS := ⟨40, 3, 0, [8, 6, 4, 4, 4], [(0, 0, 0), (0, 5, 0)], [1], [1], 0, 1, 0⟩
def A2 : HS := ⟨40, 3, 0, [8, 6, 4, 4, 4, 12, 11, 0, 0], [(0, 0, 0), (0, 5, 0), (5, 4, 1)], [1, 2], [3], 0, 2, 0⟩
def A3 : HS := { A2 with mem := [8, 6, 4, 4, 77, 12, 11, 0, 0] }
def A4 : HS := { A2 with mem := [8, 6, 4, 4, 77, 12, 11, 0, 200] }
def A5 : HS := { A4 with seats := [(0, 0, 0), (5, 4, 1), (0, 5, 0)], order := [2, 1], age := 1 }
def A6 : HS := ⟨40, 3, 0, [12, 11, 0, 200], [(0, 0, 0), (0, 4, 0), (0, 0, 0)], [1], [1], 0, 1, 2⟩
theorem lay1 : layH { A0 with mark := 0 - 1, low := 0 } 1 8 3 0 = A1 := by rfl
theorem lay2 : layH { A1 with mark := 0 - 1, low := 0 } 2 12 5 1 = A2 := by rfl
theorem put3 : { A2 with mem := A2.mem.set (0 + 2 + 2) 77 } = A3 := by rfl
theorem put4 : { A3 with mem := A3.mem.set (5 + 2 + 4 / 4) ((0 / 256 * 256 + 200 : Nat) : Int) } = A4 := by rfl
theorem exch5 : exchH A4 1 2 = A5 := by rfl
theorem keep6 : keepH A5 [1] = A6 := by rfl
theorem oop1 : oopN [] 0 = 1 := by rfl
theorem oop2 : oopN [1] 0 = 2 := by decide +kernel
theorem getD_one (x : Nat) (h : x ≤ full) : ∀ k, [x].getD k 0 ≤ full := by
  intro k
  match k with
  | 0 => exact h
  | k + 1 => simp [full]
theorem safe0 : Safe A0 := ⟨⟨by decide, by decide, by decide, by decide, by decide⟩, by decide, by decide, fun k => by simp [A0, emptyH, full], by decide, by decide⟩
theorem safe1 : Safe A1 := ⟨⟨by decide, by decide, by decide, by decide, by decide⟩, by decide, by decide, getD_one 1 (by decide), by decide, by decide⟩
theorem alloc1 (w W : World) (a : Nat) (l : Lay) (h : St w a W l A0) (hT : Tab w) (hT2 : Tab64 w) (h2 : 2 ≤ w.heap.size) :
    Calls Tryd.prog 14 #[.pointer (some ⟨a, 0, none⟩), .int .i64 8, .int .i64 3, .int .i64 0] W fun e w' => e = .returned (.tuple #[.int .i64 1, .int .i64 0]) ∧ ∃ l', St w a w' l' A1 := by
  have ha : 2 ≤ a := Nat.le_trans h2 (h.ge a (by simp [foot]))
  refine (Alloc_ok 8 3 0 a l A0 W h.rep safe0 (h.tab hT h2) (h.tab64 hT2 h2) ha (by decide) (by decide) (by decide) (by decide) (by decide) (by decide)).mono ?_
  rintro e w' ⟨k, q1, q2, rfl, l', q3, q4⟩
  have hk : k = 0 := by have := q1.le; simp [A0, emptyH] at this; exact this
  subst hk
  refine ⟨rfl, l', h.next (H' := A1) ?_ q4⟩
  have e : layH { A0 with mark := A0.mark - 1, low := 0 } (oopN A0.bits 0) 8 3 0 = A1 := by rfl
  rw [← e]
  exact q3
theorem alloc2 (w W : World) (a : Nat) (l : Lay) (h : St w a W l A1) (hT : Tab w) (hT2 : Tab64 w) (h2 : 2 ≤ w.heap.size) :
    Calls Tryd.prog 14 #[.pointer (some ⟨a, 0, none⟩), .int .i64 12, .int .i64 5, .int .i64 1] W fun e w' => e = .returned (.tuple #[.int .i64 2, .int .i64 0]) ∧ ∃ l', St w a w' l' A2 := by
  have ha : 2 ≤ a := Nat.le_trans h2 (h.ge a (by simp [foot]))
  refine (Alloc_ok 12 5 1 a l A1 W h.rep safe1 (h.tab hT h2) (h.tab64 hT2 h2) ha (by decide) (by decide) (by decide) (by decide) (by decide) (by decide)).mono ?_
  rintro e w' ⟨k, q1, q2, rfl, l', q3, q4⟩
  have hk : k = 0 := by
    have h1 := q1.le
    have h3 := q1.ful 0 (by decide)
    have h4 : k ≤ 1 := h1
    rcases Nat.eq_zero_or_pos k with h5 | h5
    · exact h5
    · exact absurd (h3 h5) (by decide)
  subst hk
  have e2 : oopN A1.bits 0 = 2 := oop2
  rw [e2] at q3 ⊢
  refine ⟨rfl, l', h.next (H' := A2) ?_ q4⟩
  have e : layH { A1 with mark := A1.mark - 1, low := 0 } 2 12 5 1 = A2 := by rfl
  rw [← e]
  exact q3
theorem put1 (w W : World) (a : Nat) (l : Lay) (h : St w a W l A2) (hT : Tab w) (h2 : 2 ≤ w.heap.size) :
    Calls Tryd.prog 29 #[.pointer (some ⟨a, 0, none⟩), .int .i64 1, .int .i64 2, .int .i64 77] W fun e w' => e = .returned (.int .i64 0) ∧ St w a w' l A3 := by
  refine (Put_ok 1 2 3 0 77 a l A2 A3 W h.rep (by decide) (by decide) (by decide) (by decide) (by decide) (by decide) (by decide) (by decide) (by decide) (by decide) (h.tab hT h2) ?_).mono ?_
  · intro W' hW'
    exact setSlot_w (0, 5, 0) 2 77 a l A2 W' hW' (by decide) (by decide)
  · rintro e w' ⟨rfl, q1, q2⟩
    exact ⟨rfl, h.next q1 q2⟩
theorem put2 (w W : World) (a : Nat) (l : Lay) (h : St w a W l A3) (hT : Tab w) (h2 : 2 ≤ w.heap.size) :
    Calls Tryd.prog 29 #[.pointer (some ⟨a, 0, none⟩), .int .i64 2, .int .i64 4, .int .i64 200] W fun e w' => e = .returned (.int .i64 0) ∧ St w a w' l A4 := by
  refine (Put_ok 2 4 5 1 200 a l A3 A4 W h.rep (by decide) (by decide) (by decide) (by decide) (by decide) (by decide) (by decide) (by decide) (by decide) (by decide) (h.tab hT h2) ?_).mono ?_
  · intro W' hW'
    exact setSlot_b0 (5, 4, 1) 4 200 0 a l A3 W' hW' (by decide) (by decide) (by decide) (by decide) (by decide) (by decide) (by decide)
  · rintro e w' ⟨rfl, q1, q2⟩
    exact ⟨rfl, h.next q1 q2⟩
theorem exch1 (w W : World) (a : Nat) (l : Lay) (h : St w a W l A4) :
    Calls Tryd.prog 46 #[.pointer (some ⟨a, 0, none⟩), .int .i64 1, .int .i64 2] W fun e w' => e = .returned (.int .i64 0) ∧ St w a w' l A5 := by
  refine (Exchange_ok 1 2 a l A4 W h.rep (by decide) (by decide) (by decide) (by decide) (by decide) (by decide) (by decide) (by decide) (by decide) (by decide) (by decide) (by decide) (by decide)).mono ?_
  rintro e w' ⟨rfl, q1, q2⟩
  exact ⟨rfl, h.next q1 q2⟩
theorem at1 (w W : World) (a : Nat) (l : Lay) (h : St w a W l A6) :
    Calls Tryd.prog 47 #[.pointer (some ⟨a, 0, none⟩), .int .i64 1, .int .i64 4] W fun e w' => e = .returned (.tuple #[.int .i64 200, .int .i64 0]) ∧ St w a w' l A6 := by
  refine (At_ok 1 4 5 1 200 a l A6 W h.rep (by decide) (by decide) (by decide) (by decide) (by decide) (by decide) (by decide) (by decide) (by decide) ?_).mono ?_
  · intro W' hW'
    exact slot_b0 (0, 4, 0) 4 200 a l A6 W' hW' (by decide) (by decide) (by decide) (by decide) (by decide)
  · rintro e w' ⟨rfl, q1⟩
    exact ⟨rfl, h.more q1⟩
theorem vac5 : VacOk A5 2 := ⟨by decide, by decide, by decide, by decide, by decide, by decide, by decide, getD_one 3 (by decide), by decide, by decide, by decide, by decide, by decide, by decide⟩
def A5v : HS := ⟨40, 3, 0, [0, 0, 0, 0, 0, 12, 11, 0, 200], [(0, 0, 0), (5, 4, 1), (0, 0, 0)], [0, 1], [1], 0, 1, 1⟩
theorem v1 : vacTo A5 [1] 1 = A5v := by rfl
theorem v2 : vacTo A5 [1] 2 = A5v := by rfl
theorem slide5 : SlideOk A5v := by
  refine ⟨fun k hk => ?_, by decide, by decide, by decide⟩
  have hk2 : k < 2 := hk
  match k, hk2 with
  | 0, _ => intro h; exact absurd rfl h
  | 1, _ => intro _; exact ⟨by decide, by decide, by decide, by decide⟩
theorem keepOk5 : KeepOk A5 [1] := by
  refine ⟨fun j hj => ?_, fun k hk => ?_, ?_, by decide, by decide, by decide, by decide, by decide⟩
  · simp at hj; subst hj; decide
  · have hk2 : k < 2 := hk
    match k, hk2 with
    | 0, _ => intro _; exact ⟨by decide, fun _ => vac5⟩
    | 1, _ =>
      rw [v1]
      intro _
      exact ⟨by decide, fun h => absurd (by decide) h⟩
  · exact slide5
theorem keep1 (w W : World) (a b : Nat) (l : Lay) (h : St w a W l A5) (hb : W.heap[b]? = some (.cells #[.int .i64 1] 3 (0, 0))) (hbn : b ∉ foot a l) :
    Calls Tryd.prog 34 #[.pointer (some ⟨a, 0, none⟩), .slice (some ⟨b, 0, none⟩) 1 1] W fun e w' => e = .returned (.tuple #[.int .i64 1, .int .i64 5, .int .i64 0]) ∧ St w a w' l A6 := by
  refine (Keep_ok [1] b 1 a l A5 W h.rep keepOk5 (lt_of_heap hb) hbn (fun j hj => ?_) (by decide)).mono ?_
  · have hj0 : j = 0 := by simp at hj; exact hj
    subst hj0
    rw [cell_in hb]
    rfl
  · rintro e w' ⟨rfl, q1, q2⟩
    exact ⟨rfl, h.next q1 q2⟩
end Go.Proofs.YtklfnjlenbgmoaaDoor
namespace Go.Proofs.YtklfnjlenbgmoaaDoor
open Go.RowKit
set_option linter.unusedVariables false
/-- the heap and the model side by side, both made since w0 -/
structure Side (D : List Nat) (w0 : World) (a m : Nat) (W : World) (l : Lay) (H : HS) (M : MS) : Prop where
  rep : Rep W a l H
  mrep : MRep W m M
  sep : ∀ g ∈ foot a l, g ∉ mfoot m M
  fr : Fr D w0 W
  geh : ∀ b ∈ foot a l, b ∈ D ∨ w0.heap.size ≤ b
  gem : ∀ b ∈ mfoot m M, b ∈ D ∨ w0.heap.size ≤ b
theorem Side.heap {D : List Nat} {w0 W W' : World} {a m : Nat} {l l' : Lay} {H H' : HS} {M : MS} (h : Side D w0 a m W l H M) (hr : Rep W' a l' H') (hx : Nx a l l' W W') : Side D w0 a m W' l' H' M where
  rep := hr
  mrep := h.mrep.keep hx.1 (fun g hg hb => h.sep g hb hg)
  sep := fun g hg hb => by
    rcases hx.2 g hg with h1 | h1
    · exact h.sep g h1 hb
    · have := h.mrep.lt g hb; omega
  fr := h.fr.trans hx.1 (fun b hb => h.geh b hb)
  geh := fun b hb => by
    rcases hx.2 b hb with h1 | h1
    · exact h.geh b h1
    · exact .inr (Nat.le_trans h.fr.size h1)
  gem := h.gem
theorem Side.model {D : List Nat} {w0 W W' : World} {a m : Nat} {l : Lay} {H : HS} {M M' : MS} (h : Side D w0 a m W l H M) (hr : MRep W' m M') (hx : Fr (mfoot m M) W W') (hn : ∀ g ∈ mfoot m M', g ∈ mfoot m M ∨ W.heap.size ≤ g) : Side D w0 a m W' l H M' where
  rep := h.rep.keep hx (fun g hg hb => h.sep g hg hb)
  mrep := hr
  sep := fun g hg hb => by
    rcases hn g hb with h1 | h1
    · exact h.sep g hg h1
    · have := h.rep.lt g hg; omega
  fr := h.fr.trans hx (fun b hb => h.gem b hb)
  geh := h.geh
  gem := fun b hb => by
    rcases hn b hb with h1 | h1
    · exact h.gem b h1
    · exact .inr (Nat.le_trans h.fr.size h1)
theorem Side.idle {D : List Nat} {w0 W W' : World} {a m : Nat} {l : Lay} {H : HS} {M : MS} (h : Side D w0 a m W l H M) (hx : Fr [] W W') : Side D w0 a m W' l H M :=
  ⟨h.rep.keep hx (by simp), h.mrep.keep hx (by simp), h.sep, h.fr.trans hx (by simp), h.geh, h.gem⟩
theorem Side.drewN {D : List Nat} {w0 W : World} {a m : Nat} {l : Lay} {H : HS} {M : MS} (h : Side D w0 a m W l H M) (n : Nat) : Side D w0 a m (W.drewN n) l H M := h.idle (Fr.drewN [] _ _)
theorem Side.eqw {D : List Nat} {w0 W W' : World} {a m : Nat} {l : Lay} {H : HS} {M : MS} (h : Side D w0 a m W l H M) (he : Eqw W W') : Side D w0 a m W' l H M :=
  h.idle ⟨he.1, he.2.1, he.2.2.1, by rw [he.2.2.2]; exact Nat.le_refl _, fun k _ _ => by rw [he.2.2.2]⟩
/-- a thing, but for where its slots lie -/
def bare (t : Th) : Th := { t with p := none, c := 0 }
/-- two models that say the same -/
structure Lk (M N : MS) : Prop where
  words : M.words = N.words
  oops : M.oops = N.oops
  mark : M.mark = N.mark
  things : M.things.map bare = N.things.map bare
theorem Lk.refl (M : MS) : Lk M M := ⟨rfl, rfl, rfl, rfl⟩
theorem Lk.symm {M N : MS} (h : Lk M N) : Lk N M := ⟨h.words.symm, h.oops.symm, h.mark.symm, h.things.symm⟩
theorem Lk.trans {M N K : MS} (h : Lk M N) (h2 : Lk N K) : Lk M K := ⟨h.words.trans h2.words, h.oops.trans h2.oops, h.mark.trans h2.mark, h.things.trans h2.things⟩
end Go.Proofs.YtklfnjlenbgmoaaDoor
