import Derived.Test.YtpaekbghnejhoaaDoorEG09HInvU
import Derived.Test.YtpaekbghnejhoaaDoorEG05HModelL
import Derived.BigQuiet
import Derived.Test.YtpaekbghnejhoaaDoorEG06HRd
import Derived.Test.YtpaekbghnejhoaaDoorEG07HInv
namespace Go.Proofs.YtpaekbghnejhoaaDoor
open Go.RowKit
set_option linter.unusedVariables false
def stayed (t : Th) (b : Bool) : Th := { t with there := t.there && b }
/-- the first k of the things that are not of the list are away -/
def stayTo (S : List Th) (ks : List Nat) : Nat → List Th
  | 0 => S
  | k + 1 => (stayTo S ks k).set k (stayed (S.getD k noTh) (decide (k + 1 ∈ ks)))
theorem stayTo_len (S : List Th) (ks : List Nat) : ∀ k, (stayTo S ks k).length = S.length := by
  intro k
  induction k with
  | zero => rfl
  | succ k ih => show ((stayTo S ks k).set k _).length = _; rw [List.length_set, ih]
theorem stayTo_at (S : List Th) (ks : List Nat) : ∀ k, k ≤ S.length → ∀ i, (stayTo S ks k).getD i noTh = if i < k then stayed (S.getD i noTh) (decide (i + 1 ∈ ks)) else S.getD i noTh := by
  intro k
  induction k with
  | zero => intro _ i; rw [if_neg (by omega)]; rfl
  | succ k ih =>
    intro hk i
    show ((stayTo S ks k).set k _).getD i noTh = _
    rw [getD_set _ _ _ _ (by rw [stayTo_len]; omega)]
    by_cases e : i = k
    · rw [if_pos e, if_pos (by omega), e]
    · rw [if_neg e, ih (by omega) i]
      by_cases e2 : i < k
      · rw [if_pos e2, if_pos (by omega)]
      · rw [if_neg e2, if_neg (by omega)]
theorem th_ext {S T : List Th} (hl : S.length = T.length) (h : ∀ i, i < S.length → S.getD i noTh = T.getD i noTh) : S = T := by
  apply List.ext_getElem hl
  intro i h1 h2
  have := h i h1
  rw [List.getD_eq_getElem?_getD, List.getD_eq_getElem?_getD, List.getElem?_eq_getElem h1, List.getElem?_eq_getElem h2] at this
  simpa using this
theorem InvV.vacs {H : HS} {M : MS} (hv : InvV H M) (ks : List Nat) : ∀ k, k ≤ H.order.length → ∃ T : List Th, InvV (vacTo H ks k) { M with things := T } ∧ T.length = M.things.length ∧
    (∀ i, T.getD i noTh = if (M.things.getD i noTh).there = true ∧ (H.seats.getD (i + 1) (0, 0, 0)).2.2 < k ∧ i + 1 ∉ ks then gone (M.things.getD i noTh) else M.things.getD i noTh) ∧
    (vacTo H ks k).order.length = H.order.length ∧ (∀ r, k ≤ r → (vacTo H ks k).order.getD r 0 = H.order.getD r 0) ∧ (vacTo H ks k).seats.length = H.seats.length := by
  intro k
  induction k with
  | zero => intro _; exact ⟨M.things, hv, rfl, fun i => by rw [if_neg (by omega)], rfl, fun _ _ => rfl, rfl⟩
  | succ k ih =>
    intro hk
    obtain ⟨T, h1, h2, h3, h4, h5, h6⟩ := ih (by omega)
    have ho := h5 k (Nat.le_refl _)
    have hat : ∀ i, (M.things.getD i noTh).there = true → (H.seats.getD (i + 1) (0, 0, 0)).2.2 = k → H.order.getD k 0 = i + 1 := fun i hb e => by
      have := (hv.turn i (th_in hb) hb).2
      rw [e] at this
      exact this
    by_cases hc : (vacTo H ks k).order.getD k 0 ≠ 0 ∧ (vacTo H ks k).order.getD k 0 ∉ ks
    · have e : vacTo H ks (k + 1) = vacH (vacTo H ks k) ((vacTo H ks k).order.getD k 0) := by
        show (if _ then _ else _) = _
        rw [if_pos hc]
      rw [e]
      obtain ⟨c1, c2⟩ := hc
      obtain ⟨o1, o2, o3⟩ := h1.order k (by omega) c1
      obtain ⟨u1, u2, u3⟩ := hv.order k (by omega) (by rw [← ho]; exact c1)
      obtain ⟨i0, hi0⟩ : ∃ i0, (vacTo H ks k).order.getD k 0 = i0 + 1 := ⟨(vacTo H ks k).order.getD k 0 - 1, by omega⟩
      rw [ho] at hi0
      rw [ho, hi0] at o1 o2 o3 c2
      rw [hi0] at u1 u2 u3
      rw [Nat.add_sub_cancel] at o2 u2
      rw [ho, hi0]
      have hlt : i0 < T.length := o1
      have hg := fun i => getD_set T i0 i (gone (T.getD i0 noTh)) hlt
      have hvac := h1.vac i0 hlt o2
      refine ⟨T.set i0 (gone (T.getD i0 noTh)), hvac, by rw [List.length_set]; exact h2, fun i => ?_, ?_, fun r hr => ?_, ?_⟩
      · have hTi : T.getD i0 noTh = M.things.getD i0 noTh := by
          rw [h3 i0, if_neg (fun hh => by omega)]
        rw [hg]
        by_cases e2 : i = i0
        · rw [if_pos e2, hTi, e2, if_pos ⟨u2, by omega, c2⟩]
        · rw [if_neg e2, h3 i]
          have hiff : ((M.things.getD i noTh).there = true ∧ (H.seats.getD (i + 1) (0, 0, 0)).2.2 < k ∧ i + 1 ∉ ks) ↔ ((M.things.getD i noTh).there = true ∧ (H.seats.getD (i + 1) (0, 0, 0)).2.2 < k + 1 ∧ i + 1 ∉ ks) := by
            refine ⟨fun q => ⟨q.1, by omega, q.2.2⟩, fun q => ⟨q.1, ?_, q.2.2⟩⟩
            have q2 := q.2.1
            by_cases e3 : (H.seats.getD (i + 1) (0, 0, 0)).2.2 = k
            · have := hat i q.1 e3; omega
            · omega
          simp only [hiff]
      · show ((vacTo H ks k).order.set _ 0).length = _; rw [List.length_set]; exact h4
      · show ((vacTo H ks k).order.set ((vacTo H ks k).seats.getD (i0 + 1) (0, 0, 0)).2.2 0).getD r 0 = _
        rw [o3, getD_nat _ _ _ _ (by omega), if_neg (by omega)]
        exact h5 r (by omega)
      · show ((vacTo H ks k).seats.set _ _).length = _; rw [List.length_set]; exact h6
    · have e : vacTo H ks (k + 1) = vacTo H ks k := by
        show (if _ then _ else _) = _
        rw [if_neg hc]
      rw [e]
      refine ⟨T, h1, h2, fun i => ?_, h4, fun r hr => h5 r (by omega), h6⟩
      rw [h3 i]
      have hiff : ((M.things.getD i noTh).there = true ∧ (H.seats.getD (i + 1) (0, 0, 0)).2.2 < k ∧ i + 1 ∉ ks) ↔ ((M.things.getD i noTh).there = true ∧ (H.seats.getD (i + 1) (0, 0, 0)).2.2 < k + 1 ∧ i + 1 ∉ ks) := by
        refine ⟨fun q => ⟨q.1, by omega, q.2.2⟩, fun q => ⟨q.1, ?_, q.2.2⟩⟩
        have q2 := q.2.1
        by_cases e3 : (H.seats.getD (i + 1) (0, 0, 0)).2.2 = k
        · have := hat i q.1 e3
          exact absurd ⟨by rw [ho, this]; omega, by rw [ho, this]; exact q.2.2⟩ hc
        · omega
      simp only [hiff]
theorem Inv.aged {H : HS} {M : MS} (h : Inv H M) (n : Nat) : Inv { H with age := n } M :=
  { safe := ⟨⟨h.safe.small.words, h.safe.small.oops, h.safe.small.mem, h.safe.small.count, h.safe.small.mark⟩, h.safe.low, h.safe.bl, h.safe.bits, h.safe.seats, h.safe.order⟩
    words := h.words, oops := h.oops, mark := h.mark, len := h.len, seat0 := h.seat0, there := h.there, seat := h.seat
    is := fun k hk hb => (h.is k hk hb).same rfl (by have := (has_yes (h.is k hk hb).has).2.1; show k + 1 < H.seats.length; omega) (h.is k hk hb).room (fun _ _ _ => rfl)
    count := h.count, turn := h.turn, order := h.order, rise := h.rise, gaps := h.gaps, bit := h.bit, low := h.low, model := h.model, deep := h.deep, most := h.most, room := h.room, fin := h.fin, last := h.last }
/-- what the model's things are behind a Keep -/
def keptTh (S : List Th) (ks : List Nat) : List Th := slidN (stayTo S ks S.length) 0 (thereTo (stayTo S ks S.length) S.length)
/-- Keep keeps it -/
theorem Inv.keep {H : HS} {M : MS} (h : Inv H M) (ks : List Nat) (hks : ∀ j ∈ ks, mhas M (j : Int) = true) (ha : H.age ≤ 1000000000) : KeepOk H ks ∧ Inv (keepH H ks) { M with things := keptTh M.things ks } := by
  have hv := h.toInvV
  have hsl : ∀ i, i < M.things.length → (M.things.getD i noTh).there = true → i + 1 < H.seats.length := fun i hi hb => hv.seatIn i hi hb
  obtain ⟨T, h1, h2, h3, h4, h5, h6⟩ := hv.vacs ks H.order.length (Nat.le_refl _)
  have hT : T = stayTo M.things ks M.things.length := by
    refine th_ext (by rw [h2, stayTo_len]) (fun i hi => ?_)
    have e2 := stayTo_at M.things ks M.things.length (Nat.le_refl _) i
    rw [if_pos (by omega)] at e2
    rw [h3 i, e2]
    cases hb : (M.things.getD i noTh).there with
    | true =>
      have := (hv.turn i (by omega) hb).1
      by_cases hm : i + 1 ∈ ks
      · rw [if_neg (fun hc => hc.2.2 hm)]
        simp [stayed, hm]
      · rw [if_pos ⟨rfl, this, hm⟩]
        simp [stayed, gone, hm]
    | false =>
      rw [if_neg (fun hc => by cases hc.1)]
      generalize M.things.getD i noTh = t at hb
      cases t
      simp only at hb
      subst hb
      simp [stayed]
  refine ⟨⟨fun j hj => ?_, fun k hk hne => ?_, h1.slideOk, ?_, ?_, ?_, ?_, ha⟩, ?_⟩
  · obtain ⟨i, i1, i2, i3⟩ := mhas_yes (hks j hj)
    have e : j = i + 1 := by omega
    subst e
    have := hsl i i2 i3
    exact ⟨by omega, by omega, (hv.there i i2).1 i3⟩
  · obtain ⟨T', q1, q2, q3, q4, q5, q6⟩ := hv.vacs ks k (by omega)
    obtain ⟨o1, o2, o3⟩ := q1.order k (by omega) hne
    obtain ⟨i0, hi0⟩ : ∃ i0, (vacTo H ks k).order.getD k 0 = i0 + 1 := ⟨(vacTo H ks k).order.getD k 0 - 1, by omega⟩
    rw [hi0] at o1 o2 ⊢
    rw [Nat.add_sub_cancel] at o2
    have o1' : i0 + 1 ≤ T'.length := o1
    have o4 : (M.things.getD i0 noTh).there = true := by
      have o5 : (T'.getD i0 noTh).there = true := o2
      rw [q3 i0] at o5
      split at o5
      · exact absurd o5 (by simp [gone])
      · exact o5
    exact ⟨hsl i0 (by omega) o4, fun _ => q1.vacOk i0 o1' o2⟩
  · have := hv.safe.small.mem; have := hv.safe.small.words; omega
  · have := hv.safe.order; omega
  · have := hv.safe.seats; omega
  · have := hv.safe.small.count; have := hv.safe.small.oops; omega
  · have hs := h1.slide
    have e : slidN ({ M with things := T } : MS).things 0 (thereTo ({ M with things := T } : MS).things ({ M with things := T } : MS).things.length) = keptTh M.things ks := by
      show slidN T 0 (thereTo T T.length) = _
      rw [h2, hT]
      rfl
    rw [e] at hs
    exact hs.aged _
theorem Inv.setMark {H : HS} {M : MS} (h : Inv H M) (n : Nat) (hn : (n : Int) ≤ 1073741824) : Inv { H with mark := n } { M with mark := n } :=
  { safe := ⟨⟨h.safe.small.words, h.safe.small.oops, h.safe.small.mem, h.safe.small.count, hn⟩, h.safe.low, h.safe.bl, h.safe.bits, h.safe.seats, h.safe.order⟩
    words := h.words, oops := h.oops, mark := rfl, len := h.len, seat0 := h.seat0, there := h.there, seat := h.seat
    is := fun k hk hb => (h.is k hk hb).same rfl (by have := (has_yes (h.is k hk hb).has).2.1; show k + 1 < H.seats.length; omega) (h.is k hk hb).room (fun _ _ _ => rfl)
    count := h.count, turn := h.turn, order := h.order, rise := h.rise, gaps := h.gaps, bit := h.bit, low := h.low, model := ⟨h.model.len, h.model.slots, h.model.place⟩, deep := h.deep, most := h.most, room := h.room, fin := h.fin, last := h.last }
end Go.Proofs.YtpaekbghnejhoaaDoor


namespace Go.Proofs.YtpaekbghnejhoaaDoor
open Go.RowKit
set_option linter.unusedVariables false
attribute [local go_sem ↓] Go.wp_at_zero Go.wp_at_succ
/-- those from turn k on go, the first j of them -/
def backTo (H : HS) (T : Nat) : Nat → HS
  | 0 => H
  | j + 1 => vacH (backTo H T j) (H.order.getD (T + j) 0)
theorem backTo_age (H : HS) (T : Nat) : ∀ j, (backTo H T j).age = H.age := by
  intro j
  induction j with
  | zero => rfl
  | succ j ih => exact ih
structure BackOk (H : HS) (T : Nat) : Prop where
  t : T ≤ H.order.length
  vac : ∀ j, T + j < H.order.length → VacOk (backTo H T j) (H.order.getD (T + j) 0) ∧ (backTo H T j).order.getD (T + j) 0 = H.order.getD (T + j) 0 ∧ (backTo H T j).order.length = H.order.length
  r1 : (H.order.length : Int) ≤ 1048576
  a1 : (H.age : Int) ≤ 1000000000
theorem run_neq_ptr_same {tp te : TypeId} {j : TypeInfo} (V : World) (a : Addr) (hp : Tryd.prog.underlying tp = some (.pointer te)) (hte : Tryd.prog.info? te = some j) :
    (binOp .neq tp (.pointer (some a)) (.pointer (some a))).run Tryd.prog V = .ok (.bool false) V := by
  have h : ∀ d : Nat, (Op.equalIn (d + 1) tp (.pointer (some a)) (.pointer (some a))).run Tryd.prog V = .ok true V := fun d => by
    simp [Op.equalIn, run_underlying hp, sizeOf, typeInfo, hte, run_sameAddr_same]
  simp only [binOp]
  simp [Op.equal, Op.maxDepth, h 9999]
end Go.Proofs.YtpaekbghnejhoaaDoor


namespace Go.Proofs.YtpaekbghnejhoaaDoor
open Go.RowKit
set_option linter.unusedVariables false
/-- what lies between a point and a Back: allocations alone -/
structure Behind (H0 : HS) (M0 : MS) (H : HS) (M : MS) : Prop where
  inv : Inv H M
  age : H.age = H0.age
  words : H.words = H0.words
  oops : H.oops = H0.oops
  mark : H.mark = 0
  len : H0.order.length ≤ H.order.length
  old : ∀ j, j < H0.order.length → H.order.getD j 0 = H0.order.getD j 0
  young : ∀ j, H0.order.length ≤ j → j < H.order.length → H.order.getD j 0 ≠ 0
  tl : M0.things.length ≤ M.things.length
  same : ∀ k, (M0.things.getD k noTh).there = true → M.things.getD k noTh = M0.things.getD k noTh
theorem behind_refl {H : HS} {M : MS} (h : Inv H M) (hm : H.mark = 0) : Behind H M H M :=
  ⟨h, rfl, rfl, rfl, hm, Nat.le_refl _, fun _ _ => rfl, fun j h1 h2 => by omega, Nat.le_refl _, fun _ _ => rfl⟩
/-- which of the things are old: those whose turn lies ahead of the point -/
theorem Behind.turnOld {H0 H : HS} {M0 M : MS} (h0 : Inv H0 M0) (h : Behind H0 M0 H M) (k : Nat) (hb : (M.things.getD k noTh).there = true) : (M0.things.getD k noTh).there = true ↔ (H.seats.getD (k + 1) (0, 0, 0)).2.2 < H0.order.length := by
  obtain ⟨u1, u2⟩ := h.inv.turn k (th_in hb) hb
  constructor
  · intro hb0
    obtain ⟨v1, v2⟩ := h0.turn k (th_in hb0) hb0
    have e := h.old _ v1
    rw [v2] at e
    have := (h.inv.order (H0.seats.getD (k + 1) (0, 0, 0)).2.2 (by have := h.len; omega) (by omega)).2.2
    rw [e] at this
    omega
  · intro hlt
    have e := h.old _ hlt
    rw [u2] at e
    have := (h0.order _ hlt (by omega)).2.1
    rw [← e, Nat.add_sub_cancel] at this
    exact this
/-- the young ones go, one by one -/
theorem Behind.backs {H0 H : HS} {M0 M : MS} (h0 : Inv H0 M0) (h : Behind H0 M0 H M) : ∀ j, H0.order.length + j ≤ H.order.length → ∃ X : List Th, InvV (backTo H H0.order.length j) { M with things := X } ∧ X.length = M.things.length ∧
    (∀ k, X.getD k noTh = if (M.things.getD k noTh).there = true ∧ H0.order.length ≤ (H.seats.getD (k + 1) (0, 0, 0)).2.2 ∧ (H.seats.getD (k + 1) (0, 0, 0)).2.2 < H0.order.length + j then gone (M.things.getD k noTh) else M.things.getD k noTh) ∧
    (backTo H H0.order.length j).order.length = H.order.length ∧ (∀ r, r < H0.order.length ∨ H0.order.length + j ≤ r → (backTo H H0.order.length j).order.getD r 0 = H.order.getD r 0) ∧
    (∀ r, H0.order.length ≤ r → r < H0.order.length + j → (backTo H H0.order.length j).order.getD r 0 = 0) ∧
    (backTo H H0.order.length j).words = H.words ∧ (backTo H H0.order.length j).oops = H.oops ∧ (backTo H H0.order.length j).mark = H.mark := by
  intro j
  induction j with
  | zero => intro _; exact ⟨M.things, h.inv.toInvV, rfl, fun k => by rw [if_neg (by omega)], rfl, fun _ _ => rfl, fun r h1 h2 => by omega, rfl, rfl, rfl⟩
  | succ j ih =>
    intro hj
    obtain ⟨X, h1, h2, h3, h4, h5, h6, h7, h8, h9⟩ := ih (by omega)
    have hne := h.young (H0.order.length + j) (by omega) (by omega)
    have ho := h5 (H0.order.length + j) (.inr (Nat.le_refl _))
    obtain ⟨u1, u2, u3⟩ := h.inv.order (H0.order.length + j) (by omega) hne
    obtain ⟨o1, o2, o3⟩ := h1.order (H0.order.length + j) (by omega) (by rw [ho]; exact hne)
    rw [ho] at o1 o2 o3
    obtain ⟨i0, hi0⟩ : ∃ i0, H.order.getD (H0.order.length + j) 0 = i0 + 1 := ⟨H.order.getD (H0.order.length + j) 0 - 1, by omega⟩
    rw [hi0] at u1 u2 u3 o1 o2 o3
    rw [Nat.add_sub_cancel] at u2 o2
    have hlt : i0 < X.length := o1
    have hvac := h1.vac i0 hlt o2
    have hg := fun i => getD_set X i0 i (gone (X.getD i0 noTh)) hlt
    have e : backTo H H0.order.length (j + 1) = vacH (backTo H H0.order.length j) (i0 + 1) := by
      show vacH (backTo H H0.order.length j) (H.order.getD (H0.order.length + j) 0) = _
      rw [hi0]
    rw [e]
    have hord : ∀ r, (vacH (backTo H H0.order.length j) (i0 + 1)).order.getD r 0 = if r = H0.order.length + j then 0 else (backTo H H0.order.length j).order.getD r 0 := fun r => by
      show ((backTo H H0.order.length j).order.set ((backTo H H0.order.length j).seats.getD (i0 + 1) (0, 0, 0)).2.2 0).getD r 0 = _
      rw [o3, getD_nat _ _ _ _ (by omega)]
    refine ⟨X.set i0 (gone (X.getD i0 noTh)), hvac, by rw [List.length_set]; exact h2, fun k => ?_, ?_, fun r hr => ?_, fun r r1 r2 => ?_, h7, h8, h9⟩
    · have hXi : X.getD i0 noTh = M.things.getD i0 noTh := by rw [h3 i0, if_neg (fun hh => by omega)]
      have hat : ∀ k, (M.things.getD k noTh).there = true → (H.seats.getD (k + 1) (0, 0, 0)).2.2 = H0.order.length + j → k = i0 := fun k hb e => by
        have := (h.inv.turn k (th_in hb) hb).2
        rw [e, hi0] at this
        omega
      rw [hg]
      by_cases e2 : k = i0
      · rw [if_pos e2, hXi, e2, if_pos ⟨u2, by omega, by omega⟩]
      · rw [if_neg e2, h3 k]
        have hiff : ((M.things.getD k noTh).there = true ∧ H0.order.length ≤ (H.seats.getD (k + 1) (0, 0, 0)).2.2 ∧ (H.seats.getD (k + 1) (0, 0, 0)).2.2 < H0.order.length + j) ↔ ((M.things.getD k noTh).there = true ∧ H0.order.length ≤ (H.seats.getD (k + 1) (0, 0, 0)).2.2 ∧ (H.seats.getD (k + 1) (0, 0, 0)).2.2 < H0.order.length + (j + 1)) := by
          refine ⟨fun q => ⟨q.1, q.2.1, by omega⟩, fun q => ⟨q.1, q.2.1, ?_⟩⟩
          by_cases e3 : (H.seats.getD (k + 1) (0, 0, 0)).2.2 = H0.order.length + j
          · exact absurd (hat k q.1 e3) e2
          · have := q.2.2; omega
        simp only [hiff]
    · show ((backTo H H0.order.length j).order.set _ 0).length = _; rw [List.length_set]; exact h4
    · rw [hord, if_neg (by omega)]; exact h5 r (by omega)
    · rw [hord]
      by_cases e3 : r = H0.order.length + j
      · rw [if_pos e3]
      · rw [if_neg e3]; exact h6 r r1 (by omega)
theorem Behind.backOk {H0 H : HS} {M0 M : MS} (h0 : Inv H0 M0) (h : Behind H0 M0 H M) (hage : (H.age : Int) ≤ 1000000000) : BackOk H H0.order.length where
  t := h.len
  vac := fun j hj => by
    obtain ⟨X, h1, h2, h3, h4, h5, h6, h7, h8, h9⟩ := h.backs h0 j (by omega)
    have hne := h.young (H0.order.length + j) (by omega) hj
    have ho := h5 (H0.order.length + j) (.inr (Nat.le_refl _))
    obtain ⟨o1, o2, o3⟩ := h1.order (H0.order.length + j) (by omega) (by rw [ho]; exact hne)
    rw [ho] at o1 o2 o3
    obtain ⟨i0, hi0⟩ : ∃ i0, H.order.getD (H0.order.length + j) 0 = i0 + 1 := ⟨H.order.getD (H0.order.length + j) 0 - 1, by omega⟩
    rw [hi0] at o1 o2 ho ⊢
    rw [Nat.add_sub_cancel] at o2
    exact ⟨h1.vacOk i0 o1 o2, ho, h4⟩
  r1 := by have := h.inv.safe.order; omega
  a1 := hage
/-- two models of which one has things more that are not there -/
structure Agree (M M0 : MS) : Prop where
  words : M.words = M0.words
  oops : M.oops = M0.oops
  mark : M.mark = M0.mark
  len : M0.things.length ≤ M.things.length
  there : ∀ k, (M.things.getD k noTh).there = (M0.things.getD k noTh).there
  same : ∀ k, (M0.things.getD k noTh).there = true → M.things.getD k noTh = M0.things.getD k noTh
theorem thereTo_out (S : List Th) (k : Nat) (hk : S.length ≤ k) : thereTo S k = thereTo S S.length := by
  unfold thereTo
  rw [List.take_of_length_le hk, List.take_length]
theorem Agree.thereTo {M M0 : MS} (h : Agree M M0) : ∀ k, k ≤ M.things.length → thereTo M.things k = Go.Proofs.YtpaekbghnejhoaaDoor.thereTo M0.things k := by
  intro k
  induction k with
  | zero => intro _; rfl
  | succ k ih =>
    intro hk
    have hl := h.len
    by_cases e : k < M0.things.length
    · rw [thereTo_succ _ _ (by omega), thereTo_succ _ _ e, ih (by omega), h.there k]
    · have hf : (M.things.getD k noTh).there = false := by
        rw [h.there k, List.getD_eq_getElem?_getD, List.getElem?_eq_none (by omega)]
        rfl
      rw [thereTo_succ _ _ (by omega), ih (by omega), hf, thereTo_out M0.things k (by omega), thereTo_out M0.things (k + 1) (by omega)]
      simp
theorem Agree.thereAll {M M0 : MS} (h : Agree M M0) : Go.Proofs.YtpaekbghnejhoaaDoor.thereTo M.things M.things.length = Go.Proofs.YtpaekbghnejhoaaDoor.thereTo M0.things M0.things.length := by
  rw [h.thereTo _ (Nat.le_refl _), thereTo_out M0.things _ h.len]
theorem Agree.endAll {M M0 : MS} (h : Agree M M0) : endTo M.things M.things.length = endTo M0.things M0.things.length := by
  have hmax : ∀ (S : List Th) (k : Nat), k ≤ S.length → (∀ j, j < k → (S.getD j noTh).there = true → (S.getD j noTh).place + lenN (S.getD j noTh).slots.length (S.getD j noTh).fmt ≤ endTo S k) ∧ (endTo S k = 0 ∨ ∃ j, j < k ∧ (S.getD j noTh).there = true ∧ (S.getD j noTh).place + lenN (S.getD j noTh).slots.length (S.getD j noTh).fmt = endTo S k) := by
    intro S k
    induction k with
    | zero => intro _; exact ⟨fun j hj => by omega, .inl rfl⟩
    | succ k ih =>
      intro hk
      obtain ⟨a1, a2⟩ := ih (by omega)
      rw [endTo_succ]
      split
      · rename_i hc
        refine ⟨fun j hj hb => ?_, .inr ⟨k, by omega, hc.1, rfl⟩⟩
        by_cases e : j = k
        · rw [e]; exact Nat.le_refl _
        · have := a1 j (by omega) hb; omega
      · rename_i hc
        refine ⟨fun j hj hb => ?_, ?_⟩
        · by_cases e : j = k
          · rw [e] at hb ⊢
            by_cases hx : endTo S k < (S.getD k noTh).place + lenN (S.getD k noTh).slots.length (S.getD k noTh).fmt
            · exact absurd ⟨hb, hx⟩ hc
            · omega
          · exact a1 j (by omega) hb
        · rcases a2 with a2 | ⟨j, j1, j2, j3⟩
          · exact .inl a2
          · exact .inr ⟨j, by omega, j2, j3⟩
  obtain ⟨a1, a2⟩ := hmax M0.things M0.things.length (Nat.le_refl _)
  refine endTo_is M.things _ _ (fun j hj hb => ?_) ?_
  · have hb0 : (M0.things.getD j noTh).there = true := by rw [← h.there j]; exact hb
    rw [h.same j hb0]
    exact a1 j (th_in hb0) hb0
  · rcases a2 with a2 | ⟨j, j1, j2, j3⟩
    · exact .inl a2
    · exact .inr ⟨j, by have := h.len; omega, by rw [h.there j]; exact j2, by rw [h.same j j2]; exact j3⟩
theorem Agree.low {M M0 : MS} (h : Agree M M0) : lowTo M.things = lowTo M0.things := by
  obtain ⟨f1, f2⟩ := lowTo_free M0.things
  obtain ⟨g1, g2⟩ := lowTo_free M.things
  have p0 : 1 ≤ lowTo M0.things := by unfold lowTo; omega
  have p1 : 1 ≤ lowTo M.things := by unfold lowTo; omega
  rcases Nat.lt_trichotomy (lowTo M.things) (lowTo M0.things) with e | e | e
  · have := f2 (lowTo M.things - 1) (by omega)
    rw [← h.there, g1] at this
    cases this
  · exact e
  · have := g2 (lowTo M0.things - 1) (by omega)
    rw [h.there, f1] at this
    cases this
/-- what the heap says of the one it says of the other -/
theorem Agree.told {H : HS} {M M0 : MS} (h : Agree M M0) (ht : Told H M) : Told H M0 where
  small := ht.small
  words := ht.words.trans h.words
  oops := ht.oops.trans h.oops
  mark := ht.mark.trans h.mark
  fin := by rw [ht.fin, h.endAll]
  cnt := by rw [ht.cnt, h.thereAll]
  is := fun k hk hb => by rw [← h.same k hb]; exact ht.is k (by have := h.len; omega) (by rw [h.there]; exact hb)
  none := fun k hk hb => ht.none k (by have := h.len; omega) (by rw [h.there]; exact hb)
  all := fun k hk hb => by rw [← h.thereTo k (by have := h.len; omega)]; exact ht.all k (by have := h.len; omega) (by rw [h.there]; exact hb)
  allLen := by rw [ht.allLen, h.thereAll]
  seats := ht.seats
/-- behind a Back all is as it was at the point -/
theorem Behind.back {H0 H : HS} {M0 M : MS} (h0 : Inv H0 M0) (hm0 : H0.mark = 0) (h : Behind H0 M0 H M) : ∃ t e0 M2, DrawOk (backTo H H0.order.length (H.order.length - H0.order.length)) t e0 ∧ Inv { drawH (backTo H H0.order.length (H.order.length - H0.order.length)) t e0 with age := H.age + 1 } M2 ∧ Agree M2 M0 ∧
    stKeys (drawH (backTo H H0.order.length (H.order.length - H0.order.length)) t e0) M2.things (drawH (backTo H H0.order.length (H.order.length - H0.order.length)) t e0).order.length = stKeys H0 M0.things H0.order.length ∧
    (drawH (backTo H H0.order.length (H.order.length - H0.order.length)) t e0).words = H0.words ∧ (drawH (backTo H H0.order.length (H.order.length - H0.order.length)) t e0).oops = H0.oops ∧ (drawH (backTo H H0.order.length (H.order.length - H0.order.length)) t e0).mark = 0 := by
  have hlen := h.len
  obtain ⟨X, h1, h2, h3, h4, h5, h6, h7, h8, h9⟩ := h.backs h0 (H.order.length - H0.order.length) (by omega)
  obtain ⟨t, e0, hd, hinv⟩ := h1.draw
  have hXt : ∀ k, (X.getD k noTh).there = (M0.things.getD k noTh).there ∧ ((M0.things.getD k noTh).there = true → X.getD k noTh = M0.things.getD k noTh) := fun k => by
    rw [h3 k]
    cases hb : (M.things.getD k noTh).there with
    | false =>
      rw [if_neg (fun hc => by cases hc.1), hb]
      cases hb0 : (M0.things.getD k noTh).there with
      | false => exact ⟨rfl, fun hc => by cases hc⟩
      | true =>
        have := h.same k hb0
        rw [this, hb0] at hb
        cases hb
    | true =>
      have hiff := h.turnOld h0 k hb
      have hu := (h.inv.turn k (th_in hb) hb).1
      cases hb0 : (M0.things.getD k noTh).there with
      | true =>
        have := hiff.1 hb0
        rw [if_neg (fun hc => by omega), h.same k hb0]
        exact ⟨hb0, fun _ => rfl⟩
      | false =>
        have : ¬ (H.seats.getD (k + 1) (0, 0, 0)).2.2 < H0.order.length := fun hc => by
          have := hiff.2 hc
          rw [hb0] at this
          cases this
        rw [if_pos ⟨rfl, by omega, by omega⟩]
        exact ⟨rfl, fun hc => by cases hc⟩
  have hag : Agree { M with things := X } M0 := by
    refine ⟨?_, ?_, ?_, ?_, fun k => (hXt k).1, fun k hb => (hXt k).2 hb⟩
    · show M.words = M0.words; rw [← h.inv.words, h.words, h0.words]
    · show M.oops = M0.oops; rw [← h.inv.oops, h.oops, h0.oops]
    · show M.mark = M0.mark; rw [← h.inv.mark, h.mark, ← h0.mark, hm0]
    · show M0.things.length ≤ X.length; rw [h2]; exact h.tl
  have htT : t = H0.order.length := by
    have ht1 := hd.t1
    rcases Nat.lt_trichotomy t H0.order.length with e | e | e
    · exfalso
      have hz := hd.t2 (H0.order.length - 1) (by omega) (by omega)
      rw [h5 _ (.inl (by omega)), h.old _ (by omega)] at hz
      exact h0.last (H0.order.length - 1) (by omega) hz
    · exact e
    · exfalso
      have := (hd.t3 (by omega)).1
      exact this (h6 (t - 1) (by omega) (by omega))
  have hord : (drawH (backTo H H0.order.length (H.order.length - H0.order.length)) t e0).order = H0.order := by
    show (backTo H H0.order.length (H.order.length - H0.order.length)).order.take t = H0.order
    rw [htT]
    apply List.ext_getElem?
    intro r
    rw [List.getElem?_take]
    by_cases hr : r < H0.order.length
    · rw [if_pos hr]
      have e1 := h5 r (.inl hr)
      rw [h.old r hr] at e1
      rw [List.getD_eq_getElem?_getD, List.getD_eq_getElem?_getD, List.getElem?_eq_getElem (by omega), List.getElem?_eq_getElem hr] at e1
      rw [List.getElem?_eq_getElem (by omega), List.getElem?_eq_getElem hr]
      exact congrArg some e1
    · rw [if_neg hr, List.getElem?_eq_none (by omega)]
  refine ⟨t, e0, { M with things := X }, hd, hinv.aged _, hag, ?_, ?_, ?_, ?_⟩
  · unfold stKeys
    rw [hord, List.take_length]
    apply List.map_congr_left
    intro o ho
    obtain ⟨ho1, ho2⟩ := List.mem_filter.1 ho
    obtain ⟨r, hr, hro⟩ := List.getElem_of_mem ho1
    have hne : o ≠ 0 := by simpa using ho2
    have hg : H0.order.getD r 0 = o := by rw [List.getD_eq_getElem?_getD, List.getElem?_eq_getElem hr, hro]; rfl
    have hb := (h0.order r hr (by rw [hg]; exact hne)).2.1
    rw [hg] at hb
    show (o, (X.getD (o - 1) noTh).cls, (X.getD (o - 1) noTh).fmt, (X.getD (o - 1) noTh).slots) = _
    rw [(hXt (o - 1)).2 hb]
  · show (backTo H H0.order.length (H.order.length - H0.order.length)).words = _; rw [h7]; exact h.words
  · show (backTo H H0.order.length (H.order.length - H0.order.length)).oops = _; rw [h8]; exact h.oops
  · show (backTo H H0.order.length (H.order.length - H0.order.length)).mark = _; rw [h9]; exact h.mark
end Go.Proofs.YtpaekbghnejhoaaDoor


namespace Go.Proofs.YtpaekbghnejhoaaDoor
open Go.RowKit
set_option linter.unusedVariables false
/-- a thing is laid at q, whatever lies ahead of it -/
def putAt (S : List Th) (q : Nat) (t : Th) : List Th := if q < S.length then S.set q t else S ++ (List.replicate (q - S.length) noTh ++ [t])
theorem putAt_get (S : List Th) (q i : Nat) (t : Th) : (putAt S q t).getD i noTh = if i = q then t else S.getD i noTh := by
  unfold putAt
  split
  · rename_i h; exact getD_set S q i t h
  · rename_i h
    rw [List.getD_eq_getElem?_getD, List.getD_eq_getElem?_getD]
    by_cases h1 : i < S.length
    · rw [List.getElem?_append_left h1, if_neg (by omega)]
    · rw [List.getElem?_append_right (by omega), List.getElem?_eq_none (l := S) (by omega)]
      by_cases h2 : i < q
      · rw [List.getElem?_append_left (by simp; omega), List.getElem?_replicate, if_pos (by omega), if_neg (by omega)]; rfl
      · rw [List.getElem?_append_right (by simp; omega), List.length_replicate]
        by_cases h3 : i = q
        · rw [if_pos h3, show i - S.length - (q - S.length) = 0 from by omega]; rfl
        · rw [if_neg h3, List.getElem?_eq_none (by simp; omega)]
theorem putAt_length (S : List Th) (q : Nat) (t : Th) : (putAt S q t).length = max S.length (q + 1) := by
  unfold putAt
  split
  · rw [List.length_set]; omega
  · simp; omega
theorem thereTo_putAt (S : List Th) (q : Nat) (t : Th) (hf : (S.getD q noTh).there = false) (ht : t.there = true) : thereTo (putAt S q t) (putAt S q t).length = thereTo S S.length + 1 := by
  by_cases h : q < S.length
  · have := thereTo_put S q t (by omega) hf ht
    unfold putTh at this
    unfold putAt
    rw [if_pos h] at this ⊢
    exact this
  · unfold putAt
    rw [if_neg h]
    unfold thereTo
    rw [List.take_length, List.take_length, List.filter_append, List.filter_append]
    simp [ht, noTh]
theorem Inv.layAt {H : HS} {M : MS} (h : Inv H M) (q : Nat) (hq0 : q < M.oops) (hqf : (M.things.getD q noTh).there = false) (cl : Int) (n f : Nat) (p pt : Option Addr) (c ct : Nat) (hf : f ≤ 1) (hn : n ≤ 8192) (hr1 : H.count < H.oops) (hr2 : H.mem.length + lenN n f ≤ H.words) :
    Inv (layH H (q + 1) cl n f) { M with things := putAt M.things q ⟨true, cl, f, endTo M.things M.things.length, List.replicate n (newX f), p, c⟩, pt := pt, ct := ct } := by
  have hfree : (M.things.getD q noTh).there = false ∧ True := ⟨hqf, trivial⟩
  rw [← h.fin]
  generalize ht : (⟨true, cl, f, H.mem.length, List.replicate n (newX f), p, c⟩ : Th) = t
  have t1 : t.there = true := by rw [← ht]
  have t2 : t.cls = cl := by rw [← ht]
  have t3 : t.fmt = f := by rw [← ht]
  have t4 : t.place = H.mem.length := by rw [← ht]
  have t5 : t.slots = List.replicate n (newX f) := by rw [← ht]
  have t6 : t.slots.length = n := by rw [t5]; simp
  have hg := fun i => putAt_get M.things q i t
  have hgl := putAt_length M.things q t
  have hS : ∀ i, (layH H (q + 1) cl n f).seats.getD i (0, 0, 0) = if i = q + 1 then (H.mem.length, lenN n f, H.order.length) else H.seats.getD i (0, 0, 0) := fun i => laySeat H.seats (q + 1) i _
  have hSl : (layH H (q + 1) cl n f).seats.length = max H.seats.length (q + 2) := by
    show ((padSeats H.seats (q + 1 + 1)).set (q + 1) _).length = _
    unfold padSeats
    simp
    omega
  have hM : (layH H (q + 1) cl n f).mem = H.mem ++ objCells cl n f := rfl
  have hMl : (H.mem ++ objCells cl n f).length = H.mem.length + lenN n f := by rw [List.length_append, objCells_len cl n f hf]
  have hO : (layH H (q + 1) cl n f).order = H.order ++ [q + 1] := rfl
  have hOg : ∀ j, (H.order ++ [q + 1]).getD j 0 = if j = H.order.length then q + 1 else H.order.getD j 0 := fun j => by
    rw [List.getD_eq_getElem?_getD, List.getD_eq_getElem?_getD]
    by_cases e : j = H.order.length
    · rw [if_pos e, e, List.getElem?_append_right (Nat.le_refl _)]; simp
    · rw [if_neg e]
      by_cases hl : j < H.order.length
      · rw [List.getElem?_append_left hl]
      · rw [List.getElem?_eq_none (by simp; omega), List.getElem?_eq_none (by omega)]
  have hL := h.len
  have hsm := h.safe.small
  have ho := hsm.oops
  have hw := hsm.words
  have hshort := h.short
  have hl2 := lenN_two n f
  have hmost := h.most
  have hoo := h.oops
  have hend : ∀ i, i < M.things.length → (M.things.getD i noTh).there = true → (M.things.getD i noTh).place + lenN (M.things.getD i noTh).slots.length (M.things.getD i noTh).fmt ≤ H.mem.length := fun i h1 h2 => by rw [h.fin]; exact endTo_ge M.things _ i h1 h2
  exact {
    safe := ⟨⟨hw, ho, by rw [hM, hMl]; show ((H.mem.length + lenN n f : Nat) : Int) ≤ (H.words : Int); omega, by show ((H.count + 1 : Nat) : Int) ≤ (H.oops : Int); omega, hsm.mark⟩,
      by show H.low ≤ (addBits H.bits (q + 1)).length; rw [addBits_len]; have := h.safe.low; omega,
      by show ((addBits H.bits (q + 1)).length : Int) ≤ 1024; rw [addBits_len]; have := h.safe.bl; omega,
      fun i => addBits_le H.bits (q + 1) h.safe.bits i, by rw [hSl]; have := h.safe.seats; omega,
      by rw [hO]; simp only [List.length_append, List.length_singleton]; omega⟩
    words := h.words
    oops := h.oops
    mark := h.mark
    len := by
      rw [hSl]
      show max H.seats.length (q + 2) ≤ (putAt M.things q t).length + 1
      rw [hgl]
      omega
    seat0 := by rw [hS, if_neg (by omega)]; exact h.seat0
    there := fun i hi => by
      show (((putAt M.things q t).getD i noTh).there = true ↔ _)
      rw [hg i, hS (i + 1)]
      by_cases e : i = q
      · rw [if_pos e, if_pos (by omega)]; simp only [t1, true_iff]; show lenN n f ≠ 0; omega
      · rw [if_neg e, if_neg (by omega)]
        by_cases hil : i < M.things.length
        · exact h.there i hil
        · have e1 : M.things.getD i noTh = noTh := by rw [List.getD_eq_getElem?_getD, List.getElem?_eq_none (by omega)]; rfl
          have e2 : H.seats.getD (i + 1) (0, 0, 0) = (0, 0, 0) := by
            rw [List.getD_eq_getElem?_getD, List.getElem?_eq_none (by omega)]; rfl
          rw [e1, e2]
          simp [noTh]
    seat := fun i hi hb => by
      have hb2 : ((putAt M.things q t).getD i noTh).there = true := hb
      show _ = ((putAt M.things q t).getD i noTh).place ∧ _ = lenN ((putAt M.things q t).getD i noTh).slots.length ((putAt M.things q t).getD i noTh).fmt
      rw [hg i] at hb2 ⊢
      rw [hS (i + 1)]
      by_cases e : i = q
      · rw [if_pos e, if_pos (by omega), t4, t6, t3]; exact ⟨rfl, rfl⟩
      · rw [if_neg e] at hb2 ⊢; rw [if_neg (by omega)]; exact h.seat i (th_in hb2) hb2
    is := fun i hi hb => by
      have hb2 : ((putAt M.things q t).getD i noTh).there = true := hb
      show Is _ (i + 1) ((putAt M.things q t).getD i noTh)
      rw [hg i] at hb2 ⊢
      by_cases e : i = q
      · rw [if_pos e, e]; exact is_laid _ q cl n f t hf hn t2 t3 t5
      · rw [if_neg e] at hb2 ⊢
        have hi2 := th_in hb2
        have hI := h.is i hi2 hb2
        have hr := hI.room
        refine hI.same (by rw [hS, if_neg (by omega)]) (by rw [hSl]; have := (has_yes hI.has).2.1; omega) (by rw [hM, hMl]; omega) (fun x h1 h2 => by rw [hM]; exact getD_left _ _ x (by omega))
    count := by show H.count + 1 = thereTo (putAt M.things q t) (putAt M.things q t).length; rw [thereTo_putAt M.things q t hqf t1, h.count]
    fin := by
      rw [hM, hMl]
      show _ = endTo (putAt M.things q t) (putAt M.things q t).length
      refine (endTo_is _ _ _ (fun j hj hb => ?_) (.inr ⟨q, by omega, by rw [hg, if_pos rfl]; exact t1, by rw [hg, if_pos rfl, t4, t6, t3]⟩)).symm
      rw [hg j] at hb ⊢
      by_cases e : j = q
      · rw [if_pos e, t4, t6, t3]; exact Nat.le_refl _
      · rw [if_neg e] at hb ⊢
        have := hend j (th_in hb) hb
        omega
    turn := fun i hi hb => by
      have hb2 : ((putAt M.things q t).getD i noTh).there = true := hb
      rw [hg i] at hb2
      rw [hS (i + 1), hO, hOg]
      by_cases e : i = q
      · rw [if_pos (by omega)]; simp; omega
      · rw [if_neg e] at hb2
        rw [if_neg (by omega)]
        have := h.turn i (th_in hb2) hb2
        rw [if_neg (by omega)]
        exact ⟨by rw [List.length_append, List.length_singleton]; omega, this.2⟩
    order := fun j hj hne => by
      rw [hO] at hj hne ⊢
      show _ ≤ (putAt M.things q t).length ∧ ((putAt M.things q t).getD _ noTh).there = true ∧ _
      rw [hOg] at hne ⊢
      by_cases e : j = H.order.length
      · rw [if_pos e, hS, if_pos rfl, hg, if_pos (by omega)]
        exact ⟨by omega, t1, e.symm⟩
      · rw [if_neg e] at hne ⊢
        simp at hj
        obtain ⟨o1, o2, o3⟩ := h.order j (by omega) hne
        have hne2 : H.order.getD j 0 ≠ q + 1 := fun e2 => by
          rw [e2, Nat.add_sub_cancel, hfree.1] at o2
          simp at o2
        rw [hS, if_neg hne2, hg, if_neg (by omega)]
        exact ⟨by omega, o2, o3⟩
    rise := fun i j hij hj hi0 hj0 => by
      rw [hO] at hj hi0 hj0 ⊢
      rw [hOg] at hi0 hj0 ⊢
      rw [hOg j]
      simp at hj
      rw [if_neg (by omega)] at hi0 ⊢
      obtain ⟨o1, o2, o3⟩ := h.order i (by omega) hi0
      have hne2 : H.order.getD i 0 ≠ q + 1 := fun e2 => by
        rw [e2, Nat.add_sub_cancel, hfree.1] at o2
        simp at o2
      rw [hS, if_neg hne2, hS]
      by_cases e : j = H.order.length
      · rw [if_pos e, if_pos rfl]
        have hI := h.seat (H.order.getD i 0 - 1) (by omega) o2
        have := hend (H.order.getD i 0 - 1) (by omega) o2
        rw [show H.order.getD i 0 - 1 + 1 = H.order.getD i 0 from by omega] at hI
        show _ ≤ H.mem.length
        omega
      · rw [if_neg e] at hj0 ⊢
        obtain ⟨p1, p2, p3⟩ := h.order j (by omega) hj0
        have hne3 : H.order.getD j 0 ≠ q + 1 := fun e2 => by
          rw [e2, Nat.add_sub_cancel, hfree.1] at p2
          simp at p2
        rw [if_neg hne3]
        exact h.rise i j hij (by omega) hi0 hj0
    last := fun j hj => by
      rw [hO] at hj ⊢
      simp at hj
      rw [hOg, if_pos (by omega)]
      omega
    gaps := fun x hx hc => by
      rw [hM] at hx ⊢
      rw [hMl] at hx
      by_cases hlt : x < H.mem.length
      · rw [getD_left _ _ x hlt]
        refine h.gaps x hlt (fun i hi hb => ?_)
        have hiq : i ≠ q := fun e => by rw [e, hfree.1] at hb; simp at hb
        have := hc i (by show i < (putAt M.things q t).length; omega) (by show ((putAt M.things q t).getD i noTh).there = true; rw [hg, if_neg hiq]; exact hb)
        have h3 : x < ((putAt M.things q t).getD i noTh).place ∨ ((putAt M.things q t).getD i noTh).place + lenN ((putAt M.things q t).getD i noTh).slots.length ((putAt M.things q t).getD i noTh).fmt ≤ x := this
        rw [hg, if_neg hiq] at h3
        exact h3
      · have := hc q (by show q < (putAt M.things q t).length; omega) (by show ((putAt M.things q t).getD q noTh).there = true; rw [hg, if_pos rfl]; exact t1)
        have h3 : x < ((putAt M.things q t).getD q noTh).place ∨ ((putAt M.things q t).getD q noTh).place + lenN ((putAt M.things q t).getD q noTh).slots.length ((putAt M.things q t).getD q noTh).fmt ≤ x := this
        rw [hg, if_pos rfl, t4, t6, t3] at h3
        omega
    bit := fun j => by
      show ((addBits H.bits (q + 1)).getD (j / 64) 0).testBit (j % 64) = ((putAt M.things q t).getD j noTh).there
      rw [addBits_bit H.bits (q + 1) j (by omega), hg, Nat.add_sub_cancel]
      split
      · exact t1.symm
      · exact h.bit j
    low := fun i hi => by
      have hi2 : i < H.low := hi
      show (addBits H.bits (q + 1)).getD i 0 = full
      have hb : H.bits.getD i 0 = full := h.low i hi2
      have h1 := addBits_le H.bits (q + 1) h.safe.bits i
      rw [addBits_getD] at h1 ⊢
      split
      · rw [if_pos (by assumption)] at h1
        have := Nat.left_le_or (n := H.bits.getD i 0) (m := 2 ^ ((q + 1 - 1) % 64))
        omega
      · exact hb
    model := ⟨by show ((putAt M.things q t).length : Int) ≤ 65538; have := h.model.len; omega, fun i hi => by
        show (((putAt M.things q t).getD i noTh).slots.length : Int) ≤ 8192
        rw [hg]
        split
        · rw [t6]; omega
        · by_cases hil : i < M.things.length
          · exact h.model.slots i hil
          · rw [List.getD_eq_getElem?_getD, List.getElem?_eq_none (by omega)]; simp [noTh], fun i hi => by
        show (((putAt M.things q t).getD i noTh).place : Int) ≤ 1048576
        rw [hg]
        split
        · rw [t4]; have := h.room; omega
        · by_cases hil : i < M.things.length
          · exact h.model.place i hil
          · rw [List.getD_eq_getElem?_getD, List.getElem?_eq_none (by omega)]; simp [noTh]⟩
    deep := fun j hj hne => by
      rw [hO] at hj hne ⊢
      rw [hOg] at hne ⊢
      by_cases e : j = H.order.length
      · rw [if_pos e, hS, if_pos rfl]
        show 2 * j ≤ H.mem.length
        omega
      · rw [if_neg e] at hne ⊢
        simp at hj
        obtain ⟨o1, o2, o3⟩ := h.order j (by omega) hne
        have hne2 : H.order.getD j 0 ≠ q + 1 := fun e2 => by
          rw [e2, Nat.add_sub_cancel, hfree.1] at o2
          simp at o2
        rw [hS, if_neg hne2]
        exact h.deep j (by omega) hne
    most := by show (putAt M.things q t).length ≤ M.oops; omega
    room := h.room }
end Go.Proofs.YtpaekbghnejhoaaDoor


namespace Go.Proofs.YtpaekbghnejhoaaDoor
open Go.RowKit
set_option linter.unusedVariables false
attribute [local go_sem ↓] Go.wp_at_zero Go.wp_at_succ
set_option maxRecDepth 20000 in
set_option maxHeartbeats 1000000 in
theorem State_ok (a : Nat) (l : Lay) (H : HS) (M : MS) (w : World) (h : Rep w a l H) (hi : InvV H M) :
    Calls Tryd.prog 12 #[.pointer (some ⟨a, 0, none⟩)] w fun e w' => ∃ ov ls, e = .returned (.agg #[.int .i64 H.words, .int .i64 H.oops, .int .i64 H.mark, ov]) ∧ SRep w' w.heap.size ov ls ∧ ls.map osKey = stKeys H M.things H.order.length ∧ Fr [] w w' := by
  have hal := h.lt a (by simp [foot])
  have hsm := hi.safe.small
  have hord := hi.safe.order
  have hsb := hsm.words
  have hsm2 := hsm.mem
  have hcb := hsm.count
  have hob := hsm.oops
  have hb : (H.mem.length : Int) ≤ 1048576 := by omega
  have HR : Hid (∀ V, Fr [] w V → Rep V a l H) := fun V hV => h.keep hV (by simp)
  have HObj : Hid (∀ V, Fr [] w V → ∀ j, j < H.order.length → H.order.getD j 0 ≠ 0 → Calls Tryd.prog 42 #[.pointer (some ⟨a, 0, none⟩), .int .i64 (H.order.getD j 0 : Nat)] V fun e w' => ∃ v, e = .returned v ∧ ∃ o : OS, v = .agg #[.int .i64 (o.oop : Int), .int .i64 o.cls, .int .i64 (o.fmt : Int), o.v] ∧ osKey o = (H.order.getD j 0, (M.things.getD (H.order.getD j 0 - 1) noTh).cls, (M.things.getD (H.order.getD j 0 - 1) noTh).fmt, (M.things.getD (H.order.getD j 0 - 1) noTh).slots) ∧ w'.ownsRow V.heap.size 40 1 o.v o.slots.length (o.slots.map (Value.int .i64)) ∧ Fr [] V w') := by
    intro V hV j hj hne
    obtain ⟨o1, o2, o3⟩ := hi.order j hj hne
    have hI := hi.is (H.order.getD j 0 - 1) (by omega) o2
    rw [show H.order.getD j 0 - 1 + 1 = H.order.getD j 0 from by omega] at hI
    refine Calls.mono (object_ok (H.order.getD j 0) _ a l H V (h.keep hV (by simp)) hI hb) ?_
    rintro e w' ⟨v, rfl, h1, h2⟩
    exact ⟨_, rfl, ⟨H.order.getD j 0, _, _, _, v⟩, rfl, rfl, h1, h2⟩
  have c0 := (World.cell?_alloc_lt w (.cells #[.int .i64 0, .int .i64 0, .int .i64 0, .slice none 0 0] 24) ⟨a, 0, none⟩ hal).trans h.c0
  have HM := mkHid (made_any a _ c0)
  have c1 := h.c1
  have c2 := h.c2
  have c3 := h.c3
  clear h
  go_enter Tryd.func12, Tryd.ntmps12
  go_wp2_with (go_at_call 40; refine Calls.mono HM.out ?_; rintro e w' ⟨rfl, hw'⟩; rw [hw']; clear hw' w')
  obtain ⟨W0, hW0⟩ : ∃ W0, W0 = w.alloc (.cells #[.int .i64 0, .int .i64 0, .int .i64 0, .slice none 0 0] 24) := ⟨_, rfl⟩
  rw [← hW0]
  have F0 : Fr [] w W0 := by rw [hW0]; exact Fr.alloc [] _ _
  have hB0 : W0.heap[w.heap.size]? = some (.cells #[.int .i64 0, .int .i64 0, .int .i64 0, .slice none 0 0] 24 (0, 0)) := by rw [hW0]; exact heap_alloc_new _ _
  have hz0 : W0.heap.size = w.heap.size + 1 := by rw [hW0]; simp
  have d1 := (F0.cell (p := ⟨a, 1, none⟩) hal (by simp)).trans c1
  have d2 := (F0.cell (p := ⟨a, 2, none⟩) hal (by simp)).trans c2
  have d3 := (F0.cell (p := ⟨a, 3, none⟩) hal (by simp)).trans c3
  have ha0 : a < W0.heap.size := by omega
  clear hW0 c0 c1 c2 c3 HM
  have HF0 := mkHid F0
  have HB0 := mkHid hB0
  have HS1 : Hid (∀ V, Eqw (W0.alloc (.cells #[.int .i64 (H.words : Int), .int .i64 (H.oops : Int), .int .i64 (H.mark : Int), .slice none 0 0] 24)) V → St1 w V (w.heap.size + 1) H.words H.oops H.mark []) := by
    intro V hV
    refine ⟨(HF0.out.trans (Fr.alloc [] _ _) (by simp)).trans (hV.fr []) (by simp), by omega, ?_, .slice none 0 0, [], ?_, ⟨World.ownsRow_nil _ _ _ _, fun o ho => by simp at ho⟩, rfl⟩
    · rw [hV.2.2.2, Below.heap_alloc _ _ _ (by omega)]; exact HB0.out
    · have := heap_alloc_new W0 (.cells #[.int .i64 (H.words : Int), .int .i64 (H.oops : Int), .int .i64 (H.mark : Int), .slice none 0 0] 24); rw [hz0] at this; rw [hV.2.2.2]; exact this
  clear F0 hB0
  go_wp2_with fail
  go_region
  all_goals go_wp2_with fail
  have HS2 := mkHid (HS1.out _ (eqw_drew _))
  have hVs : ((W0.alloc (.cells #[.int .i64 (H.words : Int), .int .i64 (H.oops : Int), .int .i64 (H.mark : Int), .slice none 0 0] 24)).drew).heap.size = (w.heap.size + 1) + 1 := by simp [hz0]
  have e3 : ((W0.alloc (.cells #[.int .i64 (H.words : Int), .int .i64 (H.oops : Int), .int .i64 (H.mark : Int), .slice none 0 0] 24)).drew).heap[(w.heap.size + 1)]? = some (.cells #[.int .i64 (H.words : Int), .int .i64 (H.oops : Int), .int .i64 (H.mark : Int), .slice none 0 0] 24 (0, 0)) := by have := heap_alloc_new W0 (.cells #[.int .i64 (H.words : Int), .int .i64 (H.oops : Int), .int .i64 (H.mark : Int), .slice none 0 0] 24); rw [hz0] at this; exact this
  generalize (W0.alloc (.cells #[.int .i64 (H.words : Int), .int .i64 (H.oops : Int), .int .i64 (H.mark : Int), .slice none 0 0] 24)).drew = V0 at *
  have hR0 := HR.out V0 HS2.out.fr
  have c9 := hR0.c9
  have e4 : V0.cell? ⟨(w.heap.size + 1), 3, none⟩ = some (.slice none 0 0) := by rw [cell_in e3]; rfl
  have HG : Hid (Calls Tryd.prog 41 #[.slice none 0 0, .int .i64 (H.count : Int)] V0.drew fun e w' => ∃ v, e = .returned v ∧ ((∃ p c, v = .slice p 0 c) ∧ w'.ownsRow ((w.heap.size + 1) + 1) 44 4 v 0 [] ∧ Hid (Fr [] V0 w'))) := by
    refine Calls.mono (grow61 H.count (by omega) V0.drew) ?_
    rintro e w' ⟨v, rfl, h1, h2⟩
    refine ⟨v, rfl, ?_, ?_, (Fr.drew [] _).trans h2 (by simp)⟩
    · rcases h1.2 with ⟨q1, q2⟩ | ⟨g, cap, cur, q1, _⟩
      · exact ⟨none, 0, q1⟩
      · exact ⟨_, cap, q1⟩
    · rw [← hVs]; exact h1
  have HN : Hid (∀ V p c w4, Hid (Fr [] V0 w4) → w4.ownsRow ((w.heap.size + 1) + 1) 44 4 (.slice p 0 c) 0 [] → Eqw (w4.setCell ⟨(w.heap.size + 1), 3, none⟩ (.slice p 0 c)) V → St1 w V (w.heap.size + 1) H.words H.oops H.mark []) := by
    intro V p c w4 hf ho hV
    have hS := HS2.out.idle hf.out
    have hb4 := (hf.out.block _ (lt_of_heap e3) (by simp)).trans e3
    have hne : ∀ i, i ≠ (w.heap.size + 1) → V.heap[i]? = w4.heap[i]? := fun i hi => by rw [hV.2.2.2, set_else hi]
    refine ⟨(hS.fr.trans (Fr.setCell (S := [(w.heap.size + 1)]) _ _ _ (by simp)) (fun b hb => by simp at hb; subst hb; right; omega)).trans (hV.fr []) (by simp), hS.lo, (hne _ (by omega)).trans hS.res, .slice p 0 c, [], ?_, ⟨?_, fun o ho => by simp at ho⟩, rfl⟩
    · rw [hV.2.2.2, set_in hb4]; rfl
    · exact own_congr ho fun g hg => hne g (by have := (ho.lt g hg).1; omega)
  have HFz : Hid (∀ w4, Hid (Fr [] V0 w4) → w4.frozen? ⟨(w.heap.size + 1), 3, none⟩ = false ∧ w4.cell? ⟨(w.heap.size + 1), 3, none⟩ = some (.slice none 0 0)) := by
    intro w4 hf
    have hb4 := (hf.out.block _ (lt_of_heap e3) (by simp)).trans e3
    exact ⟨frozen_in hb4 3, by rw [cell_in hb4]; rfl⟩
  clear hR0 e3 HS1 d1 d2 d3
  go_cut [] (fun V => Hid (St1 w V (w.heap.size + 1) H.words H.oops H.mark []))
  case first =>
    go_region_law
      (refine step_call rfl 41 Tryd.f41 Tryd.func41 (by kernel_rfl) (by kernel_rfl) _ _ rfl _ (by simp [Act.eval]) _ HG.out ?_; rintro _ w4 ⟨⟨p4, c4, rfl⟩, ho4, hf4⟩; obtain ⟨z1, z2⟩ := HFz.out w4 hf4)
    all_goals go_wp2_with fail
    all_goals
      go_meet
      case rel => exact HN.out _ p4 c4 w4 hf4 ho4 ⟨rfl, rfl, rfl, rfl⟩
  case rest =>
    have HC := hcut
    clear hcut HN HFz HG e4 c9 hVs HS2
    have hRc := HR.out wc HC.out.fr
    have c6 := hRc.c6
    clear hRc
    obtain ⟨k0, ki, kz0, kz1, kz2⟩ := info_parts info106
    go_wp2_with fail
    go_loopw [37] (fun q wr => ∃ j : Nat, j ≤ H.order.length ∧ q = .int .i64 j ∧ Hid (St1 w wr (w.heap.size + 1) H.words H.oops H.mark (stKeys H M.things j))) (fun q _ => H.order.length - (intOf q).toNat)
    case atStart => exact ⟨0, Nat.zero_le _, rfl, by simpa [stKeys] using HC⟩
    case round =>
      clear c6 HC
      obtain ⟨j, hjn, rfl, hq⟩ := hrel
      have hRr := HR.out wr hq.out.fr
      obtain ⟨ov, ls, hv, hsr, hkk⟩ := hq.out.at_
      by_cases hlt : j < H.order.length
      · obtain ⟨go, hgo, hco, hfo, hgoa, hgol⟩ := hRr.orderAt j hlt
        have o1 := hco j hlt
        have k1 : (0 : Int) ≤ (j : Int) := by omega
        have k2 : (j : Int) < (H.order.length : Int) := by omega
        rw [hgo]
        by_cases h0 : H.order.getD j 0 = 0
        · rw [h0] at o1
          have HN : Hid (stKeys H M.things (j + 1) = stKeys H M.things j) := stKeys_zero H M.things j hlt h0
          clear hRr hco hfo hv hsr hkk HObj h0 hgo
          go_wp2_with fail
          go_roundw
          case rel => exact ⟨j + 1, by omega, by go_num, by rw [HN.out]; exact hq.out⟩
          case measure => simp [intOf]; omega
        · have hob2 : ((H.order.getD j 0 : Int) != 0) = true := by rw [bne_iff_ne]; omega
          have hll : ls.length ≤ j := by
            have e1 : ls.length = (stKeys H M.things j).length := by rw [← hkk, List.length_map]
            rw [e1]
            unfold stKeys
            rw [List.length_map]
            exact Nat.le_trans (List.length_filter_le _ _) (by simp; omega)
          have HNk := mkHid (stKeys_one H M.things j _ hlt rfl h0)
          have HSk : Hid (Calls Tryd.prog 42 #[.pointer (some ⟨a, 0, none⟩), .int .i64 (H.order.getD j 0 : Nat)] wr.drew fun e w' => ∃ v, e = .returned v ∧ (∃ (oo : Nat) (oc : Int) (of_ : Nat) (os : List Int) (p : Option Addr) (c : Nat), v = .agg #[.int .i64 (oo : Int), .int .i64 oc, .int .i64 (of_ : Int), .slice p os.length c] ∧ stKeys H M.things (j + 1) = stKeys H M.things j ++ [(oo, oc, of_, os)] ∧ w'.ownsRow (w.heap.size + 2) 40 1 (.slice p os.length c) os.length (os.map (Value.int .i64)) ∧ Hid (Fr [] wr w'))) := by
            refine Calls.mono (HObj.out wr.drew (hq.out.fr.trans (Fr.drew [] wr) (by simp)) j hlt h0) ?_
            rintro e w' ⟨v, rfl, ⟨oo, oc, of_, os, ov⟩, rfl, hkey, ho, hf⟩
            dsimp only at *
            obtain ⟨p, c, rfl⟩ : ∃ p c, ov = .slice p os.length c := by
              rcases ho.2 with ⟨q1, q2⟩ | ⟨g, cap, cur, q1, _⟩
              · exact ⟨none, 0, by rw [q1, q2]⟩
              · exact ⟨_, cap, q1⟩
            refine ⟨_, rfl, oo, oc, of_, os, p, c, rfl, by rw [HNk.out, ← hkey]; rfl, own_base ho ?_, (Fr.drew [] wr).trans hf (by simp)⟩
            have := lt_of_heap hv
            show w.heap.size + 2 ≤ wr.heap.size
            omega
          have HBf : Hid (∀ V oo oc of_ p n c, Hid (Fr [] wr V) → w.heap.size + 1 < V.heap.size ∧ V.cell? ⟨w.heap.size + 1, 3, none⟩ = some ov ∧ (V.alloc (.cells #[.int .i64 oo, .int .i64 oc, .int .i64 of_, .slice p n c] 44)).ownsRow (w.heap.size + 1 + 1) 44 4 ov ls.length (osCells ls) ∧ (∀ j u, ([.int .i64 oo, .int .i64 oc, .int .i64 of_, .slice p n c] : List Value)[j]? = some u → (V.alloc (.cells #[.int .i64 oo, .int .i64 oc, .int .i64 of_, .slice p n c] 44)).cell? ((⟨V.heap.size, 0, none⟩ : Addr).add j) = some u)) := by
            intro V oo oc of_ p n c hV
            refine ⟨Nat.lt_of_lt_of_le (lt_of_heap hv) hV.out.size, ?_, (own_congr hsr.row fun g hg => hV.out.block g (hsr.row.lt g hg).2 (by simp)).alloc _, World.news_of_block (heap_alloc_new V (.cells #[.int .i64 oo, .int .i64 oc, .int .i64 of_, .slice p n c] 44))⟩
            rw [cell_in ((hV.out.block _ (lt_of_heap hv) (by simp)).trans hv)]
            rfl
          have HNx : Hid (∀ V (oo : Nat) (oc : Int) (of_ : Nat) (os : List Int) p c g2 cap W2 V2, Hid (Fr [] wr V) → stKeys H M.things (j + 1) = stKeys H M.things j ++ [(oo, oc, of_, os)] → V.ownsRow (w.heap.size + 2) 40 1 (.slice p os.length c) os.length (os.map (Value.int .i64)) → (V.alloc (.cells #[.int .i64 (oo : Int), .int .i64 oc, .int .i64 (of_ : Int), .slice p os.length c] 44)).grownBy W2 ov.ownBlock → W2.ownsRow (w.heap.size + 1 + 1) 44 4 (.slice (some ⟨g2, 0, none⟩) (ls.length + 1) cap) (ls.length + 1) (osCells ls ++ [.int .i64 (oo : Int), .int .i64 oc, .int .i64 (of_ : Int), .slice p os.length c]) → Eqw (W2.setCell ⟨w.heap.size + 1, 3, none⟩ (.slice (some ⟨g2, 0, none⟩) (ls.length + 1) cap)) V2 → St1 w V2 (w.heap.size + 1) H.words H.oops H.mark (stKeys H M.things (j + 1))) := by
            intro V oo oc of_ os p c g2 cap W2 V2 hV hk ho hg hown he
            rw [hk]
            exact (hq.out.idle hV.out).next (o := ⟨oo, oc, of_, os, .slice p os.length c⟩) ((hV.out.block _ (lt_of_heap hv) (by simp)).trans hv) (hsr.idle hV.out) hkk ho hg hown he
          have HFz : Hid (∀ V oo oc of_ p n c W2, Hid (Fr [] wr V) → (V.alloc (.cells #[.int .i64 oo, .int .i64 oc, .int .i64 of_, .slice p n c] 44)).grownBy W2 ov.ownBlock → W2.frozen? ⟨w.heap.size + 1, 3, none⟩ = false ∧ W2.cell? ⟨w.heap.size + 1, 3, none⟩ = some ov) := by
            intro V oo oc of_ p n c W2 hV hg
            have h1 : W2.heap[w.heap.size + 1]? = some (.cells #[.int .i64 (H.words : Int), .int .i64 (H.oops : Int), .int .i64 (H.mark : Int), ov] 24 (0, 0)) := by
              rw [hg.block _ (by simp; have := lt_of_heap hv; have := hV.out.size; omega) (fun e => by have := (hsr.row.lt _ e.symm).1; omega), Below.heap_alloc _ _ _ (Nat.lt_of_lt_of_le (lt_of_heap hv) hV.out.size)]
              exact (hV.out.block _ (lt_of_heap hv) (by simp)).trans hv
            exact ⟨frozen_in h1 3, by rw [cell_in h1]; rfl⟩
          have d3 : wr.cell? ⟨w.heap.size + 1, 3, none⟩ = some ov := by rw [cell_in hv]; rfl
          have hBl := lt_of_heap hv
          generalize H.order.getD j 0 = o at *
          clear hRr hco hfo hv hsr hkk HObj hgo hq HNk
          go_wp2_with fail
          go_region_law
            (first
              | (refine step_append_lies _ rfl (.tmp 44) (.tmp 48) 22 rfl (w.heap.size + 1 + 1) 44 k0 (.agg #[.int .i64 0, .int .i64 0, .int .i64 0, .slice none 0 0]) 4 48 Tryd.underlying22 ki kz0 kz1 kz2 rfl (by decide) ov ls.length (osCells ls) (by simp [Act.eval]) z3 ⟨w5.heap.size, 0, none⟩ 1 1 [.int .i64 (oo : Int), .int .i64 oc, .int .i64 (of_ : Int), .slice p5 os5.length c5] (by simp [Act.eval]) rfl z4 (by simp [Value.oneCell']) (by decide) (by unfold maxLen; omega) (by omega) (by simp; omega) _ rfl ?_; intro g6 c6 w6 hown6 hgrow6 hat6 hlt6; obtain ⟨y1, y2⟩ := HFz.out w5 oo oc of_ p5 os5.length c5 w6 hf5 hgrow6)
              | (refine step_call rfl 42 Tryd.f42 Tryd.func42 (by kernel_rfl) (by kernel_rfl) _ _ rfl _ (by simp [Act.eval, Act.put]) _ HSk.out ?_; rintro _ w5 ⟨oo, oc, of_, os5, p5, c5, rfl, hk5, ho5, hf5⟩; obtain ⟨z1, z2, z3, z4⟩ := HBf.out w5 oo oc of_ p5 os5.length c5 hf5))
          all_goals go_wp2_with fail
          all_goals
            go_roundw
            case rel => exact ⟨j + 1, by omega, by go_num, HNx.out w5 oo oc of_ os5 p5 c5 g6 c6 w6 _ hf5 hk5 ho5 hgrow6 hown6 ⟨rfl, rfl, rfl, rfl⟩⟩
            case measure => simp [intOf]; omega
      · have hje : j = H.order.length := by omega
        subst hje
        have hB := lt_of_heap hv
        have d0 : wr.cell? ⟨w.heap.size + 1, 0, none⟩ = some (.int .i64 (H.words : Int)) := by rw [cell_in hv]; rfl
        have d1 : wr.cell? ⟨w.heap.size + 1, 1, none⟩ = some (.int .i64 (H.oops : Int)) := by rw [cell_in hv]; rfl
        have d2 : wr.cell? ⟨w.heap.size + 1, 2, none⟩ = some (.int .i64 (H.mark : Int)) := by rw [cell_in hv]; rfl
        have d3 : wr.cell? ⟨w.heap.size + 1, 3, none⟩ = some ov := by rw [cell_in hv]; rfl
        have hr := hq.out.res
        have r0 : wr.cell? ⟨w.heap.size, 0, none⟩ = some (.int .i64 0) := by rw [cell_in hr]; rfl
        have r1 : wr.cell? ⟨w.heap.size, 1, none⟩ = some (.int .i64 0) := by rw [cell_in hr]; rfl
        have r2 : wr.cell? ⟨w.heap.size, 2, none⟩ = some (.int .i64 0) := by rw [cell_in hr]; rfl
        have r3 : wr.cell? ⟨w.heap.size, 3, none⟩ = some (.slice none 0 0) := by rw [cell_in hr]; rfl
        have y0 := frozen_in hr 0
        have y1 := frozen_in hr 1
        have y2 := frozen_in hr 2
        have y3 := frozen_in hr 3
        obtain ⟨pv, cv, rfl⟩ : ∃ p c, ov = .slice p ls.length c := by
          rcases hsr.row.2 with ⟨h2, h3⟩ | ⟨g, cap, cur, h2, _⟩
          · exact ⟨none, 0, by rw [h2, h3]⟩
          · exact ⟨_, cap, h2⟩
        have HE : Hid (∀ V, Fr [w.heap.size] wr V → SRep V w.heap.size (.slice pv ls.length cv) ls ∧ ls.map osKey = stKeys H M.things H.order.length ∧ Fr [] w V) := by
          intro V hV
          refine ⟨⟨own_base (own_congr hsr.row fun g hg => hV.block g (hsr.row.lt g hg).2 (by have := (hsr.row.lt g hg).1; simp; omega)) (by omega), fun o ho => own_base (own_congr (hsr.slots o ho) fun g hg => hV.block g ((hsr.slots o ho).lt g hg).2 (by have := ((hsr.slots o ho).lt g hg).1; simp; omega)) (by omega)⟩, hkk, hq.out.fr.trans hV (fun b hb => by simp at hb; subst hb; right; exact Nat.le_refl _)⟩
        have HRes := mkHid hr
        generalize hln : ls.length = ln at *
        clear hq hv hsr hkk hr hRr HObj
        go_wp2_with fail
        obtain ⟨V, hV⟩ : ∃ V, V = (((wr.setCell ⟨w.heap.size, 0, none⟩ (.int .i64 (H.words : Int))).setCell ⟨w.heap.size, 1, none⟩ (.int .i64 (H.oops : Int))).setCell ⟨w.heap.size, 2, none⟩ (.int .i64 (H.mark : Int))).setCell ⟨w.heap.size, 3, none⟩ (.slice pv ln cv) := ⟨_, rfl⟩
        have hVb : V.heap[w.heap.size]? = some (.cells #[.int .i64 (H.words : Int), .int .i64 (H.oops : Int), .int .i64 (H.mark : Int), .slice pv ln cv] 24 (0, 0)) := by
          rw [hV, set_in (set_in (set_in (set_in HRes.out 0 _) 1 _) 2 _) 3 _]
          rfl
        have F : Fr [w.heap.size] wr V := by
          rw [hV]
          exact (((Fr.setCell (S := [w.heap.size]) wr ⟨w.heap.size, 0, none⟩ (.int .i64 (H.words : Int)) (by simp)).trans (Fr.setCell (S := [w.heap.size]) _ ⟨w.heap.size, 1, none⟩ (.int .i64 (H.oops : Int)) (by simp)) (fun b hb => .inl hb)).trans (Fr.setCell (S := [w.heap.size]) _ ⟨w.heap.size, 2, none⟩ (.int .i64 (H.mark : Int)) (by simp)) (fun b hb => .inl hb)).trans (Fr.setCell (S := [w.heap.size]) _ ⟨w.heap.size, 3, none⟩ (.slice pv ln cv) (by simp)) (fun b hb => .inl hb)
        rw [← hV]
        clear hV
        have x0 : V.cell? ⟨w.heap.size, 0, none⟩ = some (.int .i64 (H.words : Int)) := by rw [cell_in hVb]; rfl
        have x1 : V.cell? ⟨w.heap.size, 1, none⟩ = some (.int .i64 (H.oops : Int)) := by rw [cell_in hVb]; rfl
        have x2 : V.cell? ⟨w.heap.size, 2, none⟩ = some (.int .i64 (H.mark : Int)) := by rw [cell_in hVb]; rfl
        have x3 : V.cell? ⟨w.heap.size, 3, none⟩ = some (.slice pv ln cv) := by rw [cell_in hVb]; rfl
        refine bodyPost_ret (v := .agg #[.int .i64 (H.words : Int), .int .i64 (H.oops : Int), .int .i64 (H.mark : Int), .slice pv ln cv]) (by simp [results, Tryd.results12, go_sem, x0, x1, x2, x3]) rfl ?_
        obtain ⟨h5, h6, h7⟩ := HE.out V F
        exact ⟨_, ls, rfl, h5, h6, h7⟩
end Go.Proofs.YtpaekbghnejhoaaDoor


