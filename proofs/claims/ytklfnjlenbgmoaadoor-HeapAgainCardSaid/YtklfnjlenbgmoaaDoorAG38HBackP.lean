import Derived.Test.YtklfnjlenbgmoaaDoorAG37HObj
import Derived.Deep.DeepCutAuto
import Derived.Test.YtklfnjlenbgmoaaDoorAG25HBoth
import Derived.Test.YtklfnjlenbgmoaaDoorAG36HPoint
namespace Go.Proofs.YtklfnjlenbgmoaaDoor
open Go.RowKit
set_option linter.unusedVariables false
attribute [local go_sem ↓] Go.wp_at_zero Go.wp_at_succ
/-- an object as data, and where its slots lie -/
structure OS where
  oop : Nat
  cls : Int
  fmt : Nat
  slots : List Int
  v : Value
def os4 (o : OS) : List Value := [.int .i64 (o.oop : Int), .int .i64 o.cls, .int .i64 (o.fmt : Int), o.v]
def osCells (l : List OS) : List Value := l.flatMap os4
def osKey (o : OS) : Nat × Int × Nat × List Int := (o.oop, o.cls, o.fmt, o.slots)
/-- a list of objects that was told -/
structure SRep (w : World) (base : Nat) (ov : Value) (l : List OS) : Prop where
  row : w.ownsRow base 106 4 ov l.length (osCells l)
  slots : ∀ o ∈ l, w.ownsRow base 33 1 o.v o.slots.length (o.slots.map (Value.int .i64))
theorem SRep.idle {w w' : World} {base : Nat} {ov : Value} {l : List OS} (h : SRep w base ov l) (hf : Fr [] w w') : SRep w' base ov l :=
  ⟨own_congr h.row fun g hg => hf.block g (h.row.lt g hg).2 (by simp), fun o ho => own_congr (h.slots o ho) fun g hg => hf.block g ((h.slots o ho).lt g hg).2 (by simp)⟩
/-- what the state tells of the first j of the order -/
def stKeys (H : HS) (S : List Th) (j : Nat) : List (Nat × Int × Nat × List Int) := ((H.order.take j).filter (fun o => o != 0)).map fun o => (o, (S.getD (o - 1) noTh).cls, (S.getD (o - 1) noTh).fmt, (S.getD (o - 1) noTh).slots)
theorem stKeys_zero (H : HS) (S : List Th) (j : Nat) (hj : j < H.order.length) (h0 : H.order.getD j 0 = 0) : stKeys H S (j + 1) = stKeys H S j := by
  unfold stKeys
  rw [List.getD_eq_getElem?_getD, List.getElem?_eq_getElem hj] at h0
  have h0' : H.order[j] = 0 := h0
  rw [List.take_succ_eq_append_getElem hj, List.filter_append, h0']
  simp
theorem stKeys_one (H : HS) (S : List Th) (j o : Nat) (hj : j < H.order.length) (h0 : H.order.getD j 0 = o) (hn : o ≠ 0) : stKeys H S (j + 1) = stKeys H S j ++ [(o, (S.getD (o - 1) noTh).cls, (S.getD (o - 1) noTh).fmt, (S.getD (o - 1) noTh).slots)] := by
  unfold stKeys
  rw [List.getD_eq_getElem?_getD, List.getElem?_eq_getElem hj] at h0
  have h0' : H.order[j] = o := h0
  rw [List.take_succ_eq_append_getElem hj, List.filter_append, h0', List.map_append]
  simp [hn]
/-- a state that is being told: in block B -/
structure St1 (w W : World) (B words oops mark : Nat) (ks : List (Nat × Int × Nat × List Int)) : Prop where
  fr : Fr [] w W
  lo : w.heap.size + 1 ≤ B
  res : W.heap[w.heap.size]? = some (.cells #[.int .i64 0, .int .i64 0, .int .i64 0, .slice none 0 0] 38 (0, 0))
  at_ : ∃ ov l, W.heap[B]? = some (.cells #[.int .i64 (words : Int), .int .i64 (oops : Int), .int .i64 (mark : Int), ov] 38 (0, 0)) ∧ SRep W (B + 1) ov l ∧ l.map osKey = ks
theorem St1.idle {w W W' : World} {B words oops mark : Nat} {ks : List (Nat × Int × Nat × List Int)} (h : St1 w W B words oops mark ks) (hf : Fr [] W W') : St1 w W' B words oops mark ks := by
  obtain ⟨ov, l, h1, h2, h3⟩ := h.at_
  exact ⟨h.fr.trans hf (by simp), h.lo, (hf.block _ (lt_of_heap h.res) (by simp)).trans h.res, ov, l, (hf.block _ (lt_of_heap h1) (by simp)).trans h1, h2.idle hf, h3⟩
theorem osCells_append (l : List OS) (o : OS) : osCells (l ++ [o]) = osCells l ++ os4 o := by simp [osCells]
/-- one object more -/
theorem St1.next {w W V W2 : World} {B words oops mark : Nat} {ks : List (Nat × Int × Nat × List Int)} {ov : Value} {l : List OS} {o : OS} {g2 cap : Nat} (h : St1 w W B words oops mark ks) (hv : W.heap[B]? = some (.cells #[.int .i64 (words : Int), .int .i64 (oops : Int), .int .i64 (mark : Int), ov] 38 (0, 0))) (hr : SRep W (B + 1) ov l) (hk : l.map osKey = ks)
    (ho : W.ownsRow (B + 1) 33 1 o.v o.slots.length (o.slots.map (Value.int .i64)))
    (hg : (W.alloc (.cells (os4 o).toArray 106)).grownBy W2 ov.ownBlock) (hown : W2.ownsRow (B + 1) 106 4 (.slice (some ⟨g2, 0, none⟩) (l.length + 1) cap) (l.length + 1) (osCells l ++ os4 o))
    (he : Eqw (W2.setCell ⟨B, 3, none⟩ (.slice (some ⟨g2, 0, none⟩) (l.length + 1) cap)) V) : St1 w V B words oops mark (ks ++ [osKey o]) := by
  have hBl := lt_of_heap hv
  have hlo := h.lo
  have hne : ∀ b, ov.ownBlock = some b → B + 1 ≤ b := fun b hb => (hr.row.lt b hb).1
  have hsame : ∀ i, i < W.heap.size → some i ≠ ov.ownBlock → W2.heap[i]? = W.heap[i]? := fun i hi hn => by
    rw [hg.block i (by simp; omega) hn]
    exact Below.heap_alloc _ _ _ hi
  have hlow : ∀ i, i < W.heap.size → i ≤ B → W2.heap[i]? = W.heap[i]? := fun i hi hle => hsame i hi (fun e => by have := hne _ e.symm; omega)
  have hV : ∀ i, i ≠ B → V.heap[i]? = W2.heap[i]? := fun i hi => by rw [he.2.2.2, set_else hi]
  have hg2 : B + 1 ≤ g2 := (hown.lt g2 rfl).1
  have hsl : ∀ x : OS, W.ownsRow (B + 1) 33 1 x.v x.slots.length (x.slots.map (Value.int .i64)) → V.ownsRow (B + 1) 33 1 x.v x.slots.length (x.slots.map (Value.int .i64)) := fun x hx => by
    refine own_congr hx fun g hg3 => ?_
    have hl := hx.lt g hg3
    rw [hV g (by omega)]
    refine hsame g hl.2 (fun e => ?_)
    rcases hx.2 with ⟨q1, _⟩ | ⟨g', cap', cur', q1, q2, q3, _⟩
    · rw [q1] at hg3; simp [Value.ownBlock] at hg3
    · rw [q1] at hg3
      have e1 : g' = g := by simpa [Value.ownBlock] using hg3
      subst e1
      rcases hr.row.2 with ⟨r1, _⟩ | ⟨g'', cap'', cur'', r1, r2, r3, _⟩
      · rw [r1] at e; simp [Value.ownBlock] at e
      · rw [r1] at e
        have e2 : g' = g'' := by simpa [Value.ownBlock] using e
        subst e2
        rw [q3] at r3
        simp at r3
  refine ⟨?_, h.lo, ?_, .slice (some ⟨g2, 0, none⟩) (l.length + 1) cap, l ++ [o], ?_, ⟨?_, ?_⟩, by rw [List.map_append, hk]; rfl⟩
  · have F1 : Fr [] w W2 := by
      refine ⟨hg.os.trans h.fr.os, hg.tape.trans h.fr.tape, hg.output.trans h.fr.output, Nat.le_trans h.fr.size (Nat.le_trans (by simp) hg.size), fun i hi hn => ?_⟩
      have := h.fr.size
      rw [hlow i (by omega) (by omega)]
      exact h.fr.block i hi (by simp)
    have F2 : Fr [] w (W2.setCell ⟨B, 3, none⟩ (.slice (some ⟨g2, 0, none⟩) (l.length + 1) cap)) := F1.trans (Fr.setCell (S := [B]) _ _ _ (by simp)) (fun b hb => by simp at hb; subst hb; right; omega)
    exact F2.trans (he.fr []) (by simp)
  · rw [hV _ (by omega), hlow _ (lt_of_heap h.res) (by omega)]; exact h.res
  · have h4 := hlow B hBl (Nat.le_refl _)
    rw [hv] at h4
    rw [he.2.2.2, set_in h4]
    rfl
  · rw [List.length_append, osCells_append]
    exact own_congr hown fun g hg3 => hV g (by
      have : g = g2 := by simpa [Value.ownBlock] using hg3.symm
      omega)
  · intro x hx
    rcases List.mem_append.1 hx with h1 | h1
    · exact hsl x (hr.slots x h1)
    · have : x = o := by simpa using h1
      rw [this]
      exact hsl o ho
end Go.Proofs.YtklfnjlenbgmoaaDoor
namespace Go.Proofs.YtklfnjlenbgmoaaDoor
open Go.RowKit
set_option linter.unusedVariables false
/-- what lies between a point and a Back: allocations alone -/
structure Behind (H0 : HS) (M0 : MS) (H : HS) (M : MS) : Prop where
  inv : Inv H M
  age : H.age = H0.age
  words : H.words = H0.words
  oops : H.oops = H0.oops
  mark : H.mark = 0
  len : H0.order.length ≤ H.order.length
  old : ∀ j, j < H0.order.length → H.order.getD j 0 = H0.order.getD j 0
  young : ∀ j, H0.order.length ≤ j → j < H.order.length → H.order.getD j 0 ≠ 0
  tl : M0.things.length ≤ M.things.length
  same : ∀ k, (M0.things.getD k noTh).there = true → M.things.getD k noTh = M0.things.getD k noTh
theorem behind_refl {H : HS} {M : MS} (h : Inv H M) (hm : H.mark = 0) : Behind H M H M :=
  ⟨h, rfl, rfl, rfl, hm, Nat.le_refl _, fun _ _ => rfl, fun j h1 h2 => by omega, Nat.le_refl _, fun _ _ => rfl⟩
/-- which of the things are old: those whose turn lies ahead of the point -/
theorem Behind.turnOld {H0 H : HS} {M0 M : MS} (h0 : Inv H0 M0) (h : Behind H0 M0 H M) (k : Nat) (hb : (M.things.getD k noTh).there = true) : (M0.things.getD k noTh).there = true ↔ (H.seats.getD (k + 1) (0, 0, 0)).2.2 < H0.order.length := by
  obtain ⟨u1, u2⟩ := h.inv.turn k (th_in hb) hb
  constructor
  · intro hb0
    obtain ⟨v1, v2⟩ := h0.turn k (th_in hb0) hb0
    have e := h.old _ v1
    rw [v2] at e
    have := (h.inv.order (H0.seats.getD (k + 1) (0, 0, 0)).2.2 (by have := h.len; omega) (by omega)).2.2
    rw [e] at this
    omega
  · intro hlt
    have e := h.old _ hlt
    rw [u2] at e
    have := (h0.order _ hlt (by omega)).2.1
    rw [← e, Nat.add_sub_cancel] at this
    exact this
/-- the young ones go, one by one -/
theorem Behind.backs {H0 H : HS} {M0 M : MS} (h0 : Inv H0 M0) (h : Behind H0 M0 H M) : ∀ j, H0.order.length + j ≤ H.order.length → ∃ X : List Th, InvV (backTo H H0.order.length j) { M with things := X } ∧ X.length = M.things.length ∧
    (∀ k, X.getD k noTh = if (M.things.getD k noTh).there = true ∧ H0.order.length ≤ (H.seats.getD (k + 1) (0, 0, 0)).2.2 ∧ (H.seats.getD (k + 1) (0, 0, 0)).2.2 < H0.order.length + j then gone (M.things.getD k noTh) else M.things.getD k noTh) ∧
    (backTo H H0.order.length j).order.length = H.order.length ∧ (∀ r, r < H0.order.length ∨ H0.order.length + j ≤ r → (backTo H H0.order.length j).order.getD r 0 = H.order.getD r 0) ∧
    (∀ r, H0.order.length ≤ r → r < H0.order.length + j → (backTo H H0.order.length j).order.getD r 0 = 0) ∧
    (backTo H H0.order.length j).words = H.words ∧ (backTo H H0.order.length j).oops = H.oops ∧ (backTo H H0.order.length j).mark = H.mark := by
  intro j
  induction j with
  | zero => intro _; exact ⟨M.things, h.inv.toInvV, rfl, fun k => by rw [if_neg (by omega)], rfl, fun _ _ => rfl, fun r h1 h2 => by omega, rfl, rfl, rfl⟩
  | succ j ih =>
    intro hj
    obtain ⟨X, h1, h2, h3, h4, h5, h6, h7, h8, h9⟩ := ih (by omega)
    have hne := h.young (H0.order.length + j) (by omega) (by omega)
    have ho := h5 (H0.order.length + j) (.inr (Nat.le_refl _))
    obtain ⟨u1, u2, u3⟩ := h.inv.order (H0.order.length + j) (by omega) hne
    obtain ⟨o1, o2, o3⟩ := h1.order (H0.order.length + j) (by omega) (by rw [ho]; exact hne)
    rw [ho] at o1 o2 o3
    obtain ⟨i0, hi0⟩ : ∃ i0, H.order.getD (H0.order.length + j) 0 = i0 + 1 := ⟨H.order.getD (H0.order.length + j) 0 - 1, by omega⟩
    rw [hi0] at u1 u2 u3 o1 o2 o3
    rw [Nat.add_sub_cancel] at u2 o2
    have hlt : i0 < X.length := o1
    have hvac := h1.vac i0 hlt o2
    have hg := fun i => getD_set X i0 i (gone (X.getD i0 noTh)) hlt
    have e : backTo H H0.order.length (j + 1) = vacH (backTo H H0.order.length j) (i0 + 1) := by
      show vacH (backTo H H0.order.length j) (H.order.getD (H0.order.length + j) 0) = _
      rw [hi0]
    rw [e]
    have hord : ∀ r, (vacH (backTo H H0.order.length j) (i0 + 1)).order.getD r 0 = if r = H0.order.length + j then 0 else (backTo H H0.order.length j).order.getD r 0 := fun r => by
      show ((backTo H H0.order.length j).order.set ((backTo H H0.order.length j).seats.getD (i0 + 1) (0, 0, 0)).2.2 0).getD r 0 = _
      rw [o3, getD_nat _ _ _ _ (by omega)]
    refine ⟨X.set i0 (gone (X.getD i0 noTh)), hvac, by rw [List.length_set]; exact h2, fun k => ?_, ?_, fun r hr => ?_, fun r r1 r2 => ?_, h7, h8, h9⟩
    · have hXi : X.getD i0 noTh = M.things.getD i0 noTh := by rw [h3 i0, if_neg (fun hh => by omega)]
      have hat : ∀ k, (M.things.getD k noTh).there = true → (H.seats.getD (k + 1) (0, 0, 0)).2.2 = H0.order.length + j → k = i0 := fun k hb e => by
        have := (h.inv.turn k (th_in hb) hb).2
        rw [e, hi0] at this
        omega
      rw [hg]
      by_cases e2 : k = i0
      · rw [if_pos e2, hXi, e2, if_pos ⟨u2, by omega, by omega⟩]
      · rw [if_neg e2, h3 k]
        have hiff : ((M.things.getD k noTh).there = true ∧ H0.order.length ≤ (H.seats.getD (k + 1) (0, 0, 0)).2.2 ∧ (H.seats.getD (k + 1) (0, 0, 0)).2.2 < H0.order.length + j) ↔ ((M.things.getD k noTh).there = true ∧ H0.order.length ≤ (H.seats.getD (k + 1) (0, 0, 0)).2.2 ∧ (H.seats.getD (k + 1) (0, 0, 0)).2.2 < H0.order.length + (j + 1)) := by
          refine ⟨fun q => ⟨q.1, q.2.1, by omega⟩, fun q => ⟨q.1, q.2.1, ?_⟩⟩
          by_cases e3 : (H.seats.getD (k + 1) (0, 0, 0)).2.2 = H0.order.length + j
          · exact absurd (hat k q.1 e3) e2
          · have := q.2.2; omega
        simp only [hiff]
    · show ((backTo H H0.order.length j).order.set _ 0).length = _; rw [List.length_set]; exact h4
    · rw [hord, if_neg (by omega)]; exact h5 r (by omega)
    · rw [hord]
      by_cases e3 : r = H0.order.length + j
      · rw [if_pos e3]
      · rw [if_neg e3]; exact h6 r r1 (by omega)
theorem Behind.backOk {H0 H : HS} {M0 M : MS} (h0 : Inv H0 M0) (h : Behind H0 M0 H M) (hage : (H.age : Int) ≤ 1000000000) : BackOk H H0.order.length where
  t := h.len
  vac := fun j hj => by
    obtain ⟨X, h1, h2, h3, h4, h5, h6, h7, h8, h9⟩ := h.backs h0 j (by omega)
    have hne := h.young (H0.order.length + j) (by omega) hj
    have ho := h5 (H0.order.length + j) (.inr (Nat.le_refl _))
    obtain ⟨o1, o2, o3⟩ := h1.order (H0.order.length + j) (by omega) (by rw [ho]; exact hne)
    rw [ho] at o1 o2 o3
    obtain ⟨i0, hi0⟩ : ∃ i0, H.order.getD (H0.order.length + j) 0 = i0 + 1 := ⟨H.order.getD (H0.order.length + j) 0 - 1, by omega⟩
    rw [hi0] at o1 o2 ho ⊢
    rw [Nat.add_sub_cancel] at o2
    exact ⟨h1.vacOk i0 o1 o2, ho, h4⟩
  r1 := by have := h.inv.safe.order; omega
  a1 := hage
/-- two models of which one has things more that are not there -/
structure Agree (M M0 : MS) : Prop where
  words : M.words = M0.words
  oops : M.oops = M0.oops
  mark : M.mark = M0.mark
  len : M0.things.length ≤ M.things.length
  there : ∀ k, (M.things.getD k noTh).there = (M0.things.getD k noTh).there
  same : ∀ k, (M0.things.getD k noTh).there = true → M.things.getD k noTh = M0.things.getD k noTh
theorem thereTo_out (S : List Th) (k : Nat) (hk : S.length ≤ k) : thereTo S k = thereTo S S.length := by
  unfold thereTo
  rw [List.take_of_length_le hk, List.take_length]
theorem Agree.thereTo {M M0 : MS} (h : Agree M M0) : ∀ k, k ≤ M.things.length → thereTo M.things k = Go.Proofs.YtklfnjlenbgmoaaDoor.thereTo M0.things k := by
  intro k
  induction k with
  | zero => intro _; rfl
  | succ k ih =>
    intro hk
    have hl := h.len
    by_cases e : k < M0.things.length
    · rw [thereTo_succ _ _ (by omega), thereTo_succ _ _ e, ih (by omega), h.there k]
    · have hf : (M.things.getD k noTh).there = false := by
        rw [h.there k, List.getD_eq_getElem?_getD, List.getElem?_eq_none (by omega)]
        rfl
      rw [thereTo_succ _ _ (by omega), ih (by omega), hf, thereTo_out M0.things k (by omega), thereTo_out M0.things (k + 1) (by omega)]
      simp
theorem Agree.thereAll {M M0 : MS} (h : Agree M M0) : Go.Proofs.YtklfnjlenbgmoaaDoor.thereTo M.things M.things.length = Go.Proofs.YtklfnjlenbgmoaaDoor.thereTo M0.things M0.things.length := by
  rw [h.thereTo _ (Nat.le_refl _), thereTo_out M0.things _ h.len]
theorem Agree.endAll {M M0 : MS} (h : Agree M M0) : endTo M.things M.things.length = endTo M0.things M0.things.length := by
  have hmax : ∀ (S : List Th) (k : Nat), k ≤ S.length → (∀ j, j < k → (S.getD j noTh).there = true → (S.getD j noTh).place + lenN (S.getD j noTh).slots.length (S.getD j noTh).fmt ≤ endTo S k) ∧ (endTo S k = 0 ∨ ∃ j, j < k ∧ (S.getD j noTh).there = true ∧ (S.getD j noTh).place + lenN (S.getD j noTh).slots.length (S.getD j noTh).fmt = endTo S k) := by
    intro S k
    induction k with
    | zero => intro _; exact ⟨fun j hj => by omega, .inl rfl⟩
    | succ k ih =>
      intro hk
      obtain ⟨a1, a2⟩ := ih (by omega)
      rw [endTo_succ]
      split
      · rename_i hc
        refine ⟨fun j hj hb => ?_, .inr ⟨k, by omega, hc.1, rfl⟩⟩
        by_cases e : j = k
        · rw [e]; exact Nat.le_refl _
        · have := a1 j (by omega) hb; omega
      · rename_i hc
        refine ⟨fun j hj hb => ?_, ?_⟩
        · by_cases e : j = k
          · rw [e] at hb ⊢
            by_cases hx : endTo S k < (S.getD k noTh).place + lenN (S.getD k noTh).slots.length (S.getD k noTh).fmt
            · exact absurd ⟨hb, hx⟩ hc
            · omega
          · exact a1 j (by omega) hb
        · rcases a2 with a2 | ⟨j, j1, j2, j3⟩
          · exact .inl a2
          · exact .inr ⟨j, by omega, j2, j3⟩
  obtain ⟨a1, a2⟩ := hmax M0.things M0.things.length (Nat.le_refl _)
  refine endTo_is M.things _ _ (fun j hj hb => ?_) ?_
  · have hb0 : (M0.things.getD j noTh).there = true := by rw [← h.there j]; exact hb
    rw [h.same j hb0]
    exact a1 j (th_in hb0) hb0
  · rcases a2 with a2 | ⟨j, j1, j2, j3⟩
    · exact .inl a2
    · exact .inr ⟨j, by have := h.len; omega, by rw [h.there j]; exact j2, by rw [h.same j j2]; exact j3⟩
theorem Agree.low {M M0 : MS} (h : Agree M M0) : lowTo M.things = lowTo M0.things := by
  obtain ⟨f1, f2⟩ := lowTo_free M0.things
  obtain ⟨g1, g2⟩ := lowTo_free M.things
  have p0 : 1 ≤ lowTo M0.things := by unfold lowTo; omega
  have p1 : 1 ≤ lowTo M.things := by unfold lowTo; omega
  rcases Nat.lt_trichotomy (lowTo M.things) (lowTo M0.things) with e | e | e
  · have := f2 (lowTo M.things - 1) (by omega)
    rw [← h.there, g1] at this
    cases this
  · exact e
  · have := g2 (lowTo M0.things - 1) (by omega)
    rw [h.there, f1] at this
    cases this
/-- what the heap says of the one it says of the other -/
theorem Agree.told {H : HS} {M M0 : MS} (h : Agree M M0) (ht : Told H M) : Told H M0 where
  small := ht.small
  words := ht.words.trans h.words
  oops := ht.oops.trans h.oops
  mark := ht.mark.trans h.mark
  fin := by rw [ht.fin, h.endAll]
  cnt := by rw [ht.cnt, h.thereAll]
  is := fun k hk hb => by rw [← h.same k hb]; exact ht.is k (by have := h.len; omega) (by rw [h.there]; exact hb)
  none := fun k hk hb => ht.none k (by have := h.len; omega) (by rw [h.there]; exact hb)
  all := fun k hk hb => by rw [← h.thereTo k (by have := h.len; omega)]; exact ht.all k (by have := h.len; omega) (by rw [h.there]; exact hb)
  allLen := by rw [ht.allLen, h.thereAll]
  seats := ht.seats
/-- behind a Back all is as it was at the point -/
theorem Behind.back {H0 H : HS} {M0 M : MS} (h0 : Inv H0 M0) (hm0 : H0.mark = 0) (h : Behind H0 M0 H M) : ∃ t e0 M2, DrawOk (backTo H H0.order.length (H.order.length - H0.order.length)) t e0 ∧ Inv { drawH (backTo H H0.order.length (H.order.length - H0.order.length)) t e0 with age := H.age + 1 } M2 ∧ Agree M2 M0 ∧
    stKeys (drawH (backTo H H0.order.length (H.order.length - H0.order.length)) t e0) M2.things (drawH (backTo H H0.order.length (H.order.length - H0.order.length)) t e0).order.length = stKeys H0 M0.things H0.order.length ∧
    (drawH (backTo H H0.order.length (H.order.length - H0.order.length)) t e0).words = H0.words ∧ (drawH (backTo H H0.order.length (H.order.length - H0.order.length)) t e0).oops = H0.oops ∧ (drawH (backTo H H0.order.length (H.order.length - H0.order.length)) t e0).mark = 0 := by
  have hlen := h.len
  obtain ⟨X, h1, h2, h3, h4, h5, h6, h7, h8, h9⟩ := h.backs h0 (H.order.length - H0.order.length) (by omega)
  obtain ⟨t, e0, hd, hinv⟩ := h1.draw
  have hXt : ∀ k, (X.getD k noTh).there = (M0.things.getD k noTh).there ∧ ((M0.things.getD k noTh).there = true → X.getD k noTh = M0.things.getD k noTh) := fun k => by
    rw [h3 k]
    cases hb : (M.things.getD k noTh).there with
    | false =>
      rw [if_neg (fun hc => by cases hc.1), hb]
      cases hb0 : (M0.things.getD k noTh).there with
      | false => exact ⟨rfl, fun hc => by cases hc⟩
      | true =>
        have := h.same k hb0
        rw [this, hb0] at hb
        cases hb
    | true =>
      have hiff := h.turnOld h0 k hb
      have hu := (h.inv.turn k (th_in hb) hb).1
      cases hb0 : (M0.things.getD k noTh).there with
      | true =>
        have := hiff.1 hb0
        rw [if_neg (fun hc => by omega), h.same k hb0]
        exact ⟨hb0, fun _ => rfl⟩
      | false =>
        have : ¬ (H.seats.getD (k + 1) (0, 0, 0)).2.2 < H0.order.length := fun hc => by
          have := hiff.2 hc
          rw [hb0] at this
          cases this
        rw [if_pos ⟨rfl, by omega, by omega⟩]
        exact ⟨rfl, fun hc => by cases hc⟩
  have hag : Agree { M with things := X } M0 := by
    refine ⟨?_, ?_, ?_, ?_, fun k => (hXt k).1, fun k hb => (hXt k).2 hb⟩
    · show M.words = M0.words; rw [← h.inv.words, h.words, h0.words]
    · show M.oops = M0.oops; rw [← h.inv.oops, h.oops, h0.oops]
    · show M.mark = M0.mark; rw [← h.inv.mark, h.mark, ← h0.mark, hm0]
    · show M0.things.length ≤ X.length; rw [h2]; exact h.tl
  have htT : t = H0.order.length := by
    have ht1 := hd.t1
    rcases Nat.lt_trichotomy t H0.order.length with e | e | e
    · exfalso
      have hz := hd.t2 (H0.order.length - 1) (by omega) (by omega)
      rw [h5 _ (.inl (by omega)), h.old _ (by omega)] at hz
      exact h0.last (H0.order.length - 1) (by omega) hz
    · exact e
    · exfalso
      have := (hd.t3 (by omega)).1
      exact this (h6 (t - 1) (by omega) (by omega))
  have hord : (drawH (backTo H H0.order.length (H.order.length - H0.order.length)) t e0).order = H0.order := by
    show (backTo H H0.order.length (H.order.length - H0.order.length)).order.take t = H0.order
    rw [htT]
    apply List.ext_getElem?
    intro r
    rw [List.getElem?_take]
    by_cases hr : r < H0.order.length
    · rw [if_pos hr]
      have e1 := h5 r (.inl hr)
      rw [h.old r hr] at e1
      rw [List.getD_eq_getElem?_getD, List.getD_eq_getElem?_getD, List.getElem?_eq_getElem (by omega), List.getElem?_eq_getElem hr] at e1
      rw [List.getElem?_eq_getElem (by omega), List.getElem?_eq_getElem hr]
      exact congrArg some e1
    · rw [if_neg hr, List.getElem?_eq_none (by omega)]
  refine ⟨t, e0, { M with things := X }, hd, hinv.aged _, hag, ?_, ?_, ?_, ?_⟩
  · unfold stKeys
    rw [hord, List.take_length]
    apply List.map_congr_left
    intro o ho
    obtain ⟨ho1, ho2⟩ := List.mem_filter.1 ho
    obtain ⟨r, hr, hro⟩ := List.getElem_of_mem ho1
    have hne : o ≠ 0 := by simpa using ho2
    have hg : H0.order.getD r 0 = o := by rw [List.getD_eq_getElem?_getD, List.getElem?_eq_getElem hr, hro]; rfl
    have hb := (h0.order r hr (by rw [hg]; exact hne)).2.1
    rw [hg] at hb
    show (o, (X.getD (o - 1) noTh).cls, (X.getD (o - 1) noTh).fmt, (X.getD (o - 1) noTh).slots) = _
    rw [(hXt (o - 1)).2 hb]
  · show (backTo H H0.order.length (H.order.length - H0.order.length)).words = _; rw [h7]; exact h.words
  · show (backTo H H0.order.length (H.order.length - H0.order.length)).oops = _; rw [h8]; exact h.oops
  · show (backTo H H0.order.length (H.order.length - H0.order.length)).mark = _; rw [h9]; exact h.mark
end Go.Proofs.YtklfnjlenbgmoaaDoor
