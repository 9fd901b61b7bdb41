import Derived.Test.YtklfnjlenbgmoaaDoorPG14HObj
import Derived.Deep.DeepCutAuto
import Derived.Test.YtklfnjlenbgmoaaDoorPG13HAg1
import Derived.Test.YtklfnjlenbgmoaaDoorPG10HInvA
import Derived.Laws.AppendOwnNone
import Derived.Lib.AppendZeros
set_option linter.unusedVariables false
namespace Go.Proofs.YtklfnjlenbgmoaaDoor
open Go.RowKit
attribute [local go_sem ↓] Go.wp_at_zero Go.wp_at_succ
structure OS where
 oop : Nat
 cls : Int
 fmt : Nat
 slots : List Int
 v : Value
def os4 (o : OS) : List Value := [.int .i64 (o.oop : Int), .int .i64 o.cls, .int .i64 (o.fmt : Int), o.v]
def osCells (l : List OS) : List Value := l.flatMap os4
def osKey (o : OS) : Nat × Int × Nat × List Int := (o.oop, o.cls, o.fmt, o.slots)
structure SRep (w : World) (base : Nat) (ov : Value) (l : List OS) : Prop where
 row : w.ownsRow base 106 4 ov l.length (osCells l)
 slots : ∀ o ∈ l, w.ownsRow base 33 1 o.v o.slots.length (o.slots.map (Value.int .i64))
theorem SRep.idle {w w' : World} {base : Nat} {ov : Value} {l : List OS} (h : SRep w base ov l) (hf : Fr [] w w') : SRep w' base ov l :=
 ⟨own_congr h.row fun g hg => hf.block g (h.row.lt g hg).2 (by simp), fun o ho => own_congr (h.slots o ho) fun g hg => hf.block g ((h.slots o ho).lt g hg).2 (by simp)⟩
def stKeys (H : HS) (S : List Th) (j : Nat) : List (Nat × Int × Nat × List Int) := ((H.order.take j).filter (fun o => o != 0)).map fun o => (o, (S.getD (o - 1) noTh).cls, (S.getD (o - 1) noTh).fmt, (S.getD (o - 1) noTh).slots)
theorem stKeys_zero (H : HS) (S : List Th) (j : Nat) (hj : j < H.order.length) (h0 : H.order.getD j 0 = 0) : stKeys H S (j + 1) = stKeys H S j := by
 unfold stKeys
 rw [List.getD_eq_getElem?_getD, List.getElem?_eq_getElem hj] at h0
 have h0' : H.order[j] = 0 := h0
 rw [List.take_succ_eq_append_getElem hj, List.filter_append, h0']
 simp
theorem stKeys_one (H : HS) (S : List Th) (j o : Nat) (hj : j < H.order.length) (h0 : H.order.getD j 0 = o) (hn : o ≠ 0) : stKeys H S (j + 1) = stKeys H S j ++ [(o, (S.getD (o - 1) noTh).cls, (S.getD (o - 1) noTh).fmt, (S.getD (o - 1) noTh).slots)] := by
 unfold stKeys
 rw [List.getD_eq_getElem?_getD, List.getElem?_eq_getElem hj] at h0
 have h0' : H.order[j] = o := h0
 rw [List.take_succ_eq_append_getElem hj, List.filter_append, h0', List.map_append]
 simp [hn]
structure St1 (w W : World) (B words oops mark : Nat) (ks : List (Nat × Int × Nat × List Int)) : Prop where
 fr : Fr [] w W
 lo : w.heap.size + 1 ≤ B
 res : W.heap[w.heap.size]? = some (.cells #[.int .i64 0, .int .i64 0, .int .i64 0, .slice none 0 0] 38 (0, 0))
 at_ : ∃ ov l, W.heap[B]? = some (.cells #[.int .i64 (words : Int), .int .i64 (oops : Int), .int .i64 (mark : Int), ov] 38 (0, 0)) ∧ SRep W (B + 1) ov l ∧ l.map osKey = ks
theorem St1.idle {w W W' : World} {B words oops mark : Nat} {ks : List (Nat × Int × Nat × List Int)} (h : St1 w W B words oops mark ks) (hf : Fr [] W W') : St1 w W' B words oops mark ks := by
 obtain ⟨ov, l, h1, h2, h3⟩ := h.at_
 exact ⟨h.fr.trans hf (by simp), h.lo, (hf.block _ (lt_of_heap h.res) (by simp)).trans h.res, ov, l, (hf.block _ (lt_of_heap h1) (by simp)).trans h1, h2.idle hf, h3⟩
theorem osCells_append (l : List OS) (o : OS) : osCells (l ++ [o]) = osCells l ++ os4 o := by simp [osCells]
theorem St1.next {w W V W2 : World} {B words oops mark : Nat} {ks : List (Nat × Int × Nat × List Int)} {ov : Value} {l : List OS} {o : OS} {g2 cap : Nat} (h : St1 w W B words oops mark ks) (hv : W.heap[B]? = some (.cells #[.int .i64 (words : Int), .int .i64 (oops : Int), .int .i64 (mark : Int), ov] 38 (0, 0))) (hr : SRep W (B + 1) ov l) (hk : l.map osKey = ks)
  (ho : W.ownsRow (B + 1) 33 1 o.v o.slots.length (o.slots.map (Value.int .i64)))
  (hg : (W.alloc (.cells (os4 o).toArray 106)).grownBy W2 ov.ownBlock) (hown : W2.ownsRow (B + 1) 106 4 (.slice (some ⟨g2, 0, none⟩) (l.length + 1) cap) (l.length + 1) (osCells l ++ os4 o))
  (he : Eqw (W2.setCell ⟨B, 3, none⟩ (.slice (some ⟨g2, 0, none⟩) (l.length + 1) cap)) V) : St1 w V B words oops mark (ks ++ [osKey o]) := by
 have hBl := lt_of_heap hv
 have hlo := h.lo
 have hne : ∀ b, ov.ownBlock = some b → B + 1 ≤ b := fun b hb => (hr.row.lt b hb).1
 have hsame : ∀ i, i < W.heap.size → some i ≠ ov.ownBlock → W2.heap[i]? = W.heap[i]? := fun i hi hn => by
  rw [hg.block i (by simp; omega) hn]
  exact Below.heap_alloc _ _ _ hi
 have hlow : ∀ i, i < W.heap.size → i ≤ B → W2.heap[i]? = W.heap[i]? := fun i hi hle => hsame i hi (fun e => by have := hne _ e.symm; omega)
 have hV : ∀ i, i ≠ B → V.heap[i]? = W2.heap[i]? := fun i hi => by rw [he.2.2.2, set_else hi]
 have hg2 : B + 1 ≤ g2 := (hown.lt g2 rfl).1
 have hsl : ∀ x : OS, W.ownsRow (B + 1) 33 1 x.v x.slots.length (x.slots.map (Value.int .i64)) → V.ownsRow (B + 1) 33 1 x.v x.slots.length (x.slots.map (Value.int .i64)) := fun x hx => by
  refine own_congr hx fun g hg3 => ?_
  have hl := hx.lt g hg3
  rw [hV g (by omega)]
  refine hsame g hl.2 (fun e => ?_)
  rcases hx.2 with ⟨q1, _⟩ | ⟨g', cap', cur', q1, q2, q3, _⟩
  ·rw [q1] at hg3; simp [Value.ownBlock] at hg3
  ·rw [q1] at hg3
   have e1 : g' = g := by simpa [Value.ownBlock] using hg3
   subst e1
   rcases hr.row.2 with ⟨r1, _⟩ | ⟨g'', cap'', cur'', r1, r2, r3, _⟩
   ·rw [r1] at e; simp [Value.ownBlock] at e
   ·rw [r1] at e
    have e2 : g' = g'' := by simpa [Value.ownBlock] using e
    subst e2
    rw [q3] at r3
    simp at r3
 refine ⟨?_, h.lo, ?_, .slice (some ⟨g2, 0, none⟩) (l.length + 1) cap, l ++ [o], ?_, ⟨?_, ?_⟩, by rw [List.map_append, hk]; rfl⟩
 ·have F1 : Fr [] w W2 := by
   refine ⟨hg.os.trans h.fr.os, hg.tape.trans h.fr.tape, hg.output.trans h.fr.output, Nat.le_trans h.fr.size (Nat.le_trans (by simp) hg.size), fun i hi hn => ?_⟩
   have := h.fr.size
   rw [hlow i (by omega) (by omega)]
   exact h.fr.block i hi (by simp)
  have F2 : Fr [] w (W2.setCell ⟨B, 3, none⟩ (.slice (some ⟨g2, 0, none⟩) (l.length + 1) cap)) := F1.trans (Fr.setCell (S := [B]) _ _ _ (by simp)) (fun b hb => by simp at hb; subst hb; right; omega)
  exact F2.trans (he.fr []) (by simp)
 ·rw [hV _ (by omega), hlow _ (lt_of_heap h.res) (by omega)]; exact h.res
 ·have h4 := hlow B hBl (Nat.le_refl _)
  rw [hv] at h4
  rw [he.2.2.2, set_in h4]
  rfl
 ·rw [List.length_append, osCells_append]
  exact own_congr hown fun g hg3 => hV g (by
   have : g = g2 := by simpa [Value.ownBlock] using hg3.symm
   omega)
 ·intro x hx
  rcases List.mem_append.1 hx with h1 | h1
  ·exact hsl x (hr.slots x h1)
  ·have : x = o := by simpa using h1
   rw [this]
   exact hsl o ho
end Go.Proofs.YtklfnjlenbgmoaaDoor
namespace Go.Proofs.YtklfnjlenbgmoaaDoor
open Go.RowKit
def putAt (S : List Th) (q : Nat) (t : Th) : List Th := if q < S.length then S.set q t else S ++ (List.replicate (q - S.length) noTh ++ [t])
theorem putAt_get (S : List Th) (q i : Nat) (t : Th) : (putAt S q t).getD i noTh = if i = q then t else S.getD i noTh := by
 unfold putAt
 split
 ·rename_i h; exact getD_set S q i t h
 ·rename_i h
  rw [List.getD_eq_getElem?_getD, List.getD_eq_getElem?_getD]
  by_cases h1 : i < S.length
  ·rw [List.getElem?_append_left h1, if_neg (by omega)]
  ·rw [List.getElem?_append_right (by omega), List.getElem?_eq_none (l := S) (by omega)]
   by_cases h2 : i < q
   ·rw [List.getElem?_append_left (by simp; omega), List.getElem?_replicate, if_pos (by omega), if_neg (by omega)]; rfl
   ·rw [List.getElem?_append_right (by simp; omega), List.length_replicate]
    by_cases h3 : i = q
    ·rw [if_pos h3, show i - S.length - (q - S.length) = 0 from by omega]; rfl
    ·rw [if_neg h3, List.getElem?_eq_none (by simp; omega)]
theorem putAt_length (S : List Th) (q : Nat) (t : Th) : (putAt S q t).length = max S.length (q + 1) := by
 unfold putAt
 split
 ·rw [List.length_set]; omega
 ·simp; omega
theorem thereTo_putAt (S : List Th) (q : Nat) (t : Th) (hf : (S.getD q noTh).there = false) (ht : t.there = true) : thereTo (putAt S q t) (putAt S q t).length = thereTo S S.length + 1 := by
 by_cases h : q < S.length
 ·have := thereTo_put S q t (by omega) hf ht
  unfold putTh at this
  unfold putAt
  rw [if_pos h] at this ⊢
  exact this
 ·unfold putAt
  rw [if_neg h]
  unfold thereTo
  rw [List.take_length, List.take_length, List.filter_append, List.filter_append]
  simp [ht, noTh]
theorem Inv.layAt {H : HS} {M : MS} (h : Inv H M) (q : Nat) (hq0 : q < M.oops) (hqf : (M.things.getD q noTh).there = false) (cl : Int) (n f : Nat) (p pt : Option Addr) (c ct : Nat) (hf : f ≤ 1) (hn : n ≤ 8192) (hr1 : H.count < H.oops) (hr2 : H.mem.length + lenN n f ≤ H.words) :
  Inv (layH H (q + 1) cl n f) { M with things := putAt M.things q ⟨true, cl, f, endTo M.things M.things.length, List.replicate n (newX f), p, c⟩, pt := pt, ct := ct } := by
 have hfree : (M.things.getD q noTh).there = false ∧ True := ⟨hqf, trivial⟩
 rw [← h.fin]
 generalize ht : (⟨true, cl, f, H.mem.length, List.replicate n (newX f), p, c⟩ : Th) = t
 have t1 : t.there = true := by rw [← ht]
 have t2 : t.cls = cl := by rw [← ht]
 have t3 : t.fmt = f := by rw [← ht]
 have t4 : t.place = H.mem.length := by rw [← ht]
 have t5 : t.slots = List.replicate n (newX f) := by rw [← ht]
 have t6 : t.slots.length = n := by rw [t5]; simp
 have hg := fun i => putAt_get M.things q i t
 have hgl := putAt_length M.things q t
 have hS : ∀ i, (layH H (q + 1) cl n f).seats.getD i (0, 0, 0) = if i = q + 1 then (H.mem.length, lenN n f, H.order.length) else H.seats.getD i (0, 0, 0) := fun i => laySeat H.seats (q + 1) i _
 have hSl : (layH H (q + 1) cl n f).seats.length = max H.seats.length (q + 2) := by
  show ((padSeats H.seats (q + 1 + 1)).set (q + 1) _).length = _
  unfold padSeats
  simp
  omega
 have hM : (layH H (q + 1) cl n f).mem = H.mem ++ objCells cl n f := rfl
 have hMl : (H.mem ++ objCells cl n f).length = H.mem.length + lenN n f := by rw [List.length_append, objCells_len cl n f hf]
 have hO : (layH H (q + 1) cl n f).order = H.order ++ [q + 1] := rfl
 have hOg : ∀ j, (H.order ++ [q + 1]).getD j 0 = if j = H.order.length then q + 1 else H.order.getD j 0 := fun j => by
  rw [List.getD_eq_getElem?_getD, List.getD_eq_getElem?_getD]
  by_cases e : j = H.order.length
  ·rw [if_pos e, e, List.getElem?_append_right (Nat.le_refl _)]; simp
  ·rw [if_neg e]
   by_cases hl : j < H.order.length
   ·rw [List.getElem?_append_left hl]
   ·rw [List.getElem?_eq_none (by simp; omega), List.getElem?_eq_none (by omega)]
 have hL := h.len
 have hsm := h.safe.small
 have ho := hsm.oops
 have hw := hsm.words
 have hshort := h.short
 have hl2 := lenN_two n f
 have hmost := h.most
 have hoo := h.oops
 have hend : ∀ i, i < M.things.length → (M.things.getD i noTh).there = true → (M.things.getD i noTh).place + lenN (M.things.getD i noTh).slots.length (M.things.getD i noTh).fmt ≤ H.mem.length := fun i h1 h2 => by rw [h.fin]; exact endTo_ge M.things _ i h1 h2
 exact {
  safe := ⟨⟨hw, ho, by rw [hM, hMl]; show ((H.mem.length + lenN n f : Nat) : Int) ≤ (H.words : Int); omega, by show ((H.count + 1 : Nat) : Int) ≤ (H.oops : Int); omega, hsm.mark⟩,
   by show H.low ≤ (addBits H.bits (q + 1)).length; rw [addBits_len]; have := h.safe.low; omega,
   by show ((addBits H.bits (q + 1)).length : Int) ≤ 1024; rw [addBits_len]; have := h.safe.bl; omega,
   fun i => addBits_le H.bits (q + 1) h.safe.bits i, by rw [hSl]; have := h.safe.seats; omega,
   by rw [hO]; simp only [List.length_append, List.length_singleton]; omega⟩
  words := h.words
  oops := h.oops
  mark := h.mark
  len := by
   rw [hSl]
   show max H.seats.length (q + 2) ≤ (putAt M.things q t).length + 1
   rw [hgl]
   omega
  seat0 := by rw [hS, if_neg (by omega)]; exact h.seat0
  there := fun i hi => by
   show (((putAt M.things q t).getD i noTh).there = true ↔ _)
   rw [hg i, hS (i + 1)]
   by_cases e : i = q
   ·rw [if_pos e, if_pos (by omega)]; simp only [t1, true_iff]; show lenN n f ≠ 0; omega
   ·rw [if_neg e, if_neg (by omega)]
    by_cases hil : i < M.things.length
    ·exact h.there i hil
    ·have e1 : M.things.getD i noTh = noTh := by rw [List.getD_eq_getElem?_getD, List.getElem?_eq_none (by omega)]; rfl
     have e2 : H.seats.getD (i + 1) (0, 0, 0) = (0, 0, 0) := by
      rw [List.getD_eq_getElem?_getD, List.getElem?_eq_none (by omega)]; rfl
     rw [e1, e2]
     simp [noTh]
  seat := fun i hi hb => by
   have hb2 : ((putAt M.things q t).getD i noTh).there = true := hb
   show _ = ((putAt M.things q t).getD i noTh).place ∧ _ = lenN ((putAt M.things q t).getD i noTh).slots.length ((putAt M.things q t).getD i noTh).fmt
   rw [hg i] at hb2 ⊢
   rw [hS (i + 1)]
   by_cases e : i = q
   ·rw [if_pos e, if_pos (by omega), t4, t6, t3]; exact ⟨rfl, rfl⟩
   ·rw [if_neg e] at hb2 ⊢; rw [if_neg (by omega)]; exact h.seat i (th_in hb2) hb2
  is := fun i hi hb => by
   have hb2 : ((putAt M.things q t).getD i noTh).there = true := hb
   show Is _ (i + 1) ((putAt M.things q t).getD i noTh)
   rw [hg i] at hb2 ⊢
   by_cases e : i = q
   ·rw [if_pos e, e]; exact is_laid _ q cl n f t hf hn t2 t3 t5
   ·rw [if_neg e] at hb2 ⊢
    have hi2 := th_in hb2
    have hI := h.is i hi2 hb2
    have hr := hI.room
    refine hI.same (by rw [hS, if_neg (by omega)]) (by rw [hSl]; have := (has_yes hI.has).2.1; omega) (by rw [hM, hMl]; omega) (fun x h1 h2 => by rw [hM]; exact getD_left _ _ x (by omega))
  count := by show H.count + 1 = thereTo (putAt M.things q t) (putAt M.things q t).length; rw [thereTo_putAt M.things q t hqf t1, h.count]
  fin := by
   rw [hM, hMl]
   show _ = endTo (putAt M.things q t) (putAt M.things q t).length
   refine (endTo_is _ _ _ (fun j hj hb => ?_) (.inr ⟨q, by omega, by rw [hg, if_pos rfl]; exact t1, by rw [hg, if_pos rfl, t4, t6, t3]⟩)).symm
   rw [hg j] at hb ⊢
   by_cases e : j = q
   ·rw [if_pos e, t4, t6, t3]; exact Nat.le_refl _
   ·rw [if_neg e] at hb ⊢
    have := hend j (th_in hb) hb
    omega
  turn := fun i hi hb => by
   have hb2 : ((putAt M.things q t).getD i noTh).there = true := hb
   rw [hg i] at hb2
   rw [hS (i + 1), hO, hOg]
   by_cases e : i = q
   ·rw [if_pos (by omega)]; simp; omega
   ·rw [if_neg e] at hb2
    rw [if_neg (by omega)]
    have := h.turn i (th_in hb2) hb2
    rw [if_neg (by omega)]
    exact ⟨by rw [List.length_append, List.length_singleton]; omega, this.2⟩
  order := fun j hj hne => by
   rw [hO] at hj hne ⊢
   show _ ≤ (putAt M.things q t).length ∧ ((putAt M.things q t).getD _ noTh).there = true ∧ _
   rw [hOg] at hne ⊢
   by_cases e : j = H.order.length
   ·rw [if_pos e, hS, if_pos rfl, hg, if_pos (by omega)]
    exact ⟨by omega, t1, e.symm⟩
   ·rw [if_neg e] at hne ⊢
    simp at hj
    obtain ⟨o1, o2, o3⟩ := h.order j (by omega) hne
    have hne2 : H.order.getD j 0 ≠ q + 1 := fun e2 => by
     rw [e2, Nat.add_sub_cancel, hfree.1] at o2
     simp at o2
    rw [hS, if_neg hne2, hg, if_neg (by omega)]
    exact ⟨by omega, o2, o3⟩
  rise := fun i j hij hj hi0 hj0 => by
   rw [hO] at hj hi0 hj0 ⊢
   rw [hOg] at hi0 hj0 ⊢
   rw [hOg j]
   simp at hj
   rw [if_neg (by omega)] at hi0 ⊢
   obtain ⟨o1, o2, o3⟩ := h.order i (by omega) hi0
   have hne2 : H.order.getD i 0 ≠ q + 1 := fun e2 => by
    rw [e2, Nat.add_sub_cancel, hfree.1] at o2
    simp at o2
   rw [hS, if_neg hne2, hS]
   by_cases e : j = H.order.length
   ·rw [if_pos e, if_pos rfl]
    have hI := h.seat (H.order.getD i 0 - 1) (by omega) o2
    have := hend (H.order.getD i 0 - 1) (by omega) o2
    rw [show H.order.getD i 0 - 1 + 1 = H.order.getD i 0 from by omega] at hI
    show _ ≤ H.mem.length
    omega
   ·rw [if_neg e] at hj0 ⊢
    obtain ⟨p1, p2, p3⟩ := h.order j (by omega) hj0
    have hne3 : H.order.getD j 0 ≠ q + 1 := fun e2 => by
     rw [e2, Nat.add_sub_cancel, hfree.1] at p2
     simp at p2
    rw [if_neg hne3]
    exact h.rise i j hij (by omega) hi0 hj0
  last := fun j hj => by
   rw [hO] at hj ⊢
   simp at hj
   rw [hOg, if_pos (by omega)]
   omega
  gaps := fun x hx hc => by
   rw [hM] at hx ⊢
   rw [hMl] at hx
   by_cases hlt : x < H.mem.length
   ·rw [getD_left _ _ x hlt]
    refine h.gaps x hlt (fun i hi hb => ?_)
    have hiq : i ≠ q := fun e => by rw [e, hfree.1] at hb; simp at hb
    have := hc i (by show i < (putAt M.things q t).length; omega) (by show ((putAt M.things q t).getD i noTh).there = true; rw [hg, if_neg hiq]; exact hb)
    have h3 : x < ((putAt M.things q t).getD i noTh).place ∨ ((putAt M.things q t).getD i noTh).place + lenN ((putAt M.things q t).getD i noTh).slots.length ((putAt M.things q t).getD i noTh).fmt ≤ x := this
    rw [hg, if_neg hiq] at h3
    exact h3
   ·have := hc q (by show q < (putAt M.things q t).length; omega) (by show ((putAt M.things q t).getD q noTh).there = true; rw [hg, if_pos rfl]; exact t1)
    have h3 : x < ((putAt M.things q t).getD q noTh).place ∨ ((putAt M.things q t).getD q noTh).place + lenN ((putAt M.things q t).getD q noTh).slots.length ((putAt M.things q t).getD q noTh).fmt ≤ x := this
    rw [hg, if_pos rfl, t4, t6, t3] at h3
    omega
  bit := fun j => by
   show ((addBits H.bits (q + 1)).getD (j / 64) 0).testBit (j % 64) = ((putAt M.things q t).getD j noTh).there
   rw [addBits_bit H.bits (q + 1) j (by omega), hg, Nat.add_sub_cancel]
   split
   ·exact t1.symm
   ·exact h.bit j
  low := fun i hi => by
   have hi2 : i < H.low := hi
   show (addBits H.bits (q + 1)).getD i 0 = full
   have hb : H.bits.getD i 0 = full := h.low i hi2
   have h1 := addBits_le H.bits (q + 1) h.safe.bits i
   rw [addBits_getD] at h1 ⊢
   split
   ·rw [if_pos (by assumption)] at h1
    have := Nat.left_le_or (n := H.bits.getD i 0) (m := 2 ^ ((q + 1 - 1) % 64))
    omega
   ·exact hb
  model := ⟨by show ((putAt M.things q t).length : Int) ≤ 65538; have := h.model.len; omega, fun i hi => by
    show (((putAt M.things q t).getD i noTh).slots.length : Int) ≤ 8192
    rw [hg]
    split
    ·rw [t6]; omega
    ·by_cases hil : i < M.things.length
     ·exact h.model.slots i hil
     ·rw [List.getD_eq_getElem?_getD, List.getElem?_eq_none (by omega)]; simp [noTh], fun i hi => by
    show (((putAt M.things q t).getD i noTh).place : Int) ≤ 1048576
    rw [hg]
    split
    ·rw [t4]; have := h.room; omega
    ·by_cases hil : i < M.things.length
     ·exact h.model.place i hil
     ·rw [List.getD_eq_getElem?_getD, List.getElem?_eq_none (by omega)]; simp [noTh]⟩
  deep := fun j hj hne => by
   rw [hO] at hj hne ⊢
   rw [hOg] at hne ⊢
   by_cases e : j = H.order.length
   ·rw [if_pos e, hS, if_pos rfl]
    show 2 * j ≤ H.mem.length
    omega
   ·rw [if_neg e] at hne ⊢
    simp at hj
    obtain ⟨o1, o2, o3⟩ := h.order j (by omega) hne
    have hne2 : H.order.getD j 0 ≠ q + 1 := fun e2 => by
     rw [e2, Nat.add_sub_cancel, hfree.1] at o2
     simp at o2
    rw [hS, if_neg hne2]
    exact h.deep j (by omega) hne
  most := by show (putAt M.things q t).length ≤ M.oops; omega
  room := h.room }
end Go.Proofs.YtklfnjlenbgmoaaDoor
namespace Go.Proofs.YtklfnjlenbgmoaaDoor
open Go.RowKit
attribute [local go_sem ↓] Go.wp_at_zero Go.wp_at_succ
end Go.Proofs.YtklfnjlenbgmoaaDoor
namespace Go.Proofs.YtklfnjlenbgmoaaDoor
open Go.RowKit
structure Rd (w : World) (v : Value) (ss : List Int) : Prop where
 at_ : ∃ p c, v = .slice p ss.length c ∧ (0 < ss.length → ∃ g off, p = some ⟨g, off, none⟩ ∧ g < w.heap.size ∧ ∀ i, i < ss.length → w.cell? ⟨g, off + i, none⟩ = some (.int .i64 (ss.getD i 0)))
 nil : ∀ c, v = .slice none ss.length c → c = 0
 short : ss.length ≤ 17592186043904
theorem own_slot {w : World} {base : Nat} {t : TypeId} {v : Value} {ss : List Int} (h : w.ownsRow base t 1 v ss.length (ss.map (Value.int .i64))) : ∃ p c, v = .slice p ss.length c ∧ (0 < ss.length → ∃ g, p = some ⟨g, 0, none⟩ ∧ ∀ i, i < ss.length → w.cell? ⟨g, i, none⟩ = some (.int .i64 (ss.getD i 0))) := by
 rcases h.2 with ⟨h2, h3⟩ | ⟨g, cap, cur, h2, h3⟩
 ·exact ⟨none, 0, by rw [h2, h3], fun hp => by omega⟩
 ·refine ⟨some ⟨g, 0, none⟩, cap, h2, fun hp => ⟨g, rfl, fun i hi => ?_⟩⟩
  rw [h2] at h
  rw [h.cellAt i (by omega), List.getElem?_map, List.getD_eq_getElem?_getD, List.getElem?_eq_getElem hi]
  rfl
theorem own_rd {w : World} {base : Nat} {t : TypeId} {v : Value} {ss : List Int} (h : w.ownsRow base t 1 v ss.length (ss.map (Value.int .i64))) (hs : ss.length ≤ 17592186043904) : Rd w v ss := by
 obtain ⟨p, c, e, h1⟩ := own_slot h
 refine ⟨⟨p, c, e, fun hp => ?_⟩, fun c' hc => ?_, hs⟩
 rotate_left
 ·rcases h.2 with ⟨h2, h3⟩ | ⟨g, cap, cur, h2, h3⟩
  ·rw [h2] at hc; injection hc with _ _ e3; exact e3.symm
  ·rw [h2] at hc; injection hc with e3; cases e3
 obtain ⟨g, e2, h2⟩ := h1 hp
 exact ⟨g, 0, e2, World.block_lt_of_cell? w ⟨g, 0, none⟩ (h2 0 hp), fun i hi => by rw [Nat.zero_add]; exact h2 i hi⟩
theorem Rd.keep {w w' : World} {v : Value} {ss : List Int} {S : List Nat} (h : Rd w v ss) (hf : Fr S w w') (hd : 0 < ss.length → ∀ g, v.ownBlock = some g → g ∉ S) : Rd w' v ss := by
 obtain ⟨p, c, e, h1⟩ := h.at_
 refine ⟨⟨p, c, e, fun hp => ?_⟩, h.nil, h.short⟩
 obtain ⟨g, off, e2, h2, h3⟩ := h1 hp
 have hn := hd hp g (by rw [e, e2]; rfl)
 exact ⟨g, off, e2, by have := hf.size; omega, fun i hi => (hf.cell (p := ⟨g, off + i, none⟩) h2 hn).trans (h3 i hi)⟩
theorem Rd.idle {w w' : World} {v : Value} {ss : List Int} (h : Rd w v ss) (hf : Fr [] w w') : Rd w' v ss := h.keep hf (by simp)
theorem Rd.lt {w : World} {v : Value} {ss : List Int} (h : Rd w v ss) (hp : 0 < ss.length) (g : Nat) (hg : v.ownBlock = some g) : g < w.heap.size := by
 obtain ⟨p, c, e, h1⟩ := h.at_
 obtain ⟨g', off, e2, h2, h3⟩ := h1 hp
 rw [e, e2] at hg
 have : g' = g := by simpa [Value.ownBlock] using hg
 omega
theorem run_copy (ss : List Int) (u : Value) (w : World) (h : Rd w u ss) : ∃ v' w', (Builtin.append_ #[80, 80] 80 #[.slice none 0 0, u]).run Tryd.prog w = .ok v' w' ∧ w'.ownsRow w.heap.size 33 1 v' ss.length (ss.map (Value.int .i64)) ∧ Fr [] w w' := by
 obtain ⟨p, c, rfl, h1⟩ := h.at_
 obtain ⟨i33, ii, iz, is, ib⟩ := info_parts info33
 have hown : w.ownsRow w.heap.size 33 1 (.slice none 0 0) 0 [] := World.ownsRow_nil _ _ _ _
 cases p with
 | none =>
  have h0 : ss.length = 0 := by
   rcases Nat.eq_zero_or_pos ss.length with h0 | h0
   ·exact h0
   ·obtain ⟨g, off, e2, _⟩ := h1 h0; cases e2
  have hs : ss = [] := List.length_eq_zero_iff.1 h0
  have hc := h.nil c rfl
  subst hs
  subst hc
  exact ⟨_, _, run_append_owned_none (P := Tryd.prog) (w := w) w.heap.size 80 80 33 i33 1 Tryd.underlying80 ii _ _ _ hown, hown, Fr.refl _ _⟩
 | some ad =>
  have hnews : ∀ j x, (ss.map (Value.int .i64))[j]? = some x → w.cell? (ad.add j) = some x := fun j x hx => by
   rw [List.getElem?_map] at hx
   cases hz : ss[j]? with
   | none => rw [hz] at hx; simp at hx
   | some z =>
    rw [hz] at hx
    simp at hx
    obtain ⟨hj, hjz⟩ := List.getElem?_eq_some_iff.1 hz
    obtain ⟨g, off, e2, h2, h3⟩ := h1 (by omega)
    rw [Option.some.inj e2, Addr.add_mid, h3 j hj, List.getD_eq_getElem?_getD, hz, ← hx]
    rfl
  have hsh := h.short
  obtain ⟨v', w', hr, h2, h3, _, h5⟩ := run_append_own_at (P := Tryd.prog) w w.heap.size 80 80 33 i33 (.int .i64 0) 1 8 Tryd.underlying80 ii iz is ib rfl (by decide) _ _ _ hown ad ss.length c (ss.map (Value.int .i64)) (by simp) hnews (fun x hx => by obtain ⟨z, _, rfl⟩ := List.mem_map.1 hx; rfl) (by unfold maxLen; omega) (by omega) (Nat.le_refl _)
  refine ⟨v', w', hr, ?_, Fr.grown h3 (fun k hk => by cases hk)⟩
  rw [Nat.zero_add] at h2
  exact h2
structure OI where
 oop : Int
 cls : Int
 fmt : Int
 slots : List Int
 v : Value
def oiKey (o : OI) : Int × Int × Int × List Int := (o.oop, o.cls, o.fmt, o.slots)
structure SAt (w : World) (ov : Value) (l : List OI) : Prop where
 at_ : ∃ p c, ov = .slice p l.length c ∧ (0 < l.length → ∃ g off, p = some ⟨g, off, none⟩ ∧ ∀ k, k < l.length → ∃ o, l[k]? = some o ∧ w.cell? ⟨g, off + k * 4, none⟩ = some (.int .i64 o.oop) ∧ w.cell? ⟨g, off + k * 4 + 1, none⟩ = some (.int .i64 o.cls) ∧ w.cell? ⟨g, off + k * 4 + 2, none⟩ = some (.int .i64 o.fmt) ∧ w.cell? ⟨g, off + k * 4 + 3, none⟩ = some o.v)
 slots : ∀ o ∈ l, Rd w o.v o.slots
 short : l.length ≤ 2932031007317
theorem SAt.idle {w w' : World} {ov : Value} {l : List OI} (h : SAt w ov l) (hf : Fr [] w w') : SAt w' ov l := by
 obtain ⟨p, c, e, h1⟩ := h.at_
 refine ⟨⟨p, c, e, fun hp => ?_⟩, fun o ho => (h.slots o ho).idle hf, h.short⟩
 obtain ⟨g, off, e2, h3⟩ := h1 hp
 refine ⟨g, off, e2, fun k hk => ?_⟩
 obtain ⟨o, h4, a0, a1, a2, a3⟩ := h3 k hk
 have hl := World.block_lt_of_cell? w ⟨g, off + k * 4, none⟩ a0
 exact ⟨o, h4, (hf.cell (p := ⟨g, off + k * 4, none⟩) hl (by simp)).trans a0, (hf.cell (p := ⟨g, off + k * 4 + 1, none⟩) hl (by simp)).trans a1, (hf.cell (p := ⟨g, off + k * 4 + 2, none⟩) hl (by simp)).trans a2, (hf.cell (p := ⟨g, off + k * 4 + 3, none⟩) hl (by simp)).trans a3⟩
theorem osCells_at (l : List OS) : ∀ k, k < l.length → ∃ o, l[k]? = some o ∧ (osCells l)[k * 4]? = some (.int .i64 (o.oop : Int)) ∧ (osCells l)[k * 4 + 1]? = some (.int .i64 o.cls) ∧ (osCells l)[k * 4 + 2]? = some (.int .i64 (o.fmt : Int)) ∧ (osCells l)[k * 4 + 3]? = some o.v := by
 induction l with
 | nil => intro k hk; simp at hk
 | cons o l ih =>
  intro k hk
  have e : osCells (o :: l) = os4 o ++ osCells l := by simp [osCells]
  rw [e]
  cases k with
  | zero => exact ⟨o, rfl, rfl, rfl, rfl, rfl⟩
  | succ k =>
   obtain ⟨x, h0, h1, h2, h3, h4⟩ := ih k (by simpa using hk)
   refine ⟨x, by simpa using h0, ?_, ?_, ?_, ?_⟩
   ·rw [List.getElem?_append_right (by simp [os4]; omega), show (k + 1) * 4 - (os4 o).length = k * 4 from by simp [os4]; omega]; exact h1
   ·rw [List.getElem?_append_right (by simp [os4]; omega), show (k + 1) * 4 + 1 - (os4 o).length = k * 4 + 1 from by simp [os4]; omega]; exact h2
   ·rw [List.getElem?_append_right (by simp [os4]; omega), show (k + 1) * 4 + 2 - (os4 o).length = k * 4 + 2 from by simp [os4]; omega]; exact h3
   ·rw [List.getElem?_append_right (by simp [os4]; omega), show (k + 1) * 4 + 3 - (os4 o).length = k * 4 + 3 from by simp [os4]; omega]; exact h4
theorem SRep.at {w : World} {base : Nat} {ov : Value} {l : List OS} (h : SRep w base ov l) : ∃ p c, ov = .slice p l.length c ∧ True := by
 rcases h.row.2 with ⟨h2, h3⟩ | ⟨g, cap, cur, h2, h3⟩
 ·exact ⟨none, 0, by rw [h2, h3], trivial⟩
 ·exact ⟨some ⟨g, 0, none⟩, cap, h2, trivial⟩
def toOI (o : OS) : OI := ⟨o.oop, o.cls, o.fmt, o.slots, o.v⟩
theorem SRep.sat {w : World} {base : Nat} {ov : Value} {l : List OS} (h : SRep w base ov l) (hl : l.length ≤ 2932031007317) (hs : ∀ o ∈ l, o.slots.length ≤ 17592186043904) : SAt w ov (l.map toOI) := by
 have hr := h.row
 refine ⟨?_, fun o ho => ?_, by simpa using hl⟩
 ·rcases hr.2 with ⟨h2, h3⟩ | ⟨g, cap, cur, h2, h3⟩
  ·exact ⟨none, 0, by rw [h2, List.length_map, h3], fun hp => by rw [List.length_map] at hp; omega⟩
  ·refine ⟨some ⟨g, 0, none⟩, cap, by rw [List.length_map]; exact h2, fun hp => ⟨g, 0, rfl, fun k hk => ?_⟩⟩
   rw [List.length_map] at hk
   rw [h2] at hr
   obtain ⟨o, h0, h1, h4, h5, h6⟩ := osCells_at l k hk
   refine ⟨toOI o, by rw [List.getElem?_map, h0]; rfl, ?_, ?_, ?_, ?_⟩
   ·rw [Nat.zero_add, hr.cellAt _ (by omega)]; exact h1
   ·rw [Nat.zero_add, hr.cellAt _ (by omega)]; exact h4
   ·rw [Nat.zero_add, hr.cellAt _ (by omega)]; exact h5
   ·rw [Nat.zero_add, hr.cellAt _ (by omega)]; exact h6
 ·obtain ⟨x, hx, rfl⟩ := List.mem_map.1 ho
  exact own_rd (h.slots x hx) (hs x hx)
end Go.Proofs.YtklfnjlenbgmoaaDoor
namespace Go.Proofs.YtklfnjlenbgmoaaDoor
open Go.RowKit
attribute [local go_sem ↓] Go.wp_at_zero Go.wp_at_succ
theorem setSlot_inv (k i : Nat) (v : Int) (a : Nat) (l : Lay) (H : HS) (M : MS) (w : World) (h : Rep w a l H) (hi : Inv H M) (hk : k < M.things.length) (hb : (M.things.getD k noTh).there = true) (hil : i < (M.things.getD k noTh).slots.length) (hm : mayB v ((M.things.getD k noTh).fmt : Int) = true) :
  ∃ H', Inv H' { M with things := M.things.set k (withSlot (M.things.getD k noTh) i v) } ∧ H'.age = H.age ∧ H'.words = H.words ∧ H'.oops = H.oops ∧ H'.mark = H.mark ∧ H'.order = H.order ∧ H'.seats = H.seats ∧ H'.count = H.count ∧ H'.mem.length = H.mem.length ∧ Calls Tryd.prog 73 #[.pointer (some ⟨a, 0, none⟩), sv (H.seats.getD (k + 1) (0, 0, 0)), .int .i64 ((M.things.getD k noTh).fmt : Int), .int .i64 i, .int .i64 v] w fun e w' => e = .returned (.tuple #[]) ∧ Rep w' a l H' ∧ Nx a l l w w' := by
 have hI := hi.is k hk hb
 have hmem : (H.mem.length : Int) ≤ 1048576 := by have := hi.safe.small.mem; have := hi.safe.small.words; omega
 have hroom := hI.room
 have h22 := lenN_two (M.things.getD k noTh).slots.length (M.things.getD k noTh).fmt
 have hfl := hI.fmt
 have hlen := hI.len
 rcases (show (M.things.getD k noTh).fmt = 0 ∨ (M.things.getD k noTh).fmt = 1 from by omega) with hf | hf
 ·have hw := lenN_word (M.things.getD k noTh).slots.length i (M.things.getD k noTh).fmt hf hil
  refine ⟨_, hi.putW k hk hb i v hil hf, rfl, rfl, rfl, rfl, rfl, rfl, rfl, by simp, ?_⟩
  rw [hf]
  exact setSlot_w (H.seats.getD (k + 1) (0, 0, 0)) i v a l H w h (by omega) hmem
 ·have hw := lenN_byte (M.things.getD k noTh).slots.length i hil
  rw [← hf] at hw
  obtain ⟨old, o1, o2, o3⟩ := hI.byte hf i hil
  have hv : 0 ≤ v ∧ v ≤ 255 := by
   unfold mayB at hm
   rw [if_pos (by omega)] at hm
   exact of_decide_eq_true hm
  obtain ⟨vn, rfl⟩ : ∃ vn : Nat, v = (vn : Int) := ⟨v.toNat, by omega⟩
  refine ⟨_, hi.putB' k hk hb i vn old hil hf (by omega) o1 o2, rfl, rfl, rfl, rfl, rfl, rfl, rfl, by simp, ?_⟩
  rw [hf]
  exact setB_any (H.seats.getD (k + 1) (0, 0, 0)) i vn old a l H w h (by omega) hmem o1 (by omega) (by omega) o2
structure Ld (H0 : HS) (M0 : MS) (q : Nat) (cls : Int) (fmt : Nat) (ss : List Int) (i : Nat) (H : HS) (M : MS) : Prop where
 inv : Inv H M
 age : H.age = H0.age
 words : H.words = H0.words
 oops : H.oops = H0.oops
 mark : H.mark = H0.mark
 order : H.order = H0.order ++ [q + 1]
 seat : H.seats.getD (q + 1) (0, 0, 0) = (H0.mem.length, lenN ss.length fmt, H0.order.length)
 len : q < M.things.length
 at_ : (M.things.getD q noTh).there = true ∧ (M.things.getD q noTh).cls = cls ∧ (M.things.getD q noTh).fmt = fmt ∧ (M.things.getD q noTh).slots.length = ss.length ∧ ∀ j, j < i → (M.things.getD q noTh).slots.getD j 0 = ss.getD j 0
 count : H.count = H0.count + 1
 mem : H.mem.length = H0.mem.length + lenN ss.length fmt
 rest : ∀ k, k ≠ q → M.things.getD k noTh = M0.things.getD k noTh
 tl : ∀ B, M0.things.length ≤ B → q < B → M.things.length ≤ B
theorem Ld.next {H0 H H' : HS} {M0 M : MS} {q fmt i : Nat} {cls : Int} {ss : List Int} (h : Ld H0 M0 q cls fmt ss i H M) (hi : i < ss.length) (hinv : Inv H' { M with things := M.things.set q (withSlot (M.things.getD q noTh) i (ss.getD i 0)) }) (e1 : H'.age = H.age) (e2 : H'.words = H.words) (e3 : H'.oops = H.oops) (e4 : H'.mark = H.mark) (e5 : H'.order = H.order) (e6 : H'.seats = H.seats) (e7 : H'.count = H.count) (e8 : H'.mem.length = H.mem.length) :
  Ld H0 M0 q cls fmt ss (i + 1) H' { M with things := M.things.set q (withSlot (M.things.getD q noTh) i (ss.getD i 0)) } := by
 obtain ⟨a1, a2, a3, a4, a5⟩ := h.at_
 have hg := fun k => getD_set M.things q k (withSlot (M.things.getD q noTh) i (ss.getD i 0)) h.len
 refine ⟨hinv, e1.trans h.age, e2.trans h.words, e3.trans h.oops, e4.trans h.mark, e5.trans h.order, by rw [e6]; exact h.seat, by show q < (M.things.set q _).length; rw [List.length_set]; exact h.len, ?_, e7.trans h.count, e8.trans h.mem, fun k hk => ?_, fun B h1 h2 => by show (M.things.set q _).length ≤ B; rw [List.length_set]; exact h.tl B h1 h2⟩
 ·show ((M.things.set q _).getD q noTh).there = true ∧ ((M.things.set q _).getD q noTh).cls = cls ∧ ((M.things.set q _).getD q noTh).fmt = fmt ∧ ((M.things.set q _).getD q noTh).slots.length = ss.length ∧ ∀ j, j < i + 1 → ((M.things.set q _).getD q noTh).slots.getD j 0 = ss.getD j 0
  rw [hg q, if_pos rfl]
  refine ⟨a1, a2, a3, by show ((M.things.getD q noTh).slots.set i _).length = _; rw [List.length_set]; exact a4, fun j hj => ?_⟩
  show ((M.things.getD q noTh).slots.set i (ss.getD i 0)).getD j 0 = _
  rw [getD_set' _ _ _ _ (by omega)]
  by_cases e : j = i
  ·rw [if_pos e, e]
  ·rw [if_neg e]; exact a5 j (by omega)
 ·show (M.things.set q _).getD k noTh = _
  rw [hg k, if_neg hk]
  exact h.rest k hk
theorem ld_start {H : HS} {M : MS} (h : Inv H M) (q : Nat) (hq : q < M.oops) (hf0 : (M.things.getD q noTh).there = false) (cls : Int) (fmt : Nat) (ss : List Int) (hf : fmt ≤ 1) (hn : ss.length ≤ 8192) (hr1 : H.count < H.oops) (hr2 : H.mem.length + lenN ss.length fmt ≤ H.words) :
  ∃ M', Ld H M q cls fmt ss 0 (layH H (q + 1) cls ss.length fmt) M' := by
 have hinv := h.layAt q hq hf0 cls ss.length fmt none none 0 0 hf hn hr1 hr2
 have hg := fun i => putAt_get M.things q i ⟨true, cls, fmt, endTo M.things M.things.length, List.replicate ss.length (newX fmt), none, 0⟩
 refine ⟨_, hinv, rfl, rfl, rfl, rfl, rfl, ?_, ?_, ?_, rfl, ?_, fun k hk => ?_, fun B h1 h2 => by show (putAt M.things q _).length ≤ B; rw [putAt_length]; omega⟩
 ·show ((padSeats H.seats (q + 1 + 1)).set (q + 1) (H.mem.length, lenN ss.length fmt, H.order.length)).getD (q + 1) (0, 0, 0) = _
  rw [getD_seat _ _ _ _ (by unfold padSeats; simp; omega), if_pos rfl]
 ·show q < (putAt M.things q _).length
  rw [putAt_length]; omega
 ·show ((putAt M.things q _).getD q noTh).there = true ∧ ((putAt M.things q _).getD q noTh).cls = cls ∧ ((putAt M.things q _).getD q noTh).fmt = fmt ∧ ((putAt M.things q _).getD q noTh).slots.length = ss.length ∧ ∀ j, j < 0 → _
  rw [hg q, if_pos rfl]
  exact ⟨rfl, rfl, rfl, by simp, fun j hj => by omega⟩
 ·show (H.mem ++ objCells cls ss.length fmt).length = _
  rw [List.length_append, objCells_len cls ss.length fmt hf]
 ·show (putAt M.things q _).getD k noTh = _
  rw [hg k, if_neg hk]
end Go.Proofs.YtklfnjlenbgmoaaDoor
