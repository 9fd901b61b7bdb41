import Derived.Test.YtcoddjdicodmhaaDoorKHObjM
import Derived.Deep.DeepCutAuto
namespace Go.Proofs.YtcoddjdicodmhaaDoor
open Go.RowKit
set_option linter.unusedVariables false
attribute [local go_sem ↓] Go.wp_at_zero Go.wp_at_succ
/-- an object as data, and where its slots lie -/
structure OS where
  oop : Nat
  cls : Int
  fmt : Nat
  slots : List Int
  v : Value
def os4 (o : OS) : List Value := [.int .i64 (o.oop : Int), .int .i64 o.cls, .int .i64 (o.fmt : Int), o.v]
def osCells (l : List OS) : List Value := l.flatMap os4
def osKey (o : OS) : Nat × Int × Nat × List Int := (o.oop, o.cls, o.fmt, o.slots)
/-- a list of objects that was told -/
structure SRep (w : World) (base : Nat) (ov : Value) (l : List OS) : Prop where
  row : w.ownsRow base 106 4 ov l.length (osCells l)
  slots : ∀ o ∈ l, w.ownsRow base 33 1 o.v o.slots.length (o.slots.map (Value.int .i64))
theorem SRep.idle {w w' : World} {base : Nat} {ov : Value} {l : List OS} (h : SRep w base ov l) (hf : Fr [] w w') : SRep w' base ov l :=
  ⟨own_congr h.row fun g hg => hf.block g (h.row.lt g hg).2 (by simp), fun o ho => own_congr (h.slots o ho) fun g hg => hf.block g ((h.slots o ho).lt g hg).2 (by simp)⟩
/-- what the state tells of the first j of the order -/
def stKeys (H : HS) (S : List Th) (j : Nat) : List (Nat × Int × Nat × List Int) := ((H.order.take j).filter (fun o => o != 0)).map fun o => (o, (S.getD (o - 1) noTh).cls, (S.getD (o - 1) noTh).fmt, (S.getD (o - 1) noTh).slots)
theorem stKeys_zero (H : HS) (S : List Th) (j : Nat) (hj : j < H.order.length) (h0 : H.order.getD j 0 = 0) : stKeys H S (j + 1) = stKeys H S j := by
  unfold stKeys
  rw [List.getD_eq_getElem?_getD, List.getElem?_eq_getElem hj] at h0
  have h0' : H.order[j] = 0 := h0
  rw [List.take_succ_eq_append_getElem hj, List.filter_append, h0']
  simp
theorem stKeys_one (H : HS) (S : List Th) (j o : Nat) (hj : j < H.order.length) (h0 : H.order.getD j 0 = o) (hn : o ≠ 0) : stKeys H S (j + 1) = stKeys H S j ++ [(o, (S.getD (o - 1) noTh).cls, (S.getD (o - 1) noTh).fmt, (S.getD (o - 1) noTh).slots)] := by
  unfold stKeys
  rw [List.getD_eq_getElem?_getD, List.getElem?_eq_getElem hj] at h0
  have h0' : H.order[j] = o := h0
  rw [List.take_succ_eq_append_getElem hj, List.filter_append, h0', List.map_append]
  simp [hn]
/-- a state that is being told: in block B -/
structure St1 (w W : World) (B words oops mark : Nat) (ks : List (Nat × Int × Nat × List Int)) : Prop where
  fr : Fr [] w W
  lo : w.heap.size + 1 ≤ B
  res : W.heap[w.heap.size]? = some (.cells #[.int .i64 0, .int .i64 0, .int .i64 0, .slice none 0 0] 38 (0, 0))
  at_ : ∃ ov l, W.heap[B]? = some (.cells #[.int .i64 (words : Int), .int .i64 (oops : Int), .int .i64 (mark : Int), ov] 38 (0, 0)) ∧ SRep W (B + 1) ov l ∧ l.map osKey = ks
theorem St1.idle {w W W' : World} {B words oops mark : Nat} {ks : List (Nat × Int × Nat × List Int)} (h : St1 w W B words oops mark ks) (hf : Fr [] W W') : St1 w W' B words oops mark ks := by
  obtain ⟨ov, l, h1, h2, h3⟩ := h.at_
  exact ⟨h.fr.trans hf (by simp), h.lo, (hf.block _ (lt_of_heap h.res) (by simp)).trans h.res, ov, l, (hf.block _ (lt_of_heap h1) (by simp)).trans h1, h2.idle hf, h3⟩
theorem osCells_append (l : List OS) (o : OS) : osCells (l ++ [o]) = osCells l ++ os4 o := by simp [osCells]
/-- one object more -/
theorem St1.next {w W V W2 : World} {B words oops mark : Nat} {ks : List (Nat × Int × Nat × List Int)} {ov : Value} {l : List OS} {o : OS} {g2 cap : Nat} (h : St1 w W B words oops mark ks) (hv : W.heap[B]? = some (.cells #[.int .i64 (words : Int), .int .i64 (oops : Int), .int .i64 (mark : Int), ov] 38 (0, 0))) (hr : SRep W (B + 1) ov l) (hk : l.map osKey = ks)
    (ho : W.ownsRow (B + 1) 33 1 o.v o.slots.length (o.slots.map (Value.int .i64)))
    (hg : (W.alloc (.cells (os4 o).toArray 106)).grownBy W2 ov.ownBlock) (hown : W2.ownsRow (B + 1) 106 4 (.slice (some ⟨g2, 0, none⟩) (l.length + 1) cap) (l.length + 1) (osCells l ++ os4 o))
    (he : Eqw (W2.setCell ⟨B, 3, none⟩ (.slice (some ⟨g2, 0, none⟩) (l.length + 1) cap)) V) : St1 w V B words oops mark (ks ++ [osKey o]) := by
  have hBl := lt_of_heap hv
  have hlo := h.lo
  have hne : ∀ b, ov.ownBlock = some b → B + 1 ≤ b := fun b hb => (hr.row.lt b hb).1
  have hsame : ∀ i, i < W.heap.size → some i ≠ ov.ownBlock → W2.heap[i]? = W.heap[i]? := fun i hi hn => by
    rw [hg.block i (by simp; omega) hn]
    exact Below.heap_alloc _ _ _ hi
  have hlow : ∀ i, i < W.heap.size → i ≤ B → W2.heap[i]? = W.heap[i]? := fun i hi hle => hsame i hi (fun e => by have := hne _ e.symm; omega)
  have hV : ∀ i, i ≠ B → V.heap[i]? = W2.heap[i]? := fun i hi => by rw [he.2.2.2, set_else hi]
  have hg2 : B + 1 ≤ g2 := (hown.lt g2 rfl).1
  have hsl : ∀ x : OS, W.ownsRow (B + 1) 33 1 x.v x.slots.length (x.slots.map (Value.int .i64)) → V.ownsRow (B + 1) 33 1 x.v x.slots.length (x.slots.map (Value.int .i64)) := fun x hx => by
    refine own_congr hx fun g hg3 => ?_
    have hl := hx.lt g hg3
    rw [hV g (by omega)]
    refine hsame g hl.2 (fun e => ?_)
    rcases hx.2 with ⟨q1, _⟩ | ⟨g', cap', cur', q1, q2, q3, _⟩
    · rw [q1] at hg3; simp [Value.ownBlock] at hg3
    · rw [q1] at hg3
      have e1 : g' = g := by simpa [Value.ownBlock] using hg3
      subst e1
      rcases hr.row.2 with ⟨r1, _⟩ | ⟨g'', cap'', cur'', r1, r2, r3, _⟩
      · rw [r1] at e; simp [Value.ownBlock] at e
      · rw [r1] at e
        have e2 : g' = g'' := by simpa [Value.ownBlock] using e
        subst e2
        rw [q3] at r3
        simp at r3
  refine ⟨?_, h.lo, ?_, .slice (some ⟨g2, 0, none⟩) (l.length + 1) cap, l ++ [o], ?_, ⟨?_, ?_⟩, by rw [List.map_append, hk]; rfl⟩
  · have F1 : Fr [] w W2 := by
      refine ⟨hg.os.trans h.fr.os, hg.tape.trans h.fr.tape, hg.output.trans h.fr.output, Nat.le_trans h.fr.size (Nat.le_trans (by simp) hg.size), fun i hi hn => ?_⟩
      have := h.fr.size
      rw [hlow i (by omega) (by omega)]
      exact h.fr.block i hi (by simp)
    have F2 : Fr [] w (W2.setCell ⟨B, 3, none⟩ (.slice (some ⟨g2, 0, none⟩) (l.length + 1) cap)) := F1.trans (Fr.setCell (S := [B]) _ _ _ (by simp)) (fun b hb => by simp at hb; subst hb; right; omega)
    exact F2.trans (he.fr []) (by simp)
  · rw [hV _ (by omega), hlow _ (lt_of_heap h.res) (by omega)]; exact h.res
  · have h4 := hlow B hBl (Nat.le_refl _)
    rw [hv] at h4
    rw [he.2.2.2, set_in h4]
    rfl
  · rw [List.length_append, osCells_append]
    exact own_congr hown fun g hg3 => hV g (by
      have : g = g2 := by simpa [Value.ownBlock] using hg3.symm
      omega)
  · intro x hx
    rcases List.mem_append.1 hx with h1 | h1
    · exact hsl x (hr.slots x h1)
    · have : x = o := by simpa using h1
      rw [this]
      exact hsl o ho
end Go.Proofs.YtcoddjdicodmhaaDoor
