import Derived.Test.YtpaekbghnejhoaaDoorEG07HInv
import Derived.Test.YtpaekbghnejhoaaDoorEG15HHandW
namespace Go.Proofs.YtpaekbghnejhoaaDoor
open Go.RowKit
set_option linter.unusedVariables false
/-- an append whose run is known, as one step of a region that draws -/
theorem step_append_run {P : Program} {ops : Array Oper} {o : Oper} {a : Act} {w : World} {K : Act → World → Prop} {Q : Exit → Act → World → Prop} {E : Prop}
    (hg : o.guard = none) (s x : Operand) (t tn : TypeId) (ho : o.op = .call { callee := .builtin .append, args := #[s, x], argTypes := #[t, tn] }) (vs vx : Value) (hs : a.eval s = vs) (hx : a.eval x = vx)
    (v' : Value) (w' : World) (hr : (Builtin.append_ #[t, tn] o.type #[vs, vx]).run P w = .ok v' w') (h : K (a.put o.dst v') w') : if Region.wanted o (yielded ops a.tmps) = true then Oper.wp P o a w K Q else E := by
  have hw : Region.wanted o (yielded ops a.tmps) = true := by simp [Region.wanted, hg]
  rw [if_pos hw]
  exact Lib.wp_append_run w s x t tn ho vs vx hs hx v' w' hr h
/-- one object more in the document's heap -/
theorem RRep.next {V5 w6 w7 V : World} {B r : Nat} {R : RS} {o : RO} {v7 : Value} (h : RRep V5 B r R) (hf6 : Fr [] V5 w6) (ho6 : w6.ownsRow V5.heap.size 40 1 o.v o.slots.length (o.slots.map (Value.int .i64))) (hB : B ≤ V5.heap.size) (hrB : ∀ b, R.ov.ownBlock = some b → b ≠ r)
    (hg : (w6.alloc (.cells (ro6 o).toArray 124)).grownBy w7 R.ov.ownBlock) (hown : w7.ownsRow B 124 6 v7 (R.objs.length + 1) (roCells R.objs ++ ro6 o))
    (hv7 : ∀ b, v7.ownBlock = some b → b ≠ r) (he : Eqw ((w7.setCell ⟨r, 5, none⟩ v7).setCell ⟨r, 3, none⟩ (I (R.born + 1))) V) : RRep V B r { R with objs := R.objs ++ [o], born := R.born + 1, ov := v7 } := by
  have hr5 := lt_of_heap h.top
  have h6 := hf6.size
  have hlo := h.lo
  have hV : ∀ i, i ≠ r → V.heap[i]? = w7.heap[i]? := fun i hi => by rw [he.2.2.2, set_else hi, set_else hi]
  have h7 : ∀ i, i < w6.heap.size → some i ≠ R.ov.ownBlock → w7.heap[i]? = w6.heap[i]? := fun i hi hn => by
    rw [hg.block i (by simp; omega) hn]
    exact Below.heap_alloc _ _ _ hi
  have htop7 : w7.heap[r]? = some (.cells (rcells R) 122 (0, 0)) := by
    rw [h7 r (by omega) (fun e => hrB r e.symm rfl), hf6.block r hr5 (by simp)]
    exact h.top
  have hsl : ∀ x : RO, w6.ownsRow B 40 1 x.v x.slots.length (x.slots.map (Value.int .i64)) → V.ownsRow B 40 1 x.v x.slots.length (x.slots.map (Value.int .i64)) := fun x hx => by
    have hrow6 : w6.ownsRow B 124 6 R.ov R.objs.length (roCells R.objs) := own_congr h.row fun g hg => hf6.block g (h.row.lt g hg).2 (by simp)
    refine own_congr hx fun g hgg => ?_
    have hl := hx.lt g hgg
    have hgr : g ≠ r := fun e => by
      subst e
      have h2 := h.top
      rcases hx.2 with ⟨q1, _⟩ | ⟨g1, cap1, cur1, q1, q2, q3, _⟩
      · rw [q1] at hgg; simp [Value.ownBlock] at hgg
      · rw [q1] at hgg
        have a1 : g1 = g := by simpa [Value.ownBlock] using hgg
        subst a1
        rw [hf6.block g1 hr5 (by simp), h2] at q3
        simp at q3
    rw [hV g hgr]
    exact h7 g hl.2 (fun e => own_type hx hrow6 (by decide) hgg e.symm)
  refine ⟨h.lo, ?_, ?_, fun x hx => ?_⟩
  · rw [he.2.2.2, set_in (set_in htop7 5 _) 3 _]
    rfl
  · show V.ownsRow B 124 6 v7 (R.objs ++ [o]).length (roCells (R.objs ++ [o]))
    rw [List.length_append, roCells_append]
    exact own_congr hown fun g hgg => hV g (hv7 g hgg)
  · rcases List.mem_append.1 hx with h1 | h1
    · exact hsl x (own_congr (h.slots x h1) fun g hg => hf6.block g ((h.slots x h1).lt g hg).2 (by simp))
    · have e : x = o := by simpa using h1
      rw [e]
      exact hsl o (own_base ho6 hB)
theorem RRep.ovNe {w : World} {B r : Nat} {R : RS} (h : RRep w B r R) : ∀ b, R.ov.ownBlock = some b → b ≠ r := fun b hb e => by
  subst e
  have h2 := h.top
  rcases h.row.2 with ⟨q1, _⟩ | ⟨g1, cap1, cur1, q1, q2, q3, _⟩
  · rw [q1] at hb; simp [Value.ownBlock] at hb
  · rw [q1] at hb
    have a1 : g1 = b := by simpa [Value.ownBlock] using hb
    subst a1
    rw [h2] at q3
    simp at q3
end Go.Proofs.YtpaekbghnejhoaaDoor


