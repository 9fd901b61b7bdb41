import Derived.Test.YtcoddjdicodmhaaDoorKHRefM
import Derived.Test.YtcoddjdicodmhaaDoorKHHandM
import Derived.Deep.RegionHeld3
namespace Go.Proofs.YtcoddjdicodmhaaDoor
open Go.RowKit
set_option linter.unusedVariables false
/-- an append whose run is known, as one step of a region that draws -/
theorem step_append_run {P : Program} {ops : Array Oper} {o : Oper} {a : Act} {w : World} {K : Act → World → Prop} {Q : Exit → Act → World → Prop} {E : Prop}
    (hg : o.guard = none) (s x : Operand) (t tn : TypeId) (ho : o.op = .call { callee := .builtin .append, args := #[s, x], argTypes := #[t, tn] }) (vs vx : Value) (hs : a.eval s = vs) (hx : a.eval x = vx)
    (v' : Value) (w' : World) (hr : (Builtin.append_ #[t, tn] o.type #[vs, vx]).run P w = .ok v' w') (h : K (a.put o.dst v') w') : if Region.wanted o (yielded ops a.tmps) = true then Oper.wp P o a w K Q else E := by
  have hw : Region.wanted o (yielded ops a.tmps) = true := by simp [Region.wanted, hg]
  rw [if_pos hw]
  exact Lib.wp_append_run w s x t tn ho vs vx hs hx v' w' hr h
/-- one object more in the document's heap -/
theorem RRep.next {V5 w6 w7 V : World} {B r : Nat} {R : RS} {o : RO} {v7 : Value} (h : RRep V5 B r R) (hf6 : Fr [] V5 w6) (ho6 : w6.ownsRow V5.heap.size 33 1 o.v o.slots.length (o.slots.map (Value.int .i64))) (hB : B ≤ V5.heap.size) (hrB : ∀ b, R.ov.ownBlock = some b → b ≠ r)
    (hg : (w6.alloc (.cells (ro6 o).toArray 114)).grownBy w7 R.ov.ownBlock) (hown : w7.ownsRow B 114 6 v7 (R.objs.length + 1) (roCells R.objs ++ ro6 o))
    (hv7 : ∀ b, v7.ownBlock = some b → b ≠ r) (he : Eqw ((w7.setCell ⟨r, 5, none⟩ v7).setCell ⟨r, 3, none⟩ (I (R.born + 1))) V) : RRep V B r { R with objs := R.objs ++ [o], born := R.born + 1, ov := v7 } := by
  have hr5 := lt_of_heap h.top
  have h6 := hf6.size
  have hlo := h.lo
  have hV : ∀ i, i ≠ r → V.heap[i]? = w7.heap[i]? := fun i hi => by rw [he.2.2.2, set_else hi, set_else hi]
  have h7 : ∀ i, i < w6.heap.size → some i ≠ R.ov.ownBlock → w7.heap[i]? = w6.heap[i]? := fun i hi hn => by
    rw [hg.block i (by simp; omega) hn]
    exact Below.heap_alloc _ _ _ hi
  have htop7 : w7.heap[r]? = some (.cells (rcells R) 111 (0, 0)) := by
    rw [h7 r (by omega) (fun e => hrB r e.symm rfl), hf6.block r hr5 (by simp)]
    exact h.top
  have hsl : ∀ x : RO, w6.ownsRow B 33 1 x.v x.slots.length (x.slots.map (Value.int .i64)) → V.ownsRow B 33 1 x.v x.slots.length (x.slots.map (Value.int .i64)) := fun x hx => by
    have hrow6 : w6.ownsRow B 114 6 R.ov R.objs.length (roCells R.objs) := own_congr h.row fun g hg => hf6.block g (h.row.lt g hg).2 (by simp)
    refine own_congr hx fun g hgg => ?_
    have hl := hx.lt g hgg
    have hgr : g ≠ r := fun e => by
      subst e
      have h2 := h.top
      rcases hx.2 with ⟨q1, _⟩ | ⟨g1, cap1, cur1, q1, q2, q3, _⟩
      · rw [q1] at hgg; simp [Value.ownBlock] at hgg
      · rw [q1] at hgg
        have a1 : g1 = g := by simpa [Value.ownBlock] using hgg
        subst a1
        rw [hf6.block g1 hr5 (by simp), h2] at q3
        simp at q3
    rw [hV g hgr]
    exact h7 g hl.2 (fun e => own_type hx hrow6 (by decide) hgg e.symm)
  refine ⟨h.lo, ?_, ?_, fun x hx => ?_⟩
  · rw [he.2.2.2, set_in (set_in htop7 5 _) 3 _]
    rfl
  · show V.ownsRow B 114 6 v7 (R.objs ++ [o]).length (roCells (R.objs ++ [o]))
    rw [List.length_append, roCells_append]
    exact own_congr hown fun g hgg => hV g (hv7 g hgg)
  · rcases List.mem_append.1 hx with h1 | h1
    · exact hsl x (own_congr (h.slots x h1) fun g hg => hf6.block g ((h.slots x h1).lt g hg).2 (by simp))
    · have e : x = o := by simpa using h1
      rw [e]
      exact hsl o (own_base ho6 hB)
theorem RRep.ovNe {w : World} {B r : Nat} {R : RS} (h : RRep w B r R) : ∀ b, R.ov.ownBlock = some b → b ≠ r := fun b hb e => by
  subst e
  have h2 := h.top
  rcases h.row.2 with ⟨q1, _⟩ | ⟨g1, cap1, cur1, q1, q2, q3, _⟩
  · rw [q1] at hb; simp [Value.ownBlock] at hb
  · rw [q1] at hb
    have a1 : g1 = b := by simpa [Value.ownBlock] using hb
    subst a1
    rw [h2] at q3
    simp at q3
end Go.Proofs.YtcoddjdicodmhaaDoor
namespace Go.Proofs.YtcoddjdicodmhaaDoor
open Go.RowKit
set_option linter.unusedVariables false
section
variable {P : Program} {ops : Array Oper} {Q : Exit → Act → World → Prop} {md : Region.Mode} {S : World → Prop} {L : Nat}
/-- whatever order is picked, and S stands behind each but the last, number L -/
def wpLast (P : Program) (md : Region.Mode) (ops : Array Oper) (Q : Exit → Act → World → Prop) (S : World → Prop) (L : Nat) : Nat → Array Bool → Act → World → Prop
  | 0, listed, a, w => Region.ready md ops listed = [] ∧ Q .normal a w
  | fuel + 1, listed, a, w =>
    (Region.ready md ops listed = [] → Q .normal a w) ∧
    ∀ i ∈ Region.ready md ops listed, wpOp P ops Q i (fun a' w' => (i ≠ L → S w') ∧ wpLast P md ops Q S L fuel (listed.setIfInBounds i true) a' w') a w
theorem wpAny_of_last : ∀ (fuel : Nat) (listed : Array Bool) (a : Act) (w : World), wpLast P md ops Q S L fuel listed a w → wpAny P md ops Q fuel listed a w
  | 0, _, _, _, h => h
  | fuel + 1, _, _, _, h => ⟨h.1, fun i hi => wpOp_mono (fun a' w' h' => wpAny_of_last fuel _ a' w' h'.2) (h.2 i hi)⟩
/-- the last one waits for number i -/
def waitsB (md : Region.Mode) (ops : Array Oper) (L i : Nat) : Bool := match ops[L]? with | some o => o.after.any (fun e => Region.binds md e && e.on == i) | none => false
theorem wpLast_first {i : Nat} {oi : Oper} {v : Value} (hi : ops[i]? = some oi) (hsel : ∀ (j : Nat) (o : Oper) cs b, ops[j]? = some o → o.op ≠ .select cs b)
    (hQ : ∀ c a w, Q (.panic c) (a.put oi.dst v) w → Q (.panic c) a w) (hiL : i ≠ L) (hwt : waitsB md ops L i = true) :
    ∀ (fuel : Nat) (listed : Array Bool) (a : Act) (w : World),
      (∀ j oj, ops[j]? = some oj → j ≠ i → listed.getD j true = false → (∀ e ∈ oj.after, Region.binds md e = true → e.on ≠ i) → oi.apart ops oj = true) →
      i ∈ Region.ready md ops listed → YieldsIf P ops S oi v a → S w →
      wpLast P md ops Q S L fuel (listed.setIfInBounds i true) (a.put oi.dst v) w → wpLast P md ops Q S L (fuel + 1) listed a w := by
  intro fuel
  induction fuel with
  | zero =>
    intro listed a w _ hr hy hS H
    refine ⟨fun h => (by rw [h] at hr; cases hr), fun j hj => ?_⟩
    by_cases hji : j = i
    · subst hji; exact hy.wpOp hi hS ⟨fun _ => hS, H⟩
    · have := ready_mono hj hji
      rw [H.1] at this
      cases this
  | succ fuel ih =>
    intro listed a w hfree hr hy hS H
    refine ⟨fun h => (by rw [h] at hr; cases hr), fun j hj => ?_⟩
    by_cases hji : j = i
    · subst hji; exact hy.wpOp hi hS ⟨fun _ => hS, H⟩
    · have h1 := H.2 j (ready_mono hj hji)
      obtain ⟨hjun, oj, hoj, hall⟩ := mem_ready.1 hj
      have hnot : ∀ e ∈ oj.after, Region.binds md e = true → e.on ≠ i := fun e he hb heq => by
        have h1 := hall e he hb
        have h0 := (mem_ready.1 hr).1
        rw [heq] at h1
        rcases Nat.lt_or_ge i listed.size with h' | h'
        · simp [h'] at h0 h1; rw [h0] at h1; cases h1
        · simp [Array.getElem?_eq_none h'] at h1
      have hjL : j ≠ L := fun e => by
        subst e
        unfold waitsB at hwt
        rw [hoj] at hwt
        simp only [Array.any_eq_true, Bool.and_eq_true, beq_iff_eq] at hwt
        obtain ⟨n, hn, hb, ho⟩ := hwt
        exact hnot _ (Array.getElem_mem hn) hb ho
      have h2 := wpOp_putIf hoj (hfree j oj hoj hji hjun hnot) (fun cs b => hsel i oi cs b hi) (fun cs b => hsel j oj cs b hoj) hQ hy h1
      have hfree' : ∀ k ok, ops[k]? = some ok → k ≠ i → (listed.setIfInBounds j true).getD k true = false →
          (∀ e ∈ ok.after, Region.binds md e = true → e.on ≠ i) → oi.apart ops ok = true := fun k ok hk hki hun hno => by
        refine hfree k ok hk hki ?_ hno
        by_cases hjk : j = k
        · subst hjk; exact hjun
        · rw [getD_set_ne true hjk] at hun; exact hun
      refine wpOp_mono (fun a' w' h3 => ⟨h3.2.1, ih (listed.setIfInBounds j true) a' w' hfree' (ready_mono hr (Ne.symm hji)) h3.1 (h3.2.1 hjL) ?_⟩) h2
      rw [Array.setIfInBounds_comm _ _ hji]
      exact h3.2.2
theorem wpLast_take {i : Nat} {oi : Oper} {v : Value} {fuel : Nat} {listed : Array Bool} {a : Act} {w : World} (hi : ops[i]? = some oi)
    (hs : Region.noSelect ops = true) (hf : Region.free md ops listed i = true) (hr : (Region.ready md ops listed).contains i = true) (hiL : i ≠ L) (hwt : waitsB md ops L i = true)
    (hQ : ∀ c a w, Q (.panic c) (a.put oi.dst v) w → Q (.panic c) a w) (hy : YieldsIf P ops S oi v a) (hS : S w)
    (h : wpLast P md ops Q S L fuel (listed.setIfInBounds i true) (a.put oi.dst v) w) : wpLast P md ops Q S L (fuel + 1) listed a w :=
  wpLast_first hi (Region.noSelect_spec hs) hQ hiL hwt fuel listed a w (Region.free_spec hi hf) (by simpa using hr) hy hS h
/-- just one may come up -/
theorem wpLast_one {i : Nat} {o : Oper} {fuel : Nat} {listed : Array Bool} {a : Act} {w : World} (hr : Region.ready md ops listed = [i]) (ho : ops[i]? = some o) (hiL : i ≠ L)
    (h : ∀ K' : Act → World → Prop, Shut (∀ a w, S w → (S w → wpLast P md ops Q S L fuel (listed.setIfInBounds i true) a w) → K' a w) → if Region.wanted o (yielded ops a.tmps) = true then Oper.wp P o a w K' Q else K' (a.put o.dst undef) w) : wpLast P md ops Q S L (fuel + 1) listed a w := by
  refine ⟨fun h0 => (by rw [hr] at h0; cases h0), fun j hj => ?_⟩
  rw [hr] at hj
  have e : j = i := by simpa using hj
  subst e
  exact wpOp_step ho (fun K' hK => h K' (fun a w hS hW => hK a w ⟨fun _ => hS, hW hS⟩))
/-- the last comes up -/
theorem wpLast_end {o : Oper} {fuel : Nat} {listed : Array Bool} {a : Act} {w : World} (hr : Region.ready md ops listed = [L]) (ho : ops[L]? = some o)
    (hr2 : Region.ready md ops (listed.setIfInBounds L true) = [])
    (h : ∀ K' : Act → World → Prop, Shut (∀ a w, Q .normal a w → K' a w) → if Region.wanted o (yielded ops a.tmps) = true then Oper.wp P o a w K' Q else K' (a.put o.dst undef) w) : wpLast P md ops Q S L (fuel + 1) listed a w := by
  refine ⟨fun h0 => (by rw [hr] at h0; cases h0), fun j hj => ?_⟩
  rw [hr] at hj
  have e : j = L := by simpa using hj
  subst e
  refine wpOp_step ho (fun K' hK => h K' (fun a w hQ => hK a w ⟨fun h => absurd rfl h, ?_⟩))
  cases fuel with
  | zero => exact ⟨hr2, hQ⟩
  | succ n => exact ⟨fun _ => hQ, by rw [hr2]; simp⟩
theorem wp_region_last {id : Nat} {a : Act} {w : World} (hm : P.follows .mixedOrders = true) (hS : S w.drew)
    (h : S w.drew → wpLast P .any ops Q S L ops.size (Array.replicate ops.size false) a w.drew) : (Code.region id ops true).wp P Q a w :=
  wp_region_any hm (wpAny_of_last _ _ _ _ (h hS))
end
end Go.Proofs.YtcoddjdicodmhaaDoor
