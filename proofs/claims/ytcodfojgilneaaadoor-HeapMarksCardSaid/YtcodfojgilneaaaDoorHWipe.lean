import Derived.Test.YtcodfojgilneaaaDoorHRem
import Derived.Laws.CopyOwn
namespace Go.Proofs.YtcodfojgilneaaaDoor
open Go.RowKit
set_option linter.unusedVariables false
theorem zv33 (w : World) : (zeroValue 33).run Tryd.prog w = .ok (.int .i64 0) w := by
  obtain ⟨i0, hi, hz0, hz1, hz2⟩ := info_parts info33
  simp [zeroValue, typeInfo, hi, hz0]
theorem run_clear80 (w : World) (ty : TypeId) (g o n c : Nat) (C : Array Value) (hn : 0 < n) (hg : w.heap[g]? = some (.cells C 33 (0, 0))) (hfit : o + n ≤ C.size) :
    (Builtin.clear_ #[80] ty #[.slice (some ⟨g, o, none⟩) n c]).run Tryd.prog w = .ok (.tuple #[]) (w.setRow g (splice C.toList o (zeros n)).toArray) := by
  have hzc : (Builtin.zeroCells (Value.int .i64 0).cells n).toList = zeros n := by
    show (Builtin.zeroCells #[.int .i64 0] n).toList = List.replicate n (.int .i64 0)
    simp [Builtin.zeroCells]
    apply List.ext_getElem
    · simp
    · intro i h1 h2
      simp [Nat.mod_one]
  have hst := run_storeCells_at Tryd.prog g o 33 (zeros n) 0 C w hg (by rw [zeros_len]; omega) (by intro v hv; rw [List.eq_of_mem_replicate hv]; rfl)
  obtain ⟨m, rfl⟩ : ∃ m, n = m + 1 := ⟨n - 1, by omega⟩
  simp only [Nat.add_zero, List.append_assoc] at hst
  simp [Builtin.clear_, run_underlying Tryd.underlying80, hzc, hst, splice]
theorem step_clear {ops : Array Oper} {o : Oper} {a : Act} {w : World} {K : Act → World → Prop} {Q : Exit → Act → World → Prop} {E : Prop} (hgd : o.guard = none) (d : Operand)
    (ho : o.op = .call { callee := .builtin .clear, args := #[d], argTypes := #[80] }) (g off n c : Nat) (hd : a.eval d = .slice (some ⟨g, off, none⟩) n c) (hn : 0 < n) (C : Array Value) (hg : w.heap[g]? = some (.cells C 33 (0, 0))) (hfit : off + n ≤ C.size)
    (h : ∀ w', w'.heap[g]? = some (.cells (splice C.toList off (zeros n)).toArray 33 (0, 0)) → Fr [g] w w' → w'.heap.size = w.heap.size → K (a.put o.dst (.tuple #[])) w') :
    if Region.wanted o (yielded ops a.tmps) = true then Oper.wp Tryd.prog o a w K Q else E := by
  have hw : Region.wanted o (yielded ops a.tmps) = true := by simp [Region.wanted, hgd]
  rw [if_pos hw]
  have hrun := run_clear80 w o.type g off n c C hn hg hfit
  unfold Oper.wp
  simp [execOp, ho, resolve, invoke, builtin, hd, hrun, Result.andThen]
  exact h _ (setRow_heap w g C _ 33 _ hg) (Fr.setRow w g _ (by simp)) (by simp)
theorem wpList_clear {ops : Array Oper} {rest : List Oper} {o : Oper} {a : Act} {w : World} {Q : Exit → Act → World → Prop} (hgd : o.guard = none) (d : Operand)
    (ho : o.op = .call { callee := .builtin .clear, args := #[d], argTypes := #[80] }) (g off n c : Nat) (hd : a.eval d = .slice (some ⟨g, off, none⟩) n c) (hn : 0 < n) (C : Array Value) (hg : w.heap[g]? = some (.cells C 33 (0, 0))) (hfit : off + n ≤ C.size)
    (h : ∀ w', w'.heap[g]? = some (.cells (splice C.toList off (zeros n)).toArray 33 (0, 0)) → Fr [g] w w' → w'.heap.size = w.heap.size → wpList Tryd.prog ops Q rest (a.put o.dst (.tuple #[])) w') : wpList Tryd.prog ops Q (o :: rest) a w := by
  refine wpList_plain hgd fun K hK => ?_
  have hrun := run_clear80 w o.type g off n c C hn hg hfit
  unfold Oper.wp
  simp [execOp, ho, resolve, invoke, builtin, hd, hrun, Result.andThen]
  exact hK _ _ (h _ (setRow_heap w g C _ 33 _ hg) (Fr.setRow w g _ (by simp)) (by simp))
/-- the memory's cells, whole -/
theorem Rep.memCells {w : World} {a : Nat} {l : Lay} {H : HS} {g : Nat} (h : Rep w a l H) (hg : l.pm = some ⟨g, 0, none⟩) :
    ∃ C, w.heap[g]? = some (.cells C 33 (0, 0)) ∧ C.toList = (H.mem ++ List.replicate (l.cm - H.mem.length) 0).map (Value.int .i64) ∧ C.size = l.cm ∧ l.cm ≤ maxLen := by
  have hb := h.mem
  rw [hg] at hb
  rcases hb.2 with ⟨q, _⟩ | ⟨g', cap, cur, q1, q2, q3, q4, q5, q6, q7⟩
  · cases q
  · injection q1 with q1a q1b q1c
    injection q1a with q1a
    injection q1a with q1a
    subst q1a
    rw [List.take_of_length_le (by rw [Array.length_toList, q6, q1c]; exact Nat.le_refl _)] at q7
    exact ⟨cur, q3, q7, by omega, by omega⟩
/-- other words stand in the memory now -/
theorem Rep.newMem {w w2 : World} {a : Nat} {l : Lay} {H : HS} {g : Nat} {ms : List Int} (h : Rep w a l H) (hg : l.pm = some ⟨g, 0, none⟩) (hl : ms.length = H.mem.length)
    (h2 : w2.heap[g]? = some (.cells ((ms ++ List.replicate (l.cm - H.mem.length) 0).map (Value.int .i64)).toArray 33 (0, 0))) (hf : Fr [g] w w2) : Rep w2 a l { H with mem := ms } ∧ Nx a l l w w2 := by
  have hgb : g ∈ blk l.pm := by rw [hg]; simp [blk]
  have hap := (h.apart g).1 hgb
  obtain ⟨C, hC, hCl, hCs, hcm⟩ := h.memCells hg
  have hml := h.ml
  have hlen : ((ms ++ List.replicate (l.cm - ms.length) (0 : Int)).map (Value.int .i64)).length = l.cm := by simp; omega
  have ho : w2.ownsRow 0 33 1 (.slice l.pm l.cm l.cm) l.cm ((ms ++ List.replicate (l.cm - ms.length) 0).map (Value.int .i64)) := by
    rw [← hl] at h2
    rw [hg]
    refine ⟨by rw [hlen]; omega, .inr ⟨g, l.cm, _, rfl, Nat.zero_le _, h2, Nat.le_refl _, hcm, by simpa using hlen, ?_⟩⟩
    rw [List.take_of_length_le (by rw [Nat.mul_one]; exact Nat.le_of_eq hlen)]
  have hf' : ∀ k, k = a ∨ k ∈ blk l.ps ∨ k ∈ blk l.po ∨ k ∈ blk l.pb → w2.heap[k]? = w.heap[k]? := fun k hk => by
    have hlt : k < w.heap.size := h.lt k (by simp only [foot, Lay.blocks, List.mem_cons, List.mem_append]; rcases hk with h1 | h1 | h1 | h1 <;> simp [h1])
    refine hf.block k hlt (fun hm => ?_)
    simp at hm
    subst hm
    rcases hk with h1 | h1 | h1 | h1
    · exact hap.1 h1
    · exact hap.2.1 h1
    · exact hap.2.2.1 h1
    · exact hap.2.2.2 h1
  exact ⟨h.turnMem hl hf' ho, Nx.frw (hf.mono (fun b hb => by simp at hb; subst hb; simp [foot, Lay.blocks, hgb]))⟩
theorem splice_map (M Z : List Int) (off : Nat) (vs : List Int) (h : off + vs.length ≤ M.length) : splice ((M ++ Z).map (Value.int .i64)) off (vs.map (Value.int .i64)) = (splice M off vs ++ Z).map (Value.int .i64) := by
  unfold splice
  rw [List.map_append, List.map_append, List.map_append, List.map_append, List.map_take, List.map_drop, List.length_map]
  rw [List.take_append_of_le_length (by simp; omega), List.drop_append_of_le_length (by simp; omega)]
  simp
theorem zeros_map (n : Nat) : zeros n = (List.replicate n (0 : Int)).map (Value.int .i64) := by simp [zeros]
/-- a stretch of memory is overlaid -/
theorem Rep.spliced {w w2 : World} {a : Nat} {l : Lay} {H : HS} {g off : Nat} {vs : List Int} {C : Array Value} (h : Rep w a l H) (hg : l.pm = some ⟨g, 0, none⟩) (hC : w.heap[g]? = some (.cells C 33 (0, 0))) (ho : off + vs.length ≤ H.mem.length)
    (h2 : w2.heap[g]? = some (.cells (splice C.toList off (vs.map (Value.int .i64))).toArray 33 (0, 0))) (hf : Fr [g] w w2) : Rep w2 a l { H with mem := splice H.mem off vs } ∧ Nx a l l w w2 := by
  obtain ⟨C', hC', hCl, hCs, hcm⟩ := h.memCells hg
  rw [hC] at hC'
  injection hC' with hC'
  injection hC' with hC'
  subst hC'
  rw [hCl, splice_map _ _ _ _ ho] at h2
  exact h.newMem hg (length_splice _ _ _ ho) h2 hf
end Go.Proofs.YtcodfojgilneaaaDoor
