import Derived.Test.YtheolmnjedbjmaaGreatDoorSLg
import Derived.Test.YtheolmnjedbjmaaGreatDoorGB
import Derived.Test.YtheolmnjedbjmaaGreatDoorSL3
import Derived.Test.YtheolmnjedbjmaaGreatDoorSL1
namespace Go.Proofs.YtheolmnjedbjmaaGreatDoor
open Go.RowKit
set_option linter.unusedVariables false
set_option linter.unusedSimpArgs false
attribute [local go_sem ↓] Go.wp_at_zero Go.wp_at_succ

theorem run_cat {X Y Z : Bs} (hZ : X ++ Y = Z) (hl : X.length + Y.length ≤ 9223372036854775807) (w : World) : (binOp .add 9 (.string (ba X)) (.string (ba Y))).run Tryz.prog w = .ok (.string (ba Z)) w := by
  have h1 := ba_size X
  have h2 := ba_size Y
  have h3 : ¬ 9223372036854775807 < (ba X).size + (ba Y).size := by rw [h1, h2]; omega
  rw [← hZ, ← ba_app]
  go_simp
theorem cat_run {a : Act} {x y : Operand} {X Y Z : Bs} {o : Oper} (hx : a.eval x = .string (ba X)) (hy : a.eval y = .string (ba Y)) (hZ : X ++ Y = Z) (hl : X.length + Y.length ≤ 9223372036854775807) (ho : o.op = .binOp .add 9 x y 9) (w : World) : (execOp a.eval o).run Tryz.prog w = .ok (.value (.string (ba Z))) w := by
  have h := run_cat hZ hl w
  simp [execOp, ho, hx, hy, eqGuard, h]
theorem conv_step {a : Act} {x : Operand} {v v' : Value} {o : Oper} {s d : TypeId} {w w' : World} (ho : o.op = .convert s d x) (hx : a.eval x = v) (hr : (convert s d v).run Tryz.prog w = .ok v' w') : (execOp a.eval o).run Tryz.prog w = .ok (.value v') w' := by
  simp only [execOp, ho, hx, Sem.run_bind, hr]
  rfl
theorem ba_toList (t : Bs) : (ba t).toList = t := by rw [toList_data]; exact ba_data t
theorem cutNl_len (l : Bs) : (cutNl l).length ≤ l.length := by
  unfold cutNl Lib.trimSuffix
  split
  · rw [List.length_take]; omega
  · exact Nat.le_refl _
theorem linesT_ne : ∀ (t : Bs), ∀ l ∈ linesT t, 1 ≤ l.length
  | [], l, h => by cases h
  | c :: r, l, h => by
    unfold linesT at h
    split at h
    · rcases List.mem_cons.1 h with rfl | h
      · simp
      · exact linesT_ne r l h
    · have ih := linesT_ne r
      cases hr : linesT r with
      | nil => rw [hr] at h; simp at h; subst h; simp
      | cons x xs =>
        rw [hr] at h ih
        rcases List.mem_cons.1 h with rfl | h
        · simp
        · exact ih l (by simp [h])
theorem sum_mem (l : List Nat) (x : Nat) (h : x ∈ l) : x ≤ l.sum := by
  induction l with
  | nil => cases h
  | cons a l ih =>
    rw [List.sum_cons]
    rcases List.mem_cons.1 h with rfl | h
    · omega
    · have := ih h; omega
theorem len_sum (L : List Bs) (h : ∀ l ∈ L, 1 ≤ l.length) : L.length ≤ (L.map List.length).sum := by
  induction L with
  | nil => simp
  | cons a L ih =>
    have := ih (fun l hl => h l (by simp [hl]))
    have := h a (by simp)
    simp
    omega
theorem linesT_small (t : Bs) : (linesT t).length ≤ t.length ∧ ∀ l ∈ linesT t, l.length ≤ t.length := by
  have h1 := lines_len t
  refine ⟨by rw [← h1]; exact len_sum _ (linesT_ne t), fun l hl => ?_⟩
  rw [← h1]
  exact sum_mem _ _ (List.mem_map.2 ⟨l, hl, rfl⟩)
theorem linesB_small (t : Bs) : (linesB t).length ≤ t.length ∧ ∀ i (hi : i < (linesB t).length), (linesB t)[i].length ≤ t.length := by
  have h := linesT_small t
  refine ⟨by unfold linesB; rw [List.length_map]; exact h.1, fun i hi => ?_⟩
  unfold linesB at hi ⊢
  rw [List.length_map] at hi
  rw [List.getElem_map]
  exact Nat.le_trans (cutNl_len _) (h.2 _ (List.getElem_mem hi))
theorem tellLines_sum (L : List Bs) : (tellLines L).length = 3 * L.length + (L.map List.length).sum := by
  induction L with
  | nil => rfl
  | cons a L ih =>
    unfold tellLines at ih ⊢
    rw [List.flatMap_cons, List.length_append, ih]
    simp
    omega
theorem sum_cut (L : List Bs) : ((L.map cutNl).map List.length).sum ≤ (L.map List.length).sum := by
  induction L with
  | nil => simp
  | cons a L ih =>
    have := cutNl_len a
    simp at ih ⊢
    omega
theorem sum_take (L : List Nat) (i : Nat) : (L.take i).sum ≤ L.sum := by
  induction L generalizing i with
  | nil => simp
  | cons a L ih =>
    cases i with
    | zero => simp
    | succ i => have := ih i; simp; omega
theorem tellLines_len (t : Bs) (i : Nat) : (tellLines ((linesB t).take i)).length ≤ 4 * t.length := by
  rw [tellLines_sum]
  have h1 := (linesB_small t).1
  have h2 : (((linesB t).take i).map List.length).sum ≤ t.length := by
    rw [List.map_take]
    refine Nat.le_trans (sum_take _ _) ?_
    unfold linesB
    refine Nat.le_trans (sum_cut _) ?_
    rw [lines_len]
    exact Nat.le_refl _
  rw [List.length_take]
  omega
def In64 (n : Int) : Prop := -9223372036854775808 ≤ n ∧ n ≤ 9223372036854775807
/-- an answer, and where its texts lie -/
def ansV (n1 : Int) (c1 c2 : Bs) (n5 n2 n3 n4 : Int) (t : Bs) : Array Value := #[.int .i64 n1, .string (ba c1), .string (ba c2), .int .i64 n5, .int .i64 n2, .int .i64 n3, .int .i64 n4, .string (ba t)]
end Go.Proofs.YtheolmnjedbjmaaGreatDoor

namespace Go.Proofs.YtheolmnjedbjmaaGreatDoor
open Go.RowKit Go.Shelf
set_option linter.unusedVariables false
set_option linter.unusedSimpArgs false
attribute [local go_sem ↓] Go.wp_at_zero Go.wp_at_succ
theorem wpListIn_append_run {F : Fence} {n' : Nat} {P : Program} (w : World) {ops : Array Oper} {rest : List Oper} {o : Oper} {a : Act} {Q : Exit → Act → World → Prop} (hgd : o.guard = none) (s x : Operand) (t tn : TypeId)
    (ho : o.op = .call { callee := .builtin .append, args := #[s, x], argTypes := #[t, tn] }) (vs vx : Value) (hs : a.eval s = vs) (hx : a.eval x = vx)
    (v' : Value) (w' : World) (hr : (Builtin.append_ #[t, tn] o.type #[vs, vx]).run P w = .ok v' w') (h : wpListIn F n' P ops Q rest (a.put o.dst v') w') : wpListIn F n' P ops Q (o :: rest) a w := by
  refine wpListIn_plain hgd fun K hK => ?_
  unfold Oper.wpIn
  refine ⟨by simp [Oper.about, ho, resolve, Target.leads, Sem.run_pure], ?_⟩
  rw [Oper.semAt_plain F _ _ (by rw [ho]; intro c hc'; cases hc')]
  simp [execOp, ho, resolve, invoke, builtin, hs, hx, hr, Result.andThen]
  exact hK _ _ h
theorem Bl.trans' {a b c : World} (h : Bl a b) (k : Below a.heap.size b c) : Bl a c := Below.trans h k
theorem wide_fn (f : FuncId) : Fence.wide.fn f = True := rfl
theorem ent (n : Nat) (fn : Func) (c : Code) (hf : Tryz.prog.funcs[n]? = some fn) (hn : (fn.name == "runtime.NumGoroutine") = false) (hb : fn.body = some c) : Enters Tryz.prog n := enters_of hf hn hb
theorem stepIn_append_run {F : Fence} {n : Nat} {P : Program} {ops : Array Oper} {o : Oper} {a : Act} {w : World} {K : Act → World → Prop} {Q : Exit → Act → World → Prop} {E : Prop} (hg : o.guard = none) (s x : Operand) (t tn : TypeId)
    (ho : o.op = .call { callee := .builtin .append, args := #[s, x], argTypes := #[t, tn] }) (vs vx : Value) (hs : a.eval s = vs) (hx : a.eval x = vx)
    (v' : Value) (w' : World) (hr : (Builtin.append_ #[t, tn] o.type #[vs, vx]).run P w = .ok v' w') (h : K (a.put o.dst v') w') : if Region.wanted o (yielded ops a.tmps) = true then Oper.wpIn F n P o a w K Q else E := by
  have hw : Region.wanted o (yielded ops a.tmps) = true := by simp [Region.wanted, hg]
  rw [if_pos hw]
  unfold Oper.wpIn
  refine ⟨by simp [Oper.about, ho, resolve, Target.leads, Sem.run_pure], ?_⟩
  rw [Oper.semAt_plain F _ _ (by rw [ho]; intro c hc'; cases hc')]
  simp [execOp, ho, resolve, invoke, builtin, hs, hx, hr, Result.andThen]
  exact h
/-- a page when another block is written -/
theorem Pg.fr {W C : World} {B : Nat} {v : Value} {bs : Bs} (h : Pg W B v bs) {b : Nat} (f : Fr [b] W C) (hb : ∀ cur fz, W.heap[b]? ≠ some (.cells cur 5 fz)) (hB : B ≤ b) : Pg C B v bs := by
  have hbel := f.below h.low (fun x hx => by simp at hx; omega)
  refine ⟨own_congr h.row fun g hg => f.block g (own_lt h.row g hg).2 (fun hm => ?_), Nat.le_trans h.low f.size, h.tab.on hbel⟩
  obtain ⟨cur, hc⟩ := row_block h.row hg
  have : g = b := by simpa using hm
  subst this
  exact hb _ _ hc
theorem Lt.fr {W C : World} {B : Nat} {v : Value} {bs : Bs} (h : Lt W B v bs) {b : Nat} (f : Fr [b] W C) (hb : ∀ cur fz, W.heap[b]? ≠ some (.cells cur 5 fz)) (hB : B ≤ b) : Lt C B v bs := by
  have hbel := f.below h.low (fun x hx => by simp at hx; omega)
  obtain ⟨g, e, hg, hc⟩ := h.at_
  refine ⟨⟨g, e, hg, (f.block g (lt_of_heap hc) (fun hm => ?_)).trans hc⟩, Nat.le_trans h.low f.size, h.tab.on hbel⟩
  have : g = b := by simpa using hm
  subst this
  exact hb _ _ hc
theorem Pq.fr {W C : World} {B : Nat} {v : Value} {bs : Bs} (h : Pq W B v bs) {b : Nat} (f : Fr [b] W C) (hb : ∀ cur fz, W.heap[b]? ≠ some (.cells cur 5 fz)) (hB : B ≤ b) : Pq C B v bs := h.imp (·.fr f hb hB) (·.fr f hb hB)
theorem Pg.form {W : World} {B : Nat} {v : Value} {bs : Bs} (h : Pg W B v bs) : ∃ a n c, v = .slice a n c := by
  rcases h.row.2 with ⟨h2, _⟩ | ⟨g, cap, cur, h1, _⟩
  · exact ⟨_, _, _, h2⟩
  · exact ⟨_, _, _, h1⟩
theorem Pq.form {W : World} {B : Nat} {v : Value} {bs : Bs} (h : Pq W B v bs) : ∃ a n c, v = .slice a n c := by
  rcases h with h | h
  · exact h.form
  · obtain ⟨g, e, _⟩ := h.at_
    exact ⟨_, _, _, e⟩
/-- between two rounds of Tell -/
structure TIn (W : World) (P sB : Nat) (hd : Bs) (pre : List Bs) (V : World) : Prop where
  pg : ∃ v, Pg V W.heap.size v (hd ++ tellLines (pre.map cutNl)) ∧ V.heap[P]? = some (.cells #[v] 54 (0, 0))
  s : ∃ x, V.heap[sB]? = some (.cells #[x] 9 (0, 0))
  bl : Bl W V
def TI (W : World) (P sB : Nat) (hd : Bs) (pre : List Bs) (V : World) : Prop := Hid (TIn W P sB hd pre V)
theorem n5 : ∀ {X : Array Value} {t : TypeId} {f : Nat × Nat}, t ≠ 5 → ∀ c g, Obj.cells X t f ≠ .cells c 5 g := fun ht c g e => by injection e with e1 e2; exact ht e2
theorem TIn.step {W : World} {P sB : Nat} {hd : Bs} {pre : List Bs} {A C : World} {b : Nat} (h : TIn W P sB hd pre A) (f : Fr [b] A C) (hW : W.heap.size ≤ b) (hP : P ≠ b) (hb : ∀ cur fz, A.heap[b]? ≠ some (.cells cur 5 fz)) (hs : ∃ x, C.heap[sB]? = some (.cells #[x] 9 (0, 0))) : TIn W P sB hd pre C := by
  obtain ⟨v, h1, h2⟩ := h.pg
  exact ⟨⟨v, h1.fr f hb hW, (f.block P (lt_of_heap h2) (by simpa using hP)).trans h2⟩, hs, (h.bl.fr.trans f (fun x hx => by simp at hx; omega)).bl⟩
theorem ti_stays {W : World} {P sB B0 : Nat} {hd : Bs} (hP : W.heap.size ≤ P) (hPs : P < sB) (hB : sB < B0) : Stays B0 sB (TI W P sB hd) := by
  intro s A C b h f hb
  have h' := h.out
  obtain ⟨v, h1, h2⟩ := h'.pg
  rcases hb with ⟨rfl, hx⟩ | ⟨hB2, o, ho, hc⟩
  · obtain ⟨x, hx0⟩ := h'.s
    exact mkHid (h'.step f (by omega) (by omega) (fun cur fz e => by rw [hx0] at e; injection e with e; exact n5 (by decide) _ _ e) hx)
  · obtain ⟨x, hx0⟩ := h'.s
    refine mkHid (h'.step f (by omega) (by omega) (fun cur fz e => by rw [ho] at e; injection e with e; subst e; cases hc) ⟨x, (f.block _ (lt_of_heap hx0) (by simp; omega)).trans hx0⟩)
end Go.Proofs.YtheolmnjedbjmaaGreatDoor

