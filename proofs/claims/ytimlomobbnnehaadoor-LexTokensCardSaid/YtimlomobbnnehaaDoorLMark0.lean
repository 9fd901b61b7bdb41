import Derived.Test.YtimlomobbnnehaaDoorLCutW
namespace Go.Proofs.YtimlomobbnnehaaDoor
open Go.RowKit
set_option linter.unusedVariables false
set_option linter.unusedSimpArgs false
theorem ret4' {f : Func} {V w : World} {B : Nat} {tm : Array Value} (x : Q4) (hres : f.results = #[.cell 2 41, .tmp 3])
    (hVb : V.heap[B]? = some (.cells #[.int .i64 x.1, .string (ba x.2.1), .int .i64 x.2.2.1, .int .i64 0] 41 (0, 0))) (hVl : Bl w V)
    (h2 : tm.getD 2 undef = .pointer (some ⟨B, 0, none⟩)) (h3 : tm.getD 3 undef = .int .i64 x.2.2.2) :
    bodyPost Tryd.prog f (fun e w' => e = .returned (cv x) ∧ Bl w w') .ret ⟨tm, []⟩ V := by
  have x0 : V.cell? ⟨B, 0, none⟩ = some (.int .i64 x.1) := by rw [cell_in hVb]; rfl
  have x1 : V.cell? ⟨B, 1, none⟩ = some (.string (ba x.2.1)) := by rw [cell_in hVb]; rfl
  have x2 : V.cell? ⟨B, 2, none⟩ = some (.int .i64 x.2.2.1) := by rw [cell_in hVb]; rfl
  have x3 : V.cell? ⟨B, 3, none⟩ = some (.int .i64 0) := by rw [cell_in hVb]; rfl
  have h2' : tm[2]?.getD undef = .pointer (some ⟨B, 0, none⟩) := by simpa using h2
  have h3' : tm[3]?.getD undef = .int .i64 x.2.2.2 := by simpa using h3
  refine bodyPost_ret (v := cv x) (by simp [results, hres, go_sem, h2, h3, h2', h3', x0, x1, x2, x3, cv]) rfl ⟨rfl, hVl⟩
def marksL : List (Nat × Bs) := [(7, [35, 40]), (14, [58, 61]), (8, [40]), (9, [41]), (10, [91]), (11, [93]), (12, [124]), (13, [58]), (15, [94]), (16, [46]), (17, [59])]
def marksC : List Value := marksL.flatMap fun x => [.int .i64 x.1, .string (ba x.2)]
/-- the tables of the package: the marks; the library's one number -/
structure Tab (w : World) : Prop where
  two : 1 < w.heap.size
  mark : ∀ i v, marksC[i]? = some v → w.cell? ⟨0, i, none⟩ = some v
  max : ∃ m, w.cell? ⟨1, 0, none⟩ = some (.int .i64 m)
theorem Tab.mono {w w' : World} (h : Tab w) (b : Bl w w') : Tab w' where
  two := Nat.lt_of_lt_of_le h.two b.size
  mark := fun i v hv => by rw [World.cell?_of_block (w := w) (b.block 0 (by have := h.two; omega))]; exact h.mark i v hv
  max := by obtain ⟨m, hm⟩ := h.max; exact ⟨m, by rw [World.cell?_of_block (w := w) (b.block 1 h.two)]; exact hm⟩
def markF : List (Nat × Bs) → Bs → Q4
  | [], _ => (0, [], 0, 0)
  | (k, t) :: r, l => if Lib.hasPrefix l t = true then (k, [], 0, t.length) else markF r l
def kdAt (k : Nat) : Nat := (marksL.getD k (0, [])).1
def txAt (k : Nat) : Bs := (marksL.getD k (0, [])).2
theorem load_marks {w : World} (hT : Tab w) : (loadVar 64 ⟨0, 0, none⟩).run Tryd.prog w = .ok (.agg marksC.toArray) w := by
  have hl : (loadCells ⟨0, 0, none⟩ marksC.length).run Tryd.prog w = .ok marksC.toArray w :=
    run_loadCells_list (P := Tryd.prog) w ⟨0, 0, none⟩ marksC (fun j v hv => by
      have hadd : (⟨0, 0, none⟩ : Addr).add j = ⟨0, j, none⟩ := by unfold Addr.add; split <;> simp_all
      rw [hadd]
      exact hT.mark j v hv)
  have hi : (Tryd.prog.info? 64).map (·.size) = some 22 := by kernel_rfl
  cases hq : Tryd.prog.info? 64 with
  | none => simp [hq] at hi
  | some i =>
    have hs : i.size = 22 := by simpa [hq] using hi
    have hagg : (isAgg 64).run Tryd.prog w = .ok true w := by
      unfold isAgg
      rw [Sem.run_bind, run_underlying Tryd.underlying64 w]
      rfl
    have e : marksC.length = 22 := rfl
    rw [e] at hl
    simp [loadVar, Sem.run_bind, hagg, sizeOf, typeInfo, hq, hs, hl]
theorem index_marks {w : World} {k : Nat} (hk : k < 11) : (Instr.index 64 (.agg marksC.toArray) (.int .i64 k)).run Tryd.prog w = .ok (.agg #[.int .i64 (kdAt k), .string (ba (txAt k))]) w := by
  have hcase : k = 0 ∨ k = 1 ∨ k = 2 ∨ k = 3 ∨ k = 4 ∨ k = 5 ∨ k = 6 ∨ k = 7 ∨ k = 8 ∨ k = 9 ∨ k = 10 := by omega
  have hi : (Tryd.prog.info? 63).map (·.size) = some 2 := by kernel_rfl
  rcases hcase with rfl | rfl | rfl | rfl | rfl | rfl | rfl | rfl | rfl | rfl | rfl <;> simp [Instr.index, go_sem, Tryd.underlying64, marksC, marksL] <;> exact ⟨rfl, rfl⟩
theorem Bl.drew (w : World) : Bl w w.drew := ⟨rfl, rfl, rfl, Nat.le_refl _, fun _ _ => rfl⟩
theorem set4_heap {W : World} {B : Nat} (hr : W.heap[B]? = some z4) (a b c d : Value) : ((((W.setCell ⟨B, 0, none⟩ a).setCell ⟨B, 1, none⟩ b).setCell ⟨B, 2, none⟩ c).setCell ⟨B, 3, none⟩ d).heap[B]? = some (.cells #[a, b, c, d] 41 (0, 0)) := by
  rw [set_in (set_in (set_in (set_in hr 0 _) 1 _) 2 _) 3 _]
  rfl
theorem set4_bl {w W : World} {B : Nat} (hb : Bl w W) (hB : w.heap.size ≤ B) (a b c d : Value) : Bl w ((((W.setCell ⟨B, 0, none⟩ a).setCell ⟨B, 1, none⟩ b).setCell ⟨B, 2, none⟩ c).setCell ⟨B, 3, none⟩ d) :=
  set_bl (set_bl (set_bl (set_bl hb hB 0 _) hB 1 _) hB 2 _) hB 3 _
theorem wpList_loadV {ops : Array Oper} {rest : List Oper} {o : Oper} {a : Act} {w : World} {Q : Exit → Act → World → Prop} (hgd : o.guard = none) (ty : TypeId) (x : Operand) (ho : o.op = .load ty x)
    (g : Addr) (hx : a.eval x = .pointer (some g)) {v : Value} (hl : (loadVar ty g).run Tryd.prog w = .ok v w)
    (h : wpList Tryd.prog ops Q rest (a.put o.dst v) w) : wpList Tryd.prog ops Q (o :: rest) a w := by
  refine wpList_plain hgd fun K hK => ?_
  unfold Oper.wp execOp
  simp only [ho, hx, Instr.loadAt, Instr.sureAddr, Sem.run_bind, Sem.run_pure, Result.andThen_ok, hl]
  exact hK _ _ h
end Go.Proofs.YtimlomobbnnehaaDoor

