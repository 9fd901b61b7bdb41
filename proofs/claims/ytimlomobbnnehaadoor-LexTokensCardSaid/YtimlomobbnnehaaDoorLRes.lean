import Derived.Test.YtimlomobbnnehaaDoorLQ
import Derived.Deep.Draws
import Derived.Lib.SmallJoins
namespace Go.Proofs.YtimlomobbnnehaaDoor
open Go.RowKit
set_option linter.unusedVariables false
set_option linter.unusedSimpArgs false
theorem lt_of_heap {w : World} {b : Nat} {o : Obj} (h : w.heap[b]? = some o) : b < w.heap.size := (Array.getElem?_eq_some_iff.1 h).1
theorem cell_in {w : World} {b : Nat} {A : Array Value} {t : TypeId} {f : Nat × Nat} (h : w.heap[b]? = some (.cells A t f)) {i : Nat} : w.cell? ⟨b, i, none⟩ = A[i]? := by
  simp [World.cell?, h]
theorem frozen_in {w : World} {b : Nat} {A : Array Value} {t : TypeId} (h : w.heap[b]? = some (.cells A t (0, 0))) (i : Nat) : w.frozen? ⟨b, i, none⟩ = false := by
  simp [World.frozen?, h]
theorem set_in {w : World} {b : Nat} {A : Array Value} {t : TypeId} {f : Nat × Nat} (h : w.heap[b]? = some (.cells A t f)) (i : Nat) (v : Value) : (w.setCell ⟨b, i, none⟩ v).heap[b]? = some (.cells (A.setIfInBounds i v) t f) := by
  simp [World.setCell, Array.getElem?_modify, h]
def z4 : Obj := .cells #[.int .i64 0, .string ⟨#[]⟩, .int .i64 0, .int .i64 0] 41 (0, 0)
theorem res_in {w W : World} (h : Bl (w.alloc (.cells #[.int .i64 0, .string ⟨#[]⟩, .int .i64 0, .int .i64 0] 41)) W) : W.heap[w.heap.size]? = some z4 ∧ Bl w W ∧ w.heap.size < W.heap.size := by
  have e : W.heap[w.heap.size]? = some z4 := by
    rw [h.block w.heap.size (by simp)]
    exact heap_alloc_new w _
  exact ⟨e, (Bl.alloc w _).trans h, lt_of_heap e⟩
theorem resF {W : World} {B : Nat} (h : W.heap[B]? = some z4) :
    W.cell? ⟨B, 0, none⟩ = some (.int .i64 0) ∧ W.cell? ⟨B, 1, none⟩ = some (.string ⟨#[]⟩) ∧ W.cell? ⟨B, 2, none⟩ = some (.int .i64 0) ∧ W.cell? ⟨B, 3, none⟩ = some (.int .i64 0) ∧
    W.frozen? ⟨B, 0, none⟩ = false ∧ W.frozen? ⟨B, 1, none⟩ = false ∧ W.frozen? ⟨B, 2, none⟩ = false ∧ W.frozen? ⟨B, 3, none⟩ = false :=
  ⟨by rw [cell_in h]; rfl, by rw [cell_in h]; rfl, by rw [cell_in h]; rfl, by rw [cell_in h]; rfl, frozen_in h 0, frozen_in h 1, frozen_in h 2, frozen_in h 3⟩
theorem set_bl {w W : World} (h : Bl w W) {B : Nat} (hB : w.heap.size ≤ B) (i : Nat) (v : Value) : Bl w (W.setCell ⟨B, i, none⟩ v) :=
  Below.trans h ⟨rfl, rfl, rfl, by simp, fun k hk => Below.heap_setCell _ _ _ _ (by show k ≠ B; omega)⟩
theorem ret4 {f : Func} {W w : World} {B : Nat} {tm : Array Value} (x : Q4) {v0 v1 v2 v3 : Value} (hres : f.results = #[.cell 2 41, .tmp 3]) (hr : W.heap[B]? = some z4) (hb : Bl w W) (hB : w.heap.size ≤ B)
    (h2 : tm.getD 2 undef = .pointer (some ⟨B, 0, none⟩)) (h3 : tm.getD 3 undef = .int .i64 x.2.2.2) (e0 : v0 = .int .i64 x.1) (e1 : v1 = .string (ba x.2.1)) (e2 : v2 = .int .i64 x.2.2.1) (e3 : v3 = .int .i64 0) :
    bodyPost Tryd.prog f (fun e w' => e = .returned (cv x) ∧ Bl w w') .ret ⟨tm, []⟩ ((((W.setCell ⟨B, 0, none⟩ v0).setCell ⟨B, 1, none⟩ v1).setCell ⟨B, 2, none⟩ v2).setCell ⟨B, 3, none⟩ v3) := by
  subst e0 e1 e2 e3
  obtain ⟨V, hV⟩ : ∃ V, V = ((((W.setCell ⟨B, 0, none⟩ (.int .i64 x.1)).setCell ⟨B, 1, none⟩ (.string (ba x.2.1))).setCell ⟨B, 2, none⟩ (.int .i64 x.2.2.1)).setCell ⟨B, 3, none⟩ (.int .i64 0)) := ⟨_, rfl⟩
  have hVb : V.heap[B]? = some (.cells #[.int .i64 x.1, .string (ba x.2.1), .int .i64 x.2.2.1, .int .i64 0] 41 (0, 0)) := by
    rw [hV, set_in (set_in (set_in (set_in hr 0 _) 1 _) 2 _) 3 _]
    rfl
  have hVl : Bl w V := by rw [hV]; exact set_bl (set_bl (set_bl (set_bl hb hB 0 _) hB 1 _) hB 2 _) hB 3 _
  rw [← hV]
  clear hV
  have x0 : V.cell? ⟨B, 0, none⟩ = some (.int .i64 x.1) := by rw [cell_in hVb]; rfl
  have x1 : V.cell? ⟨B, 1, none⟩ = some (.string (ba x.2.1)) := by rw [cell_in hVb]; rfl
  have x2 : V.cell? ⟨B, 2, none⟩ = some (.int .i64 x.2.2.1) := by rw [cell_in hVb]; rfl
  have x3 : V.cell? ⟨B, 3, none⟩ = some (.int .i64 0) := by rw [cell_in hVb]; rfl
  have h2' : tm[2]?.getD undef = .pointer (some ⟨B, 0, none⟩) := by simpa using h2
  have h3' : tm[3]?.getD undef = .int .i64 x.2.2.2 := by simpa using h3
  refine bodyPost_ret (v := cv x) (by simp [results, hres, go_sem, h2, h3, h2', h3', x0, x1, x2, x3, cv]) rfl ⟨rfl, hVl⟩
end Go.Proofs.YtimlomobbnnehaaDoor

