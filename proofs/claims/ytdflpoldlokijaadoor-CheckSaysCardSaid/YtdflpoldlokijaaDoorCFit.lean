import Derived.Test.YtdflpoldlokijaaDoorG03CFitE
namespace Go.Proofs.YtdflpoldlokijaaDoor
open Go.RowKit
set_option linter.unusedVariables false
set_option linter.unusedSimpArgs false
/-- operands that can be read -/
def OpdAt (w : World) (xv : Value) (n : Nat) (x y z : Int) : Prop := 1 ≤ n → ∃ g off cx, xv = .slice (some ⟨g, off, none⟩) n cx ∧ w.cell? ⟨g, off, none⟩ = some (.int .i64 x) ∧ (2 ≤ n → w.cell? ⟨g, off + 1, none⟩ = some (.int .i64 y)) ∧ (3 ≤ n → w.cell? ⟨g, off + 2, none⟩ = some (.int .i64 z))
theorem fit_ok {w : World} {B a : Nat} {C : Cx} {wv : Value} {sc : List Nat} {ps : Option Addr} {cs : Nat} {pls : List Pl} {pp : Option Addr} {k : Nat} (h : RR w B a C wv sc ps cs pls pp k) (op : Nat) (xv : Value) (x y z : Int) (h1 : 1 ≤ op) (h2 : op ≤ 28) (hx : OpdAt w xv (shp op).opd x y z) :
    Calls Tryd.prog 63 #[.pointer (some ⟨a, 0, none⟩), .int .i64 op, xv] w fun e w' => e = .returned (.bool (fitP C.b C.lits sc op x y z)) ∧ ∃ n, w' = w.drewN n := by
  by_cases ho : op ≠ 5 ∧ op ≠ 6 ∧ op ≠ 7 ∧ op ≠ 8 ∧ op ≠ 9 ∧ op ≠ 10 ∧ op ≠ 11 ∧ op ≠ 12 ∧ op ≠ 13 ∧ op ≠ 14 ∧ op ≠ 17 ∧ op ≠ 18 ∧ op ≠ 19 ∧ op ≠ 27 ∧ op ≠ 28
  · exact fitO op xv x y z C.b C.lits sc a w ho
  · have hc : op = 5 ∨ op = 6 ∨ op = 7 ∨ op = 8 ∨ op = 9 ∨ op = 10 ∨ op = 11 ∨ op = 12 ∨ op = 13 ∨ op = 14 ∨ op = 17 ∨ op = 18 ∨ op = 19 ∨ op = 27 ∨ op = 28 := by omega
    rcases hc with rfl | rfl | rfl | rfl | rfl | rfl | rfl | rfl | rfl | rfl | rfl | rfl | rfl | rfl | rfl
    · obtain ⟨g, off, cx, rfl, e0, e1, e2⟩ := hx (by decide); exact fit5 h g off cx x y z e0
    · obtain ⟨g, off, cx, rfl, e0, e1, e2⟩ := hx (by decide); exact fit6 h g off cx x y z e0
    · obtain ⟨g, off, cx, rfl, e0, e1, e2⟩ := hx (by decide); exact fit7 h g off cx x y z e0
    · obtain ⟨g, off, cx, rfl, e0, e1, e2⟩ := hx (by decide); exact fit8 h g off cx x y z e0
    · obtain ⟨g, off, cx, rfl, e0, e1, e2⟩ := hx (by decide); exact fit9 h g off cx x y z e0
    · obtain ⟨g, off, cx, rfl, e0, e1, e2⟩ := hx (by decide); exact fit10 h g off cx x y z e0 (e1 (by decide))
    · obtain ⟨g, off, cx, rfl, e0, e1, e2⟩ := hx (by decide); exact fit11 h g off cx x y z e0
    · obtain ⟨g, off, cx, rfl, e0, e1, e2⟩ := hx (by decide); exact fit12 h g off cx x y z e0
    · obtain ⟨g, off, cx, rfl, e0, e1, e2⟩ := hx (by decide); exact fit13 h g off cx x y z e0 (e1 (by decide))
    · obtain ⟨g, off, cx, rfl, e0, e1, e2⟩ := hx (by decide); exact fit14 h g off cx x y z e0
    · obtain ⟨g, off, cx, rfl, e0, e1, e2⟩ := hx (by decide); exact fit17 h g off cx x y z e0 (e1 (by decide))
    · obtain ⟨g, off, cx, rfl, e0, e1, e2⟩ := hx (by decide); exact fit18 h g off cx x y z e0 (e1 (by decide))
    · obtain ⟨g, off, cx, rfl, e0, e1, e2⟩ := hx (by decide); exact fit19 h g off cx x y z e0 (e1 (by decide)) (e2 (by decide))
    · obtain ⟨g, off, cx, rfl, e0, e1, e2⟩ := hx (by decide); exact fit27 h g off cx x y z e0 (e1 (by decide))
    · obtain ⟨g, off, cx, rfl, e0, e1, e2⟩ := hx (by decide); exact fit28 h g off cx x y z e0 (e1 (by decide))
theorem ret93 {f : Func} {V : World} {B p q : Nat} {tm : Array Value} {a0 a1 a2 a3 a4 a5 x : Value} {R : Ending → World → Prop} (hres : f.results = #[.cell p 93, .tmp q]) (hVb : V.heap[B]? = some (.cells #[a0, a1, a2, a3, a4, a5] 93 (0, 0)))
    (h2 : tm.getD p undef = .pointer (some ⟨B, 0, none⟩)) (h3 : tm.getD q undef = x) (hR : R (.returned (.tuple #[.agg #[a0, a1, a2, a3, a4, a5], x])) V) : bodyPost Tryd.prog f R .ret ⟨tm, []⟩ V := by
  have x0 : V.cell? ⟨B, 0, none⟩ = some a0 := by rw [cell_in hVb]; rfl
  have x1 : V.cell? ⟨B, 1, none⟩ = some a1 := by rw [cell_in hVb]; rfl
  have x2 : V.cell? ⟨B, 2, none⟩ = some a2 := by rw [cell_in hVb]; rfl
  have x3 : V.cell? ⟨B, 3, none⟩ = some a3 := by rw [cell_in hVb]; rfl
  have x4 : V.cell? ⟨B, 4, none⟩ = some a4 := by rw [cell_in hVb]; rfl
  have x5 : V.cell? ⟨B, 5, none⟩ = some a5 := by rw [cell_in hVb]; rfl
  have h2' : tm[p]?.getD undef = .pointer (some ⟨B, 0, none⟩) := by simpa using h2
  have h3' : tm[q]?.getD undef = x := by simpa using h3
  refine bodyPost_ret (v := .tuple #[.agg #[a0, a1, a2, a3, a4, a5], x]) (by simp [results, hres, go_sem, h2, h2', h3, h3', x0, x1, x2, x3, x4, x5]) rfl hR
end Go.Proofs.YtdflpoldlokijaaDoor
