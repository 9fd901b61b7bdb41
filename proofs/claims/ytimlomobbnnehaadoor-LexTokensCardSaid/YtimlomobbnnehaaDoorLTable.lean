import Derived.Test.YtimlomobbnnehaaDoorRows
import Derived.Test.YtimlomobbnnehaaDoorLLaw
import Derived.OpenShut
import Derived.ChangeArms
import Derived.ProofKit
namespace Go.Proofs.YtimlomobbnnehaaDoor
open Go.RowKit
set_option linter.unusedVariables false
theorem f75 : ∃ fa fb : Field, Tryd.prog.underlying 63 = some (.struct #[fa, fb]) ∧ fa.type = 3 ∧ fa.offset = 0 ∧ fb.type = 9 ∧ fb.offset = 1 := ⟨_, _, Tryd.underlying63, rfl, rfl, rfl, rfl⟩
theorem marks_datum : (Rows.laid_kiln_lex_marks : DataW Unit) = .agg (marksL.map fun x => .agg [.lit (.int .i64 x.1), .lit (.string x.2)]) := by kernel_rfl
/-- what the table of the marks holds, cell by cell -/
theorem marks_cells {w : World} {base : Nat} {spare : Nat → Bool} {held : Bool} {fuel : Nat} {cs : List Value} {p : List MemPlace} {enc : TypeId × Value → Unit}
    (hd : DataW.trod enc Tryd.prog w base spare held fuel 64 cs = some (Rows.laid_kiln_lex_marks, p)) : ∀ i, i < 11 → cs[i * 2]? = some (.int .i64 (kdAt i)) ∧ cs[i * 2 + 1]? = some (.string (ba (txAt i))) := by
  intro i hi
  rw [marks_datum] at hd
  have c75 : Tryd.prog.cellsOf 63 = 2 := by kernel_rfl
  have c3 : Tryd.prog.cellsOf 3 = 1 := by kernel_rfl
  have c9 : Tryd.prog.cellsOf 9 = 1 := by kernel_rfl
  obtain ⟨xs, m, _, hx, _, hn, hel⟩ := DataW.trod_array Tryd.underlying64 hd
  simp only [Prod.mk.injEq, DataW.agg.injEq] at hx
  have h := hel i hi
  rw [c75] at h
  have hxi : xs[i]? = some (xs[i]'(by omega)) := List.getElem?_eq_getElem (by omega)
  rw [hxi] at h
  generalize hxe : xs[i]'(by omega) = x at *
  have hm : (marksL.map fun x => DataW.agg (H := Unit) [.lit (.int .i64 x.1), .lit (.string x.2)])[i]? = some x.1 := by rw [hx.1, List.getElem?_map, hxi]; rfl
  have hml : marksL[i]? = some (kdAt i, txAt i) := by
    have hcase : i = 0 ∨ i = 1 ∨ i = 2 ∨ i = 3 ∨ i = 4 ∨ i = 5 ∨ i = 6 ∨ i = 7 ∨ i = 8 ∨ i = 9 ∨ i = 10 := by omega
    rcases hcase with rfl | rfl | rfl | rfl | rfl | rfl | rfl | rfl | rfl | rfl | rfl <;> rfl
  rw [List.getElem?_map, hml] at hm
  simp only [Option.map_some, Option.some.injEq] at hm
  obtain ⟨fa, fb, hs, a1, a2, a3, a4⟩ := f75
  obtain ⟨ys, n, _, hy, _, hyn, hfe⟩ := DataW.trod_struct hs h
  have g0 := hfe 0 fa rfl
  have g1 := hfe 1 fb rfl
  rw [a1, a2, c3] at g0
  rw [a3, a4, c9] at g1
  have hy0 : ys[0]? = some (ys[0]'(by rw [hyn]; exact Nat.zero_lt_succ _)) := List.getElem?_eq_getElem _
  have hy1 : ys[1]? = some (ys[1]'(by rw [hyn]; exact Nat.lt_succ_self _)) := List.getElem?_eq_getElem _
  rw [hy0] at g0
  rw [hy1] at g1
  obtain ⟨z, e1, e2, _⟩ := DataW.trod_int Tryd.underlying3 g0
  obtain ⟨s, e3, e4, _⟩ := DataW.trod_string Tryd.underlying9 g1
  rw [hy] at hm
  simp only [DataW.agg.injEq] at hm
  have k0 := congrArg (fun l => l[0]?) hm
  have k1 := congrArg (fun l => l[1]?) hm
  simp only [List.getElem?_map, hy0, hy1, Option.map_some, List.getElem?_cons_zero, List.getElem?_cons_succ, Option.some.injEq] at k0 k1
  rw [e2] at k0
  rw [e4] at k1
  simp only [DataW.lit.injEq, Lit.int.injEq, Lit.string.injEq, true_and] at k0 k1
  subst k0
  have hsb : s = ba (txAt i) := by rw [← ba_lst s]; unfold lst; rw [← k1]
  subst hsb
  constructor
  · have h5 := congrArg (fun l => l[0]?) e1
    simpa [List.getElem?_take, List.getElem?_drop] using h5
  · have h5 := congrArg (fun l => l[0]?) e3
    simpa [List.getElem?_take, List.getElem?_drop] using h5
theorem marksC_get : ∀ j v, marksC[j]? = some v → ∃ i, i < 11 ∧ ((j = i * 2 ∧ v = .int .i64 (kdAt i)) ∨ (j = i * 2 + 1 ∧ v = .string (ba (txAt i)))) := by
  intro j v h
  have hj : j < 22 := by
    by_cases hlt : j < 22
    · exact hlt
    · rw [List.getElem?_eq_none (by show 22 ≤ j; omega)] at h; cases h
  refine ⟨j / 2, by omega, ?_⟩
  have key : ∀ i, i < 11 → marksC[i * 2]? = some (.int .i64 (kdAt i)) ∧ marksC[i * 2 + 1]? = some (.string (ba (txAt i))) := by
    intro i hi
    have hcase : i = 0 ∨ i = 1 ∨ i = 2 ∨ i = 3 ∨ i = 4 ∨ i = 5 ∨ i = 6 ∨ i = 7 ∨ i = 8 ∨ i = 9 ∨ i = 10 := by omega
    rcases hcase with rfl | rfl | rfl | rfl | rfl | rfl | rfl | rfl | rfl | rfl | rfl <;> exact ⟨rfl, rfl⟩
  have k := key (j / 2) (by omega)
  by_cases h2 : j % 2 = 0
  · left
    have e : j = j / 2 * 2 := by omega
    refine ⟨e, ?_⟩
    rw [← e] at k
    rw [h] at k
    exact Option.some.inj k.1
  · right
    have e : j = j / 2 * 2 + 1 := by omega
    refine ⟨e, ?_⟩
    have k2 := k.2
    rw [← e, h] at k2
    exact Option.some.inj k2
end Go.Proofs.YtimlomobbnnehaaDoor

