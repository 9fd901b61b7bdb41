import Derived.Test.YtjeeibokdnepgaaSPLaw
import Derived.OpenShut
import Derived.LaidMore
import Derived.SizedLaws
import Derived.Deep.Slices
import Derived.ChangeSlices
namespace Go.Proofs.Ytjeeibokdnepgaa
open Go.ChangeShapes Go.WideShapes Go.RowKit
set_option linter.unusedVariables false
theorem cells61 : Try.prog.cellsOf 61 = 4 := by kernel_rfl
theorem cells3 : Try.prog.cellsOf 3 = 1 := by kernel_rfl
theorem bytes61 : Try.prog.bytesOf 61 = 40 := by kernel_rfl
theorem wf_range {x : Int} (h : (Lit.int .i64 x).wf = true) : -9223372036854775808 ≤ x ∧ x ≤ 9223372036854775807 := by
  simpa [Lit.wf, IntKind.min, IntKind.max, IntKind.signed, IntKind.bits] using h
section
variable {H : Type} {enc : TypeId × Value → H} {w : World} {spare : Nat → Bool} {held : Bool}
set_option maxRecDepth 20000 in
/-- the steps of a script, opened -/
theorem open_steps {fuel : Nat} {u : Value} {x : DataW H × List MemPlace} (h : DataW.trod enc Try.prog w 0 spare held fuel 52 [u] = some x) (hz : ∀ n ∈ x.1.weights Try.prog 52, n ≤ reachBytes) :
    ∃ la : List StepI, ArgP w u la := by
  rcases Go.Deep.open_slice Try.underlying52 h with ⟨hcs, rfl⟩ | ⟨a, len, cap, m, n, D, Pl, hcs, _, hl, hm, hmm, rfl, hx⟩
  · simp at hcs
    exact ⟨[], ⟨none, 0, hcs, fun h => by simp at h⟩, by simp, by simp⟩
  · simp at hcs
    by_cases h0 : len = 0
    · subst h0
      exact ⟨[], ⟨some a, cap, hcs, fun h => by simp at h⟩, by simp, by simp⟩
    · have hlm : len ≤ m := by rw [hmm]; split <;> omega
      rw [cells61] at hx
      obtain ⟨b, off, spot⟩ := a
      have hspot : spot = none := by
        obtain ⟨cs', h1, h2⟩ := hx 0 (by omega)
        obtain ⟨_, hlen, hcell⟩ := World.cells?_some h1
        have := hcell 0 (by omega)
        rw [Go.Deep.add_add] at this
        match cs', hlen with
        | u :: _, _ => simpa [Addr.add] using World.cell?_spot this
      subst hspot
      have hstep : ∀ i, i < len → ∃ o : StepI, w.cell? ⟨b, off + i * 4, none⟩ = some (.int .i64 o.k) ∧ w.cell? ⟨b, off + i * 4 + 1, none⟩ = some (.int .i64 o.a) ∧ w.cell? ⟨b, off + i * 4 + 2, none⟩ = some (.int .i64 o.n) ∧ w.cell? ⟨b, off + i * 4 + 3, none⟩ = some (.string o.s) ∧ (-9223372036854775808 ≤ o.a ∧ o.a ≤ 9223372036854775807) ∧ o.s.size ≤ 140737488355328 := fun i hi => by
        obtain ⟨cs', h1, h2⟩ := hx i (by omega)
        obtain ⟨_, hlen, hcell⟩ := World.cells?_some h1
        obtain ⟨xs, k, hk, hxy, _, hxl, hf⟩ := DataW.trod_struct Try.underlying61 h2
        match xs, hxl, cs', hlen with
        | [y0, y1, y2, y3], _, [t0, t1, t2, t3], _ =>
          have g0 := hf 0 _ rfl
          have g1 := hf 1 _ rfl
          have g2 := hf 2 _ rfl
          have g3 := hf 3 _ rfl
          simp [cells3, cells9] at g0 g1 g2 g3
          obtain ⟨A, e0, -, -⟩ := DataW.trod_int Try.underlying3 g0
          obtain ⟨B, e1, -, hB⟩ := DataW.trod_int Try.underlying3 g1
          obtain ⟨C, e2, -, -⟩ := DataW.trod_int Try.underlying3 g2
          obtain ⟨s, e3, hs, -⟩ := DataW.trod_string Try.underlying9 g3
          simp at e0 e1 e2 e3
          have hw := hz s.data.toList.length (by
            have hd : D i = .agg [y0.1, y1.1, y2.1, y3.1] := by simpa using congrArg Prod.fst hxy
            have h3 : s.data.toList.length ∈ (D i).weights Try.prog 61 := by
              rw [hd]
              simp only [DataW.weights, Try.underlying61]
              refine DataW.weights_mem_each (j := 3) (t := 9) (d := y3.1) rfl rfl _ ?_
              rw [hs]
              simp [DataW.weights]
            simp only [DataW.weights, Try.underlying52]
            refine List.mem_cons_of_mem _ (List.mem_append_left _ (weightsAll_mem (d := D i) ?_ _ h3))
            exact List.mem_map.2 ⟨i, List.mem_range.2 hi, rfl⟩)
          have m0 := hcell 0 (by omega)
          have m1 := hcell 1 (by omega)
          have m2 := hcell 2 (by omega)
          have m3 := hcell 3 (by omega)
          rw [Addr.add_mid, Addr.add_mid] at m0 m1 m2 m3
          simp at m0 m1 m2 m3
          subst e0 e1 e2 e3
          exact ⟨⟨A, B, C, s⟩, m0, m1, m2, m3, wf_range hB, by rw [Lib.size_eq]; unfold reachBytes at hw; show s.data.toList.length ≤ _; omega⟩
      obtain ⟨f, hf⟩ : ∃ f : Nat → StepI, ∀ i, i < len → w.cell? ⟨b, off + i * 4, none⟩ = some (.int .i64 (f i).k) ∧ w.cell? ⟨b, off + i * 4 + 1, none⟩ = some (.int .i64 (f i).a) ∧ w.cell? ⟨b, off + i * 4 + 2, none⟩ = some (.int .i64 (f i).n) ∧ w.cell? ⟨b, off + i * 4 + 3, none⟩ = some (.string (f i).s) ∧ (-9223372036854775808 ≤ (f i).a ∧ (f i).a ≤ 9223372036854775807) ∧ (f i).s.size ≤ 140737488355328 := by
        refine ⟨fun i => if hi : i < len then Classical.choose (hstep i hi) else ⟨0, 0, 0, ⟨#[]⟩⟩, fun i hi => ?_⟩
        simp only [dif_pos hi]
        exact Classical.choose_spec (hstep i hi)
      have hbl : b < w.heap.size := World.block_lt_of_cell? w ⟨b, off + 0 * 4, none⟩ (hf 0 (by omega)).1
      refine ⟨(List.range len).map f, ⟨some ⟨b, off, none⟩, cap, by simpa using hcs, fun _ => ⟨b, off, rfl, hbl, fun k hk => ?_⟩⟩, fun o ho => ?_, ?_⟩
      · have hk2 : k < len := by simpa using hk
        obtain ⟨a0, a1, a2, a3, _⟩ := hf k hk2
        exact ⟨f k, by rw [List.getElem?_map, List.getElem?_range hk2]; rfl, a0, a1, a2, a3⟩
      · obtain ⟨i, hi, rfl⟩ := List.mem_map.1 ho
        exact (hf i (List.mem_range.1 hi)).2.2.2.2
      · rw [List.length_map, List.length_range]
        have hw := hz ((((List.range len).map D).length + ((List.range (m - len)).map fun j => D (len + j)).length) * Try.prog.bytesOf 61) (by simp only [DataW.weights, Try.underlying52]; exact List.mem_cons_self ..)
        rw [List.length_map, List.length_range, List.length_map, List.length_range, bytes61] at hw
        unfold reachBytes at hw
        have h5 : len * 40 ≤ (len + (m - len)) * 40 := Nat.mul_le_mul_right _ (by omega)
        omega
end
end Go.Proofs.Ytjeeibokdnepgaa
