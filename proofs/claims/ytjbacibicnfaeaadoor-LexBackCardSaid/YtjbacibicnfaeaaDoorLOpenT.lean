import Derived.Test.YtjbacibicnfaeaaDoorLBack
import Derived.OpenShut
import Derived.LaidMore
import Derived.SizedLaws
import Derived.Deep.Slices
import Derived.ChangeSlices
namespace Go.Proofs.YtjbacibicnfaeaaDoor
open Go.ChangeShapes Go.WideShapes Go.RowKit
set_option linter.unusedVariables false
theorem cells30 : Tryd.prog.cellsOf 30 = 4 := by kernel_rfl
theorem cells3 : Tryd.prog.cellsOf 3 = 1 := by kernel_rfl
theorem cells9 : Tryd.prog.cellsOf 9 = 1 := by kernel_rfl
theorem bytes30 : Tryd.prog.bytesOf 30 = 40 := by kernel_rfl
theorem weightsAll_mem {H : Type} {P : Program} {e : TypeId} {d : DataW H} : ∀ {ds : List (DataW H)}, d ∈ ds → ∀ n ∈ d.weights P e, n ∈ DataW.weightsAll P e ds := by
  intro ds
  induction ds with
  | nil => intro h; simp at h
  | cons x ds ih =>
    intro h n hn
    unfold DataW.weightsAll
    rcases List.mem_cons.1 h with rfl | h
    · exact List.mem_append_left _ hn
    · exact List.mem_append_right _ (ih h n hn)
section
variable {H : Type} {enc : TypeId × Value → H} {w : World} {spare : Nat → Bool} {held : Bool}
set_option maxRecDepth 20000 in
/-- a list of tokens, opened -/
theorem open_toks {fuel : Nat} {u : Value} {x : DataW H × List MemPlace} (h : DataW.trod enc Tryd.prog w 0 spare held fuel 23 [u] = some x) (hz : ∀ n ∈ x.1.weights Tryd.prog 23, n ≤ reachBytes) :
    ∃ zs : List Z, ((zs = [] ∧ ∃ p c, u = .slice p 0 c) ∨ (0 < zs.length ∧ ∃ g off c, u = .slice (some ⟨g, off, none⟩) zs.length c ∧ RdZ w g off zs ∧ zs.length ≤ c ∧ c ≤ maxLen)) ∧ zs.length ≤ 140737488355328 ∧ ∀ i, i < zs.length → (zs.getD i noZ).2.1.length ≤ 140737488355328 := by
  rcases Go.Deep.open_slice Tryd.underlying23 h with ⟨hcs, rfl⟩ | ⟨a, len, cap, m, n, D, Pl, hcs, hx0, hl, hm, hmm, rfl, hx⟩
  · simp at hcs
    exact ⟨[], Or.inl ⟨rfl, none, 0, hcs⟩, by simp, by simp⟩
  · simp at hcs
    by_cases h0 : len = 0
    · subst h0
      exact ⟨[], Or.inl ⟨rfl, some a, cap, hcs⟩, by simp, by simp⟩
    · have hlm : len ≤ m := by rw [hmm]; split <;> omega
      rw [cells30] at hx
      obtain ⟨b, off, spot⟩ := a
      have hspot : spot = none := by
        obtain ⟨cs', h1, h2⟩ := hx 0 (by omega)
        obtain ⟨_, hlen, hcell⟩ := World.cells?_some h1
        have := hcell 0 (by omega)
        rw [Go.Deep.add_add] at this
        match cs', hlen with
        | u :: _, _ => simpa [Addr.add] using World.cell?_spot this
      subst hspot
      have hstep : ∀ i, i < len → ∃ o : Z, w.cell? ⟨b, off + i * 4, none⟩ = some (.int .i64 o.1) ∧ w.cell? ⟨b, off + i * 4 + 1, none⟩ = some (.string (ba o.2.1)) ∧ w.cell? ⟨b, off + i * 4 + 2, none⟩ = some (.int .i64 o.2.2.1) ∧ w.cell? ⟨b, off + i * 4 + 3, none⟩ = some (.int .i64 o.2.2.2) ∧ o.2.1.length ≤ 140737488355328 := fun i hi => by
        obtain ⟨cs', h1, h2⟩ := hx i (by omega)
        obtain ⟨_, hlen, hcell⟩ := World.cells?_some h1
        obtain ⟨xs, k, hk, hxy, _, hxl, hf⟩ := DataW.trod_struct Tryd.underlying30 h2
        match xs, hxl, cs', hlen with
        | [y0, y1, y2, y3], _, [t0, t1, t2, t3], _ =>
          have g0 := hf 0 _ rfl
          have g1 := hf 1 _ rfl
          have g2 := hf 2 _ rfl
          have g3 := hf 3 _ rfl
          simp [cells3, cells9] at g0 g1 g2 g3
          obtain ⟨A, e0, -, -⟩ := DataW.trod_int Tryd.underlying3 g0
          obtain ⟨s, e1, hs, -⟩ := DataW.trod_string Tryd.underlying9 g1
          obtain ⟨C, e2, -, -⟩ := DataW.trod_int Tryd.underlying3 g2
          obtain ⟨E, e3, -, -⟩ := DataW.trod_int Tryd.underlying3 g3
          simp at e0 e1 e2 e3
          have hw := hz s.data.toList.length (by
            have hd : D i = .agg [y0.1, y1.1, y2.1, y3.1] := by simpa using congrArg Prod.fst hxy
            have h3 : s.data.toList.length ∈ (D i).weights Tryd.prog 30 := by
              rw [hd]
              simp only [DataW.weights, Tryd.underlying30]
              refine DataW.weights_mem_each (j := 1) (t := 9) (d := y1.1) rfl rfl _ ?_
              rw [hs]
              simp [DataW.weights]
            simp only [DataW.weights, Tryd.underlying23]
            refine List.mem_cons_of_mem _ (List.mem_append_left _ (weightsAll_mem (d := D i) ?_ _ h3))
            exact List.mem_map.2 ⟨i, List.mem_range.2 hi, rfl⟩)
          have m0 := hcell 0 (by omega)
          have m1 := hcell 1 (by omega)
          have m2 := hcell 2 (by omega)
          have m3 := hcell 3 (by omega)
          rw [Addr.add_mid, Addr.add_mid] at m0 m1 m2 m3
          simp at m0 m1 m2 m3
          subst e0 e1 e2 e3
          refine ⟨(A, lst s, C, E), m0, ?_, m2, m3, ?_⟩
          · rw [ba_lst]; exact m1
          · unfold reachBytes at hw; show s.data.toList.length ≤ _; omega
      obtain ⟨f, hf⟩ : ∃ f : Nat → Z, ∀ i, i < len → w.cell? ⟨b, off + i * 4, none⟩ = some (.int .i64 (f i).1) ∧ w.cell? ⟨b, off + i * 4 + 1, none⟩ = some (.string (ba (f i).2.1)) ∧ w.cell? ⟨b, off + i * 4 + 2, none⟩ = some (.int .i64 (f i).2.2.1) ∧ w.cell? ⟨b, off + i * 4 + 3, none⟩ = some (.int .i64 (f i).2.2.2) ∧ (f i).2.1.length ≤ 140737488355328 := by
        refine ⟨fun i => if hi : i < len then Classical.choose (hstep i hi) else noZ, fun i hi => ?_⟩
        simp only [dif_pos hi]
        exact Classical.choose_spec (hstep i hi)
      have hbl : b < w.heap.size := World.block_lt_of_cell? w ⟨b, off + 0 * 4, none⟩ (hf 0 (by omega)).1
      have hget : ∀ j, j < len → ((List.range len).map f).getD j noZ = f j := fun j hj => by
        rw [List.getD_eq_getElem?_getD, List.getElem?_map, List.getElem?_range hj]; rfl
      have hlen : ((List.range len).map f).length = len := by simp
      refine ⟨(List.range len).map f, Or.inr ⟨by omega, b, off, cap, by rw [hlen]; simpa using hcs, ⟨hbl, fun j hj => ?_⟩, by rw [hlen]; omega, by omega⟩, ?_, fun i hi => ?_⟩
      · rw [hlen] at hj
        rw [hget j hj]
        obtain ⟨a0, a1, a2, a3, _⟩ := hf j hj
        exact ⟨a0, a1, a2, a3⟩
      · rw [hlen]
        have hw := hz ((((List.range len).map D).length + ((List.range (m - len)).map fun j => D (len + j)).length) * Tryd.prog.bytesOf 30) (by simp only [DataW.weights, Tryd.underlying23]; exact List.mem_cons_self ..)
        rw [List.length_map, List.length_range, List.length_map, List.length_range, bytes30] at hw
        unfold reachBytes at hw
        have h5 : len * 40 ≤ (len + (m - len)) * 40 := Nat.mul_le_mul_right _ (by omega)
        omega
      · rw [hlen] at hi
        rw [hget i hi]
        exact (hf i hi).2.2.2.2
end
end Go.Proofs.YtjbacibicnfaeaaDoor
