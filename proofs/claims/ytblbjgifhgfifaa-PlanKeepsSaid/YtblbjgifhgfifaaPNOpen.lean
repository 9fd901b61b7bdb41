import Derived.Test.YtblbjgifhgfifaaPG13NTl
import Derived.OpenShut
import Derived.LaidMore
import Derived.SizedLaws
import Derived.Deep.Slices
import Derived.Deep.Strs
import Derived.ChangeSlices
namespace Go.Proofs.Ytblbjgifhgfifaa
open Go.ChangeShapes Go.WideShapes Go.RowKit
set_option linter.unusedVariables false
theorem weightsAll_mem {H : Type} {P : Program} {e : TypeId} {d : DataW H} : ∀ {ds : List (DataW H)}, d ∈ ds → ∀ n ∈ d.weights P e, n ∈ DataW.weightsAll P e ds := by
  intro ds
  induction ds with
  | nil => intro h; simp at h
  | cons x ds ih =>
    intro h n hn
    unfold DataW.weightsAll
    rcases List.mem_cons.1 h with rfl | h
    · exact List.mem_append_left _ hn
    · exact List.mem_append_right _ (ih h n hn)
instance : Inhabited Cl := ⟨cl0⟩
theorem cells9 : Try.prog.cellsOf 9 = 1 := by kernel_rfl
theorem cells3 : Try.prog.cellsOf 3 = 1 := by kernel_rfl
theorem cells24 : Try.prog.cellsOf 24 = 1 := by kernel_rfl
theorem cells47 : Try.prog.cellsOf 47 = 4 := by kernel_rfl
theorem bytes9 : Try.prog.bytesOf 9 = 16 := by kernel_rfl
theorem bytes47 : Try.prog.bytesOf 47 = 64 := by kernel_rfl
section
variable {H : Type} {enc : TypeId × Value → H} {w : World} {spare : Nat → Bool} {held : Bool}
/-- a list of texts, opened -/
theorem open_texts {fuel : Nat} {cs : List Value} {y : DataW H × List MemPlace} (h : DataW.trod enc Try.prog w 0 spare held fuel 24 cs = some y) (hz : ∀ n ∈ y.1.weights Try.prog 24, n ≤ reachBytes) :
    ∃ u zs, cs = [u] ∧ RdS w u zs ∧ ∀ s ∈ zs, s.size ≤ maxLen := by
  rcases Go.Deep.open_strs Try.underlying24 Try.underlying9 cells9 h with ⟨hcs, _⟩ | ⟨a, len, cap, m, Sx, hcs, _, hl, hm, hmm, hx, hc⟩
  · exact ⟨_, [], hcs, rd_nil w, by simp⟩
  · have hlm : len ≤ m := by rw [hmm]; split <;> omega
    have hgd : ∀ j, j < len → ((List.range len).map Sx).getD j ⟨#[]⟩ = Sx j := fun j hj => by
      rw [List.getD_eq_getElem?_getD, List.getElem?_map, List.getElem?_range hj]; rfl
    refine ⟨_, (List.range len).map Sx, hcs, ⟨⟨some a, cap, by simp, fun hpos => ?_⟩, fun c hc => (by injection hc with e; cases e), ?_, fun p n c hc => by injection hc with _ e2 e3; unfold maxLen at hm; omega⟩, fun s hs => by
      obtain ⟨j, hj, rfl⟩ := List.mem_map.1 hs
      exact (hc j (by have := List.mem_range.1 hj; omega)).2⟩
    · have hpos' : 0 < len := by simpa using hpos
      obtain ⟨b, off, spot⟩ := a
      have hspot : spot = none := by simpa [Addr.add] using World.cell?_spot (hc 0 (by omega)).1
      subst hspot
      have hcell : ∀ j, j < len → w.cell? ⟨b, off + j, none⟩ = some (.string (Sx j)) := fun j hj => by
        have := (hc j (by omega)).1
        rwa [Addr.add_lit] at this
      refine ⟨b, off, rfl, World.block_lt_of_cell? w ⟨b, off + 0, none⟩ (hcell 0 hpos'), fun j hj => ?_⟩
      have hj' : j < len := by simpa using hj
      rw [hcell j hj', hgd j hj']
    · have hw := hz ((len + (m - len)) * Try.prog.bytesOf 9) (by rw [hx]; simp [DataW.weights, Try.underlying24])
      rw [bytes9] at hw
      unfold reachBytes at hw
      simp
      omega
set_option maxRecDepth 20000 in
/-- a list of classes, opened -/
theorem open_classes {fuel : Nat} {cs : List Value} {x : DataW H × List MemPlace} (h : DataW.trod enc Try.prog w 0 spare held fuel 23 cs = some x) (hz : ∀ n ∈ x.1.weights Try.prog 23, n ≤ reachBytes) :
    ∃ v l, cs = [v] ∧ RdC w v l ∧ ∀ k, (clAt l k).name.size ≤ maxLen ∧ (clAt l k).sup.size ≤ maxLen ∧ ∀ s ∈ (clAt l k).own, s.size ≤ maxLen := by
  rcases Go.Deep.open_slice Try.underlying23 h with ⟨rfl, rfl⟩ | ⟨a, len, cap, m, n, D, Pl, rfl, _, hl, hm, hmm, rfl, hx⟩
  · exact ⟨_, [], rfl, ⟨⟨none, 0, rfl, fun h => by simp at h⟩, fun k hk => by simp at hk, by simp⟩, fun k => ⟨Nat.zero_le _, Nat.zero_le _, fun s hs => by cases hs⟩⟩
  · by_cases h0 : len = 0
    · subst h0
      exact ⟨_, [], rfl, ⟨⟨some a, cap, rfl, fun h => by simp at h⟩, fun k hk => by simp at hk, by simp⟩, fun k => ⟨Nat.zero_le _, Nat.zero_le _, fun s hs => by cases hs⟩⟩
    · have hlm : len ≤ m := by rw [hmm]; split <;> omega
      rw [cells47] at hx
      obtain ⟨b, off, spot⟩ := a
      have hspot : spot = none := by
        obtain ⟨cs', h1, h2⟩ := hx 0 (by omega)
        obtain ⟨_, hlen, hcell⟩ := World.cells?_some h1
        have := hcell 0 (by omega)
        rw [Go.Deep.add_add] at this
        match cs', hlen with
        | u :: _, _ => simpa [Addr.add] using World.cell?_spot this
      subst hspot
      have hstep : ∀ i, i < len → ∃ c : Cl, w.cell? ⟨b, off + i * 4, none⟩ = some (.string c.name) ∧ w.cell? ⟨b, off + i * 4 + 1, none⟩ = some (.string c.sup) ∧ w.cell? ⟨b, off + i * 4 + 2, none⟩ = some c.v ∧ w.cell? ⟨b, off + i * 4 + 3, none⟩ = some (.int .i64 c.lay) ∧ RdS w c.v c.own ∧ c.name.size ≤ maxLen ∧ c.sup.size ≤ maxLen ∧ ∀ s ∈ c.own, s.size ≤ maxLen := fun i hi => by
        obtain ⟨cs', h1, h2⟩ := hx i (by omega)
        obtain ⟨_, hlen, hcell⟩ := World.cells?_some h1
        obtain ⟨xs, k, hk, hxy, _, hxl, hf⟩ := DataW.trod_struct Try.underlying47 h2
        match xs, hxl, cs', hlen with
        | [y0, y1, y2, y3], _, [t0, t1, t2, t3], _ =>
          have g0 := hf 0 _ rfl
          have g1 := hf 1 _ rfl
          have g2 := hf 2 _ rfl
          have g3 := hf 3 _ rfl
          simp [cells3, cells9, cells24] at g0 g1 g2 g3
          obtain ⟨s0, e0, -, n0⟩ := DataW.trod_string Try.underlying9 g0
          obtain ⟨s1, e1, -, n1⟩ := DataW.trod_string Try.underlying9 g1
          obtain ⟨z3, e3, -, -⟩ := DataW.trod_int Try.underlying3 g3
          obtain ⟨u2, o2, e2, hr2, n2⟩ := open_texts g2 (fun n hn => by
            refine hz n ?_
            have hd : D i = .agg [y0.1, y1.1, y2.1, y3.1] := by simpa using congrArg Prod.fst hxy
            have h3 : n ∈ (D i).weights Try.prog 47 := by
              rw [hd]
              simp only [DataW.weights, Try.underlying47]
              exact DataW.weights_mem_each (j := 2) (t := 24) (d := y2.1) rfl rfl n hn
            simp only [DataW.weights, Try.underlying23]
            refine List.mem_cons_of_mem _ (List.mem_append_left _ (weightsAll_mem (d := D i) ?_ n h3))
            exact List.mem_map.2 ⟨i, List.mem_range.2 hi, rfl⟩)
          simp at e0 e1 e2 e3
          have m0 := hcell 0 (by omega)
          have m1 := hcell 1 (by omega)
          have m2 := hcell 2 (by omega)
          have m3 := hcell 3 (by omega)
          rw [Addr.add_mid, Addr.add_mid] at m0 m1 m2 m3
          simp at m0 m1 m2 m3
          subst e0 e1 e2 e3
          exact ⟨⟨s0, s1, o2, z3, t2⟩, m0, m1, m2, m3, hr2, n0, n1, n2⟩
      obtain ⟨C, hC⟩ := Go.Deep.choose_lt (α := Cl) (p := fun i c => w.cell? ⟨b, off + i * 4, none⟩ = some (.string c.name) ∧ w.cell? ⟨b, off + i * 4 + 1, none⟩ = some (.string c.sup) ∧ w.cell? ⟨b, off + i * 4 + 2, none⟩ = some c.v ∧ w.cell? ⟨b, off + i * 4 + 3, none⟩ = some (.int .i64 c.lay) ∧ RdS w c.v c.own ∧ c.name.size ≤ maxLen ∧ c.sup.size ≤ maxLen ∧ ∀ s ∈ c.own, s.size ≤ maxLen) hstep
      have hat : ∀ i, i < len → clAt ((List.range len).map C) i = C i := fun i hi => by
        unfold clAt; rw [List.getD_eq_getElem?_getD, List.getElem?_map, List.getElem?_range hi]; rfl
      have hlen : ((List.range len).map C).length = len := by simp
      refine ⟨_, (List.range len).map C, rfl, ⟨⟨some ⟨b, off, none⟩, cap, by rw [hlen], fun _ => ⟨b, off, rfl, World.block_lt_of_cell? w _ (hC 0 (by omega)).1, fun k hk => ?_⟩⟩, fun k hk => ?_, ?_⟩, fun k => ?_⟩
      · rw [hlen] at hk
        rw [hat k hk]
        obtain ⟨q0, q1, q2, q3, _⟩ := hC k hk
        exact ⟨q0, q1, q2, q3⟩
      · rw [hlen] at hk
        rw [hat k hk]
        exact (hC k hk).2.2.2.2.1
      · have hw := hz ((len + (m - len)) * Try.prog.bytesOf 47) (by simp [DataW.weights, Try.underlying23])
        rw [bytes47] at hw
        unfold reachBytes at hw
        rw [hlen]
        omega
      · by_cases hk : k < len
        · rw [hat k hk]
          exact (hC k hk).2.2.2.2.2
        · have : clAt ((List.range len).map C) k = cl0 := by unfold clAt; rw [List.getD_eq_getElem?_getD, List.getElem?_eq_none (by rw [hlen]; omega)]; rfl
          rw [this]
          exact ⟨Nat.zero_le _, Nat.zero_le _, fun s hs => by cases hs⟩
end
end Go.Proofs.Ytblbjgifhgfifaa
