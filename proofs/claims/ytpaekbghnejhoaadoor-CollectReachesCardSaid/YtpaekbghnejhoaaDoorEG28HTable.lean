import Derived.Test.YtpaekbghnejhoaaDoorEG06HRd
import Derived.WalkKit
import Derived.OpenShut
import Derived.LaidMore
import Derived.SizedLaws
import Derived.Deep.Slices
import Derived.ChangeSlices
import Derived.FnData
namespace Go.Proofs.YtpaekbghnejhoaaDoor
open Go.ChangeShapes Go.WideShapes Go.RowKit
set_option linter.unusedVariables false
theorem weightsAll_mem {H : Type} {P : Program} {e : TypeId} {d : DataW H} : ∀ {ds : List (DataW H)}, d ∈ ds → ∀ n ∈ d.weights P e, n ∈ DataW.weightsAll P e ds := by
  intro ds
  induction ds with
  | nil => intro h; simp at h
  | cons x ds ih =>
    intro h n hn
    unfold DataW.weightsAll
    rcases List.mem_cons.1 h with rfl | h
    · exact List.mem_append_left _ hn
    · exact List.mem_append_right _ (ih h n hn)
namespace OpenS
theorem c106 : Tryd.prog.cellsOf 44 = 4 := by kernel_rfl
theorem c3 : Tryd.prog.cellsOf 3 = 1 := by kernel_rfl
theorem c33 : Tryd.prog.cellsOf 40 = 1 := by kernel_rfl
theorem c36 : Tryd.prog.cellsOf 22 = 1 := by kernel_rfl
theorem c80 : Tryd.prog.cellsOf 25 = 1 := by kernel_rfl
theorem b33 : Tryd.prog.bytesOf 40 = 8 := by kernel_rfl
theorem b106 : Tryd.prog.bytesOf 44 = 48 := by kernel_rfl
end OpenS
section
variable {H : Type} {enc : TypeId × Value → H} {w : World} {spare : Nat → Bool} {held : Bool}
/-- a list of words, opened -/
theorem open_words {fuel : Nat} {u : Value} {y : DataW H × List MemPlace} (h : DataW.trod enc Tryd.prog w 0 spare held fuel 25 [u] = some y) (hz : ∀ n ∈ y.1.weights Tryd.prog 25, n ≤ reachBytes) :
    ∃ zs : List Int, Rd w u zs := by
  rcases open_ints Tryd.underlying25 Tryd.underlying40 OpenS.c33 h with ⟨hcs, _⟩ | ⟨a, len, cap, zs, hcs, _, hl, hm, hzl, hx, hc, _⟩
  · simp at hcs
    exact ⟨[], ⟨none, 0, hcs, fun h => by simp at h⟩, fun c hc => by rw [hcs] at hc; injection hc with _ _ e; exact e.symm, by simp⟩
  · simp at hcs
    have hlz : len ≤ zs.length := by rw [hzl]; split <;> omega
    have htl : (zs.take len).length = len := by simp; omega
    refine ⟨zs.take len, ⟨some a, cap, by rw [htl]; exact hcs, fun hpos => ?_⟩, fun c hc => (by rw [hcs] at hc; injection hc with e; cases e), ?_⟩
    · rw [htl] at hpos
      obtain ⟨b, off, spot⟩ := a
      have hspot : spot = none := by simpa [Addr.add] using World.cell?_spot (hc 0 (by omega))
      subst hspot
      have hcell : ∀ j, j < len → w.cell? ⟨b, off + j, none⟩ = some (.int .i64 (zs.getD j 0)) := fun j hj => by
        have := hc j (by omega)
        rwa [Addr.add_mid] at this
      refine ⟨b, off, rfl, World.block_lt_of_cell? w ⟨b, off + 0, none⟩ (hcell 0 hpos), fun j hj => ?_⟩
      rw [htl] at hj
      rw [hcell j hj, List.getD_eq_getElem?_getD, List.getD_eq_getElem?_getD, List.getElem?_take, if_pos hj]
    · rw [htl]
      have hw := hz (((lits (H := H) .i64 (zs.take len)).length + (lits (H := H) .i64 (zs.drop len)).length) * Tryd.prog.bytesOf 40) (by rw [hx]; simp [DataW.weights, Tryd.underlying25])
      have e1 : (lits (H := H) .i64 (zs.take len)).length = len := by simp [lits]; omega
      rw [e1, OpenS.b33] at hw
      unfold reachBytes at hw
      omega
set_option maxRecDepth 20000 in
/-- the objects of a state, opened -/
theorem open_objs {fuel : Nat} {u : Value} {x : DataW H × List MemPlace} (h : DataW.trod enc Tryd.prog w 0 spare held fuel 22 [u] = some x) (hz : ∀ n ∈ x.1.weights Tryd.prog 22, n ≤ reachBytes) :
    ∃ la : List OI, SAt w u la := by
  rcases Go.Deep.open_slice Tryd.underlying22 h with ⟨hcs, rfl⟩ | ⟨a, len, cap, m, n, D, Pl, hcs, _, hl, hm, hmm, rfl, hx⟩
  · simp at hcs
    exact ⟨[], ⟨none, 0, hcs, fun h => by simp at h⟩, by simp, by simp⟩
  · simp at hcs
    by_cases h0 : len = 0
    · subst h0
      exact ⟨[], ⟨some a, cap, hcs, fun h => by simp at h⟩, by simp, by simp⟩
    · have hlm : len ≤ m := by rw [hmm]; split <;> omega
      rw [OpenS.c106] at hx
      obtain ⟨b, off, spot⟩ := a
      have hspot : spot = none := by
        obtain ⟨cs', h1, h2⟩ := hx 0 (by omega)
        obtain ⟨_, hlen, hcell⟩ := World.cells?_some h1
        have := hcell 0 (by omega)
        rw [Go.Deep.add_add] at this
        match cs', hlen with
        | u :: _, _ => simpa [Addr.add] using World.cell?_spot this
      subst hspot
      have hstep : ∀ i, i < len → ∃ o : OI, w.cell? ⟨b, off + i * 4, none⟩ = some (.int .i64 o.oop) ∧ w.cell? ⟨b, off + i * 4 + 1, none⟩ = some (.int .i64 o.cls) ∧ w.cell? ⟨b, off + i * 4 + 2, none⟩ = some (.int .i64 o.fmt) ∧ w.cell? ⟨b, off + i * 4 + 3, none⟩ = some o.v ∧ Rd w o.v o.slots := fun i hi => by
        obtain ⟨cs', h1, h2⟩ := hx i (by omega)
        obtain ⟨_, hlen, hcell⟩ := World.cells?_some h1
        obtain ⟨xs, k, hk, hxy, _, hxl, hf⟩ := DataW.trod_struct Tryd.underlying44 h2
        match xs, hxl, cs', hlen with
        | [y0, y1, y2, y3], _, [t0, t1, t2, t3], _ =>
          have g0 := hf 0 _ rfl
          have g1 := hf 1 _ rfl
          have g2 := hf 2 _ rfl
          have g3 := hf 3 _ rfl
          simp [OpenS.c3, OpenS.c33, OpenS.c80] at g0 g1 g2 g3
          obtain ⟨A, e0, -, -⟩ := DataW.trod_int Tryd.underlying3 g0
          obtain ⟨B, e1, -, -⟩ := DataW.trod_int Tryd.underlying40 g1
          obtain ⟨C, e2, -, -⟩ := DataW.trod_int Tryd.underlying3 g2
          simp at e0 e1 e2
          obtain ⟨zs, hls⟩ := open_words g3 (fun n hn => by
            refine hz n ?_
            have hd : D i = .agg [y0.1, y1.1, y2.1, y3.1] := by simpa using congrArg Prod.fst hxy
            have h3 : n ∈ (D i).weights Tryd.prog 44 := by
              rw [hd]
              simp only [DataW.weights, Tryd.underlying44]
              exact DataW.weights_mem_each (j := 3) (t := 25) (d := y3.1) rfl rfl n hn
            simp only [DataW.weights, Tryd.underlying22]
            refine List.mem_cons_of_mem _ (List.mem_append_left _ (weightsAll_mem (d := D i) ?_ n h3))
            exact List.mem_map.2 ⟨i, List.mem_range.2 hi, rfl⟩)
          have m0 := hcell 0 (by omega)
          have m1 := hcell 1 (by omega)
          have m2 := hcell 2 (by omega)
          have m3 := hcell 3 (by omega)
          rw [Addr.add_mid, Addr.add_mid] at m0 m1 m2 m3
          simp at m0 m1 m2 m3
          subst e0 e1 e2
          exact ⟨⟨A, B, C, zs, t3⟩, m0, m1, m2, m3, hls⟩
      obtain ⟨f, hf⟩ : ∃ f : Nat → OI, ∀ i, i < len → w.cell? ⟨b, off + i * 4, none⟩ = some (.int .i64 (f i).oop) ∧ w.cell? ⟨b, off + i * 4 + 1, none⟩ = some (.int .i64 (f i).cls) ∧ w.cell? ⟨b, off + i * 4 + 2, none⟩ = some (.int .i64 (f i).fmt) ∧ w.cell? ⟨b, off + i * 4 + 3, none⟩ = some (f i).v ∧ Rd w (f i).v (f i).slots := by
        refine ⟨fun i => if hi : i < len then Classical.choose (hstep i hi) else ⟨0, 0, 0, [], .bool true⟩, fun i hi => ?_⟩
        simp only [dif_pos hi]
        exact Classical.choose_spec (hstep i hi)
      refine ⟨(List.range len).map f, ⟨some ⟨b, off, none⟩, cap, by simpa using hcs, fun _ => ⟨b, off, rfl, fun k hk => ?_⟩⟩, fun o ho => ?_, ?_⟩
      · have hk2 : k < len := by simpa using hk
        obtain ⟨a0, a1, a2, a3, _⟩ := hf k hk2
        exact ⟨f k, by rw [List.getElem?_map, List.getElem?_range hk2]; rfl, a0, a1, a2, a3⟩
      · obtain ⟨i, hi, rfl⟩ := List.mem_map.1 ho
        exact (hf i (List.mem_range.1 hi)).2.2.2.2
      · rw [List.length_map, List.length_range]
        have hw := hz ((((List.range len).map D).length + ((List.range (m - len)).map fun j => D (len + j)).length) * Tryd.prog.bytesOf 44) (by simp only [DataW.weights, Tryd.underlying22]; exact List.mem_cons_self ..)
        rw [List.length_map, List.length_range, List.length_map, List.length_range, OpenS.b106] at hw
        unfold reachBytes at hw
        have h5 : len * 48 ≤ (len + (m - len)) * 48 := Nat.mul_le_mul_right _ (by omega)
        omega
end
end Go.Proofs.YtpaekbghnejhoaaDoor


namespace Go.Proofs.YtpaekbghnejhoaaDoor
open Go.ChangeShapes Go.WideShapes
/-- a table of integers, cell by cell -/
theorem int_table {H : Type} {enc : TypeId × Value → H} {P : Program} {w : World} {base : Nat} {spare : Nat → Bool} {held : Bool} {fuel n : Nat} {t e : TypeId} {k : IntKind} {cs : List Value} {vals : List Int} {p : List MemPlace}
    (ht : P.underlying t = some (.array n e)) (he : P.underlying e = some (.int k)) (ce : P.cellsOf e = 1)
    (hd : DataW.trod enc P w base spare held fuel t cs = some (.agg (vals.map fun v => .lit (.int k v)), p)) (i : Nat) (hi : i < vals.length) :
    cs[i]? = some (.int k (vals.getD i 0)) := by
  obtain ⟨xs, m, _, hx, _, hn, hel⟩ := DataW.trod_array ht hd
  simp only [Prod.mk.injEq, DataW.agg.injEq] at hx
  have hlen : xs.length = vals.length := by
    have := congrArg List.length hx.1
    simpa using this.symm
  have h := hel i (by omega)
  rw [ce, Nat.mul_one] at h
  obtain ⟨x, hxi⟩ : ∃ x, xs[i]? = some x := ⟨xs[i]'(by omega), by rw [List.getElem?_eq_getElem (by omega)]⟩
  rw [hxi] at h
  obtain ⟨v, e1, e2, _⟩ := DataW.trod_int he h
  have hv : vals[i]? = some v := by
    have h3 := congrArg (fun l => l[i]?) hx.1
    simp only [List.getElem?_map, hxi, e2] at h3
    cases hvi : vals[i]? with
    | none => rw [hvi] at h3; simp at h3
    | some y => rw [hvi] at h3; simp at h3; rw [h3]
  have h4 : cs[i]? = some (.int k v) := by
    have h5 := congrArg (fun l => l[0]?) e1
    simpa [List.getElem?_take, List.getElem?_drop] using h5
  rw [h4, List.getD_eq_getElem?_getD, hv]
  rfl
end Go.Proofs.YtpaekbghnejhoaaDoor


