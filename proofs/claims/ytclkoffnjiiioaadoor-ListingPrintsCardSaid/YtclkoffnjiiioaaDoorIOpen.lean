import Derived.Test.YtclkoffnjiiioaaDoorIPt
import Derived.WalkKit
import Derived.OpenShut
import Derived.FnData
import Derived.SizedLaws
import Derived.Deep.Slices
import Derived.ChangeSlices
namespace Go.Proofs.YtclkoffnjiiioaaDoor
open Go.ChangeShapes Go.WideShapes Go.RowKit
set_option linter.unusedVariables false
set_option linter.unusedSimpArgs false
theorem weightsAll_mem {H : Type} {P : Program} {e : TypeId} {d : DataW H} : ∀ {ds : List (DataW H)}, d ∈ ds → ∀ n ∈ d.weights P e, n ∈ DataW.weightsAll P e ds := by
  intro ds
  induction ds with
  | nil => intro h; simp at h
  | cons x ds ih =>
    intro h n hn
    unfold DataW.weightsAll
    rcases List.mem_cons.1 h with rfl | h
    · exact List.mem_append_left _ hn
    · exact List.mem_append_right _ (ih h n hn)
theorem oc3 : Tryd.prog.cellsOf 3 = 1 := by kernel_rfl
theorem oc9 : Tryd.prog.cellsOf 9 = 1 := by kernel_rfl
theorem oc22 : Tryd.prog.cellsOf 22 = 1 := by kernel_rfl
theorem oc23 : Tryd.prog.cellsOf 23 = 1 := by kernel_rfl
theorem oc25 : Tryd.prog.cellsOf 25 = 5 := by kernel_rfl
theorem oc39 : Tryd.prog.cellsOf 39 = 4 := by kernel_rfl
theorem oc68 : Tryd.prog.cellsOf 68 = 2 := by kernel_rfl
theorem ob3 : Tryd.prog.bytesOf 3 = 8 := by kernel_rfl
theorem ob39 : Tryd.prog.bytesOf 39 = 56 := by kernel_rfl
theorem wf_range {n : Int} (h : (Lit.int .i64 n).wf = true) : -9223372036854775808 ≤ n ∧ n ≤ 9223372036854775807 := by
  simpa [Lit.wf, IntKind.min, IntKind.max, IntKind.signed, IntKind.bits] using h
theorem litsR_nil (w : World) : LitsR w none 0 [] := .mk none 0 [] (fun _ => rfl) (fun h => by simp at h) (by simp) (fun t ht => by simp at ht) (fun t ht => by simp at ht)
instance : Inhabited LitT := ⟨.mk 0 ⟨#[]⟩ 0 none 0 []⟩
section
variable {H : Type} {enc : TypeId × Value → H} {w : World} {spare : Nat → Bool} {held : Bool}
/-- the words of a code, opened -/
theorem open_wl {fuel : Nat} {u : Value} {y : DataW H × List MemPlace} (h : DataW.trod enc Tryd.prog w 0 spare held fuel 23 [u] = some y) (hz : ∀ n ∈ y.1.weights Tryd.prog 23, n ≤ reachBytes) :
    ∃ (ao : Option Addr) (c : Nat) (zs : List Int), u = .slice ao zs.length c ∧ Rd w (.slice ao zs.length c) zs ∧ (∀ i, -9223372036854775808 ≤ zs.getD i 0 ∧ zs.getD i 0 ≤ 9223372036854775807) ∧ zs.length ≤ c := by
  rcases open_ints Tryd.underlying23 Tryd.underlying3 oc3 h with ⟨hcs, _⟩ | ⟨a, len, cap, zs, hcs, _, hl, hm, hzl, hx, hc, hwf⟩
  · simp at hcs
    exact ⟨none, 0, [], hcs, ⟨⟨none, 0, rfl, fun h => by simp at h⟩, fun c hc => by injection hc with _ _ e; exact e.symm, by simp⟩, fun i => by simp, Nat.le_refl _⟩
  · simp at hcs
    have hlz : len ≤ zs.length := by rw [hzl]; split <;> omega
    have htl : (zs.take len).length = len := by simp; omega
    refine ⟨some a, cap, zs.take len, by rw [htl]; exact hcs, ⟨⟨some a, cap, rfl, fun hpos => ?_⟩, fun c hc => (by injection hc with e; cases e), ?_⟩, fun i => ?_, by rw [htl]; exact hl⟩
    · rw [htl] at hpos
      obtain ⟨b, off, spot⟩ := a
      have hspot : spot = none := by simpa [Addr.add] using World.cell?_spot (hc 0 (by omega))
      subst hspot
      have hcell : ∀ j, j < len → w.cell? ⟨b, off + j, none⟩ = some (.int .i64 (zs.getD j 0)) := fun j hj => by
        have := hc j (by omega)
        rwa [Addr.add_mid] at this
      refine ⟨b, off, rfl, World.block_lt_of_cell? w ⟨b, off + 0, none⟩ (hcell 0 hpos), fun j hj => ?_⟩
      rw [htl] at hj
      rw [hcell j hj, List.getD_eq_getElem?_getD, List.getD_eq_getElem?_getD, List.getElem?_take, if_pos hj]
    · rw [htl]
      have hw := hz (((lits (H := H) .i64 (zs.take len)).length + (lits (H := H) .i64 (zs.drop len)).length) * Tryd.prog.bytesOf 3) (by rw [hx]; simp [DataW.weights, Tryd.underlying23])
      have e1 : (lits (H := H) .i64 (zs.take len)).length = len := by simp [lits]; omega
      rw [e1, ob3] at hw
      unfold reachBytes at hw
      omega
    · rw [List.getD_eq_getElem?_getD]
      cases hi : (zs.take len)[i]? with
      | none => simp
      | some z => exact wf_range (hwf z (List.mem_of_mem_take (List.mem_of_getElem? hi)))
set_option maxRecDepth 20000 in
/-- literals, opened -/
theorem open_lits : ∀ (fuel : Nat) {cs : List Value} {x : DataW H × List MemPlace}, DataW.trod enc Tryd.prog w 0 spare held fuel 22 cs = some x → (∀ n ∈ x.1.weights Tryd.prog 22, n ≤ reachBytes) →
    ∃ (p : Option Addr) (c : Nat) (ts : List LitT), cs = [.slice p ts.length c] ∧ LitsR w p c ts ∧ ∀ t ∈ ts, NmT t := by
  intro fuel
  induction fuel using Nat.strongRecOn with
  | _ fuel ih =>
    intro cs x h hz
    rcases DataW.trod_slice Tryd.underlying22 h with ⟨rfl, rfl⟩ | ⟨a, len, cap, elems, rest, n, hfu, rfl, rfl, hb, hl, hm, hlen, hel, hsp, hns⟩
    · exact ⟨none, 0, [], rfl, litsR_nil w, fun t ht => by simp at ht⟩
    · rw [oc39] at hel
      have hbytes : (elems.length + rest.length) * 56 ≤ reachBytes := by
        have := hz ((elems.length + rest.length) * Tryd.prog.bytesOf 39) (by simp [DataW.weights, Tryd.underlying22])
        rwa [ob39] at this
      unfold reachBytes at hbytes
      have hone : ∀ i, i < len → ∃ t : LitT, (∃ y3 k, k < fuel ∧ DataW.trod enc Tryd.prog w 0 spare held k 22 [t.items] = some y3 ∧ ∀ n ∈ y3.1.weights Tryd.prog 22, n ≤ reachBytes) ∧ t.text.size ≤ reachBytes ∧ w.cell? (a.add (i * 4)) = some (.int .i64 t.kind) ∧ w.cell? ((a.add (i * 4)).add 1) = some (.string t.text) ∧ w.cell? ((a.add (i * 4)).add 2) = some (.int .i64 t.num) ∧ w.cell? ((a.add (i * 4)).add 3) = some t.items ∧ LitsR w t.p t.c t.kids ∧ NmT t := fun i hi => by
        have h0 := hel i hi
        obtain ⟨y, hy⟩ : ∃ y, elems[i]? = some y := ⟨_, List.getElem?_eq_getElem (by omega)⟩
        rw [hy] at h0
        obtain ⟨cs', h1, h2⟩ := Option.bind_eq_some_iff.1 h0
        obtain ⟨_, hlen4, hcell⟩ := World.cells?_some h1
        obtain ⟨xs, k, hk, hxy, _, hxl, hf⟩ := DataW.trod_struct Tryd.underlying39 h2
        match xs, hxl, cs', hlen4 with
        | [y0, y1, y2, y3], _, [t0, t1, t2, t3], _ =>
          have g0 := hf 0 _ rfl
          have g1 := hf 1 _ rfl
          have g2 := hf 2 _ rfl
          have g3 := hf 3 _ rfl
          simp [oc3, oc9, oc22] at g0 g1 g2 g3
          obtain ⟨K, e0, -, -⟩ := DataW.trod_int Tryd.underlying3 g0
          obtain ⟨T, e1, x1, -⟩ := DataW.trod_string Tryd.underlying9 g1
          obtain ⟨N, e2, -, wN⟩ := DataW.trod_int Tryd.underlying3 g2
          simp at e0 e1 e2
          have hd : y.1 = .agg [y0.1, y1.1, y2.1, y3.1] := by rw [hxy]; simp
          have hwi : ∀ n ∈ y.1.weights Tryd.prog 39, n ≤ reachBytes := fun n hn => by
            refine hz n ?_
            simp only [DataW.weights, Tryd.underlying22]
            exact List.mem_cons_of_mem _ (List.mem_append_left _ (weightsAll_mem (d := y.1) (List.mem_map.2 ⟨y, List.mem_of_getElem? hy, rfl⟩) n hn))
          have hw3 : ∀ n ∈ y3.1.weights Tryd.prog 22, n ≤ reachBytes := fun n hn => hwi n (by
            rw [hd]
            simp only [DataW.weights, Tryd.underlying39]
            exact DataW.weights_mem_each (j := 3) (t := 22) (d := y3.1) rfl rfl n hn)
          have hw1 : T.size ≤ reachBytes := hwi _ (by
            rw [hd]
            simp only [DataW.weights, Tryd.underlying39]
            exact DataW.weights_mem_each (j := 1) (t := 9) (d := y1.1) rfl rfl _ (by rw [x1]; simp [DataW.weights]))
          obtain ⟨p, c, ts, e3, hts, hnm⟩ := ih k (by omega) g3 hw3
          have e3' : t3 = .slice p ts.length c := by simpa using e3
          have m0 := hcell 0 (by omega)
          have m1 := hcell 1 (by omega)
          have m2 := hcell 2 (by omega)
          have m3 := hcell 3 (by omega)
          simp at m0 m1 m2 m3
          subst e0 e1 e2 e3'
          refine ⟨.mk K T N p c ts, ⟨y3, k, by omega, g3, hw3⟩, hw1, ?_, m1, m2, m3, hts, .mk _ (wf_range wN) hnm⟩
          show w.cell? (a.add (i * 4)) = some (.int .i64 K)
          have := m0
          simpa [Addr.add] using this
      obtain ⟨V, hV⟩ := Go.Deep.choose_lt hone
      have hVl : ((List.range len).map V).length = len := by simp
      refine ⟨some a, cap, (List.range len).map V, by rw [hVl], .mk (some a) cap _ (fun e => by cases e) (fun hp => ?_) (by rw [hVl]; omega) (fun t ht => ?_) (fun t ht => ?_), fun t ht => ?_⟩
      · rw [hVl] at hp
        obtain ⟨b, off, spot⟩ := a
        have hspot : spot = none := by simpa [Addr.add] using World.cell?_spot (hV 0 hp).2.2.1
        subst hspot
        refine ⟨b, off, rfl, ?_, fun i t hit => ?_⟩
        · have := World.block_lt_of_cell? w _ (hV 0 hp).2.2.1
          simpa [Addr.add] using this
        · have hi : i < len := by
            have := (List.getElem?_eq_some_iff.1 hit).1
            simpa using this
          have e : t = V i := by
            rw [List.getElem?_map, List.getElem?_range hi] at hit
            simpa using hit.symm
          subst e
          obtain ⟨-, -, m0, m1, m2, m3, -, -⟩ := hV i hi
          rw [Addr.add_mid] at m0 m1 m2 m3
          rw [Addr.add_mid] at m1 m2 m3
          exact ⟨m0, m1, m2, m3⟩
      · obtain ⟨i, hi, rfl⟩ := List.mem_map.1 ht
        have := (hV i (List.mem_range.1 hi)).2.1
        unfold reachBytes at this
        omega
      · obtain ⟨i, hi, rfl⟩ := List.mem_map.1 ht
        exact (hV i (List.mem_range.1 hi)).2.2.2.2.2.2.1
      · obtain ⟨i, hi, rfl⟩ := List.mem_map.1 ht
        exact (hV i (List.mem_range.1 hi)).2.2.2.2.2.2.2
set_option maxRecDepth 20000 in
/-- a code, opened -/
theorem open_code {fuel : Nat} {cs : List Value} {x : DataW H × List MemPlace} (h : DataW.trod enc Tryd.prog w 0 spare held fuel 25 cs = some x) (hz : ∀ n ∈ x.1.weights Tryd.prog 25, n ≤ reachBytes) (tb : Tb w) (hp : Pw w) :
    ∃ (K : Co) (lp : Option Addr) (lc : Nat) (pw : Option Addr) (cw : Nat), cs = (K.v lp lc pw cw).toList ∧ CoR w K lp lc pw cw := by
  obtain ⟨xs, k, hk, hxy, hcl, hxl, hf⟩ := DataW.trod_struct Tryd.underlying25 h
  rw [oc25] at hcl
  match xs, hxl, cs, hcl with
  | [y0, y1, y2, y3, y4], _, [t0, t1, t2, t3, t4], _ =>
    have g0 := hf 0 _ rfl
    have g1 := hf 1 _ rfl
    have g2 := hf 2 _ rfl
    have g3 := hf 3 _ rfl
    have g4 := hf 4 _ rfl
    simp [oc3, oc22, oc23] at g0 g1 g2 g3 g4
    obtain ⟨A, e0, -, wA⟩ := DataW.trod_int Tryd.underlying3 g0
    obtain ⟨T, e1, -, wT⟩ := DataW.trod_int Tryd.underlying3 g1
    obtain ⟨S, e2, -, wS⟩ := DataW.trod_int Tryd.underlying3 g2
    simp at e0 e1 e2
    have hd : x.1 = .agg [y0.1, y1.1, y2.1, y3.1, y4.1] := by rw [hxy]; simp
    obtain ⟨lp, lc, ts, e3, hts, hnm⟩ := open_lits k g3 (fun n hn => hz n (by
      rw [hd]
      simp only [DataW.weights, Tryd.underlying25]
      exact DataW.weights_mem_each (j := 3) (t := 22) (d := y3.1) rfl rfl n hn))
    obtain ⟨pw, cw, ws, e4, hws, hrg, hcap⟩ := open_wl g4 (fun n hn => hz n (by
      rw [hd]
      simp only [DataW.weights, Tryd.underlying25]
      exact DataW.weights_mem_each (j := 4) (t := 23) (d := y4.1) rfl rfl n hn))
    have e3' : t3 = .slice lp ts.length lc := by simpa using e3
    subst e0 e1 e2 e3' e4
    exact ⟨⟨A, T, S, ts, ws⟩, lp, lc, pw, cw, rfl, ⟨hws, hcap, hts, hnm, hrg, ⟨wf_range wA, wf_range wT, wf_range wS⟩, tb, hp⟩⟩
/-- a table of structs of a text and an integer, cell by cell -/
theorem two_table {fuel : Nat} {cs : List Value} {vals : List (ByteArray × Int)} {p : List MemPlace}
    (hd : DataW.trod enc Tryd.prog w 0 spare held fuel 69 cs = some (.agg (vals.map fun v => .agg [.lit (.string v.1.data.toList), .lit (.int .i64 v.2)]), p)) (i : Nat) (v : ByteArray × Int) (hvi : vals[i]? = some v) :
    cs[i * 2]? = some (.string v.1) ∧ cs[i * 2 + 1]? = some (.int .i64 v.2) := by
  obtain ⟨xs, m, _, hx, _, hn, hel⟩ := DataW.trod_array Tryd.underlying69 hd
  simp only [Prod.mk.injEq, DataW.agg.injEq] at hx
  have hi : i < vals.length := (List.getElem?_eq_some_iff.1 hvi).1
  have hlen : xs.length = vals.length := by
    have := congrArg List.length hx.1
    simpa using this.symm
  have h := hel i (by omega)
  rw [oc68] at h
  obtain ⟨x, hxi⟩ : ∃ x, xs[i]? = some x := ⟨xs[i]'(by omega), by rw [List.getElem?_eq_getElem (by omega)]⟩
  rw [hxi] at h
  have hxv : x.1 = .agg [.lit (.string v.1.data.toList), .lit (.int .i64 v.2)] := by
    have h3 := congrArg (fun l => l[i]?) hx.1
    simp only [List.getElem?_map, hxi, hvi, Option.map_some, Option.some.injEq] at h3
    exact h3.symm
  obtain ⟨ys, k, _, hy, hcl, hyl, hf⟩ := DataW.trod_struct Tryd.underlying68 h
  rw [oc68] at hcl
  rw [hy] at hxv
  simp only [DataW.agg.injEq] at hxv
  match ys, hyl, hxv with
  | [y0, y1], _, hxv =>
    have g0 : DataW.trod enc Tryd.prog w 0 spare held k 9 (((List.take 2 (List.drop (i * 2) cs)).drop 0).take (Tryd.prog.cellsOf 9)) = some y0 := hf 0 _ rfl
    have g1 : DataW.trod enc Tryd.prog w 0 spare held k 3 (((List.take 2 (List.drop (i * 2) cs)).drop 1).take (Tryd.prog.cellsOf 3)) = some y1 := hf 1 _ rfl
    simp only [List.map_cons, List.map_nil, List.cons.injEq, and_true] at hxv
    obtain ⟨z0, z1⟩ := hxv
    obtain ⟨s, e1, e2, _⟩ := DataW.trod_string Tryd.underlying9 g0
    obtain ⟨n, e3, e4, _⟩ := DataW.trod_int Tryd.underlying3 g1
    rw [e2] at z0
    rw [e4] at z1
    simp at z0 z1
    subst z1
    have hs : s = v.1 := by
      have : s.data = v.1.data := by simpa using z0
      cases s; cases hv : v.1; simp_all
    subst hs
    rw [oc9] at e1
    rw [oc3] at e3
    have h5 := congrArg (fun l => l[0]?) e1
    have h6 := congrArg (fun l => l[0]?) e3
    simp [List.getElem?_take, List.getElem?_drop] at h5 h6
    exact ⟨h5, h6⟩
end
end Go.Proofs.YtclkoffnjiiioaaDoor
