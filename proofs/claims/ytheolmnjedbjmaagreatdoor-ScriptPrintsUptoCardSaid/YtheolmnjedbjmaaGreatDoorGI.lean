import Derived.Test.YtheolmnjedbjmaaGreatDoorRows
import Derived.Test.YtheolmnjedbjmaaGreatDoorSHl
import Derived.WalkKit
import Derived.ProofKit
import Derived.OpenShut
import Derived.LaidMore
import Derived.Lay
import Derived.Lib.SmallJoins
import Derived.Lib.LaidTab
import Derived.Stop.Joined
import Derived.Stop.LaidErr
import Derived.SizedLaws
import Derived.JoinedCond
import Derived.ChangeMaps5
import Derived.Deep.Slices
import Derived.Deep.Strs
import Derived.ChangeSlices
import Derived.Deep.DeepHandedRow
namespace Go.Proofs.YtheolmnjedbjmaaGreatDoor
open Go.ChangeShapes Go.WideShapes Go.ChangeAt Go.RowKit
set_option linter.unusedVariables false
set_option linter.unusedSimpArgs false
theorem eOwn : ownKnob Tryz.prog.godebug = none := by kernel_rfl
theorem egPow : Tryz.prog.globalNamed "internal/strconv.uint64pow10" = some 3 := by kernel_rfl
theorem etPow : (Tryz.prog.globals[3]?).map (·.type) = some 170 := by kernel_rfl
theorem ePowData : (Rows.laid_internal_strconv_uint64pow10 : DataW Unit) = Lib.tabData .u64 Lib.pow10Tab := by kernel_rfl
abbrev eLaid : List (String × DataW Unit) := [("math/bits.deBruijn32tab", Rows.laid_math_bits_deBruijn32tab), ("math/bits.deBruijn64tab", Rows.laid_math_bits_deBruijn64tab), ("internal/strconv.uint64pow10", Rows.laid_internal_strconv_uint64pow10)]
theorem of_laid {W : World} (h : laidMetH Tryz.prog eLaid W) : Pw W := by
  rw [MakeChecks.laidMetH_plain _ _ _ (by kernel_rfl)] at h
  have h2 := laidMet.tail (laidMet.tail h)
  obtain ⟨ps, ⟨g2, t2, cs2, f2, p2, q2, hg2, ht2, hv2, hd2, _, _⟩, _, _⟩ := h2
  obtain rfl := Option.some.inj (egPow.symm.trans hg2)
  obtain rfl := Option.some.inj (etPow.symm.trans ht2)
  rw [ePowData] at hd2
  have e := Lib.cells_of_tab Tryz.underlying170 Tryz.underlying153 (by kernel_rfl) (by kernel_rfl) hd2
  show W.var? Tryz.prog "internal/strconv.uint64pow10" = _
  rw [hv2, ← e]
theorem eLaidOut : laidOutB Tryz.prog = true := by kernel_rfl
theorem laid_met (os : Os) (args : Array Value) : laidMetH Tryz.prog eLaid ((World.laidAll Tryz.prog os eLaid).forCall (fun _ _ => 0) ⟨#[], args, []⟩).memory := by
  rw [MakeChecks.laidMetH_plain _ _ _ (by kernel_rfl)]
  exact laidMet_laidAll _ (by kernel_rfl) (by kernel_rfl)
theorem oc3 : Tryz.prog.cellsOf 3 = 1 := by kernel_rfl
theorem oc9 : Tryz.prog.cellsOf 9 = 1 := by kernel_rfl
theorem oc36 : Tryz.prog.cellsOf 38 = 1 := by kernel_rfl
theorem oc22 : Tryz.prog.cellsOf 22 = 1 := by kernel_rfl
theorem oc24 : Tryz.prog.cellsOf 24 = 3 := by kernel_rfl
theorem oc38 : Tryz.prog.cellsOf 40 = 7 := by kernel_rfl
theorem wf_range {n : Int} (h : (Lit.int .i64 n).wf = true) : In64 n := by
  simpa [In64, Lit.wf, IntKind.min, IntKind.max, IntKind.signed, IntKind.bits] using h
theorem bulk_mem {H : Type} {d : DataW H} : ∀ {l : List (DataW H)}, d ∈ l → Rows.uptoBulk d ≤ Rows.uptoBulkAll l
  | [], h => by cases h
  | x :: l, h => by
    rw [Rows.uptoBulkAll]
    rcases List.mem_cons.1 h with rfl | h
    · omega
    · have := bulk_mem h; omega
instance : Inhabited AK := ⟨⟨0, ⟨#[]⟩, ⟨#[]⟩, [], ⟨#[]⟩, 0, 0⟩⟩
theorem bulk_pos {H : Type} (d : DataW H) : 1 ≤ Rows.uptoBulk d := by
  cases d with
  | lit x => cases x <;> (unfold Rows.uptoBulk; omega)
  | nil => unfold Rows.uptoBulk; omega
  | ptr d => unfold Rows.uptoBulk; omega
  | slice a b => unfold Rows.uptoBulk; omega
  | agg a => unfold Rows.uptoBulk; omega
  | iface a b => unfold Rows.uptoBulk; omega
  | map a => unfold Rows.uptoBulk; omega
  | held a => unfold Rows.uptoBulk; omega
theorem bulk_len {H : Type} : ∀ (l : List (DataW H)), l.length ≤ Rows.uptoBulkAll l
  | [] => Nat.zero_le _
  | d :: l => by
    rw [Rows.uptoBulkAll, List.length_cons]
    have h1 := bulk_pos d
    have h2 := bulk_len l
    omega
section
variable {H : Type} {enc : TypeId × Value → H} {w : World} {spare : Nat → Bool} {held : Bool}
/-- a text, opened -/
theorem open_text {fuel : Nat} {u : Value} {y : DataW H × List MemPlace} (h : DataW.trod enc Tryz.prog w 0 spare held fuel 9 [u] = some y) (hb : Rows.uptoBulk y.1 ≤ 1048576) : ∃ t : Bs, u = .string (ba t) ∧ t.length ≤ 1048576 := by
  obtain ⟨s, e1, e2, -⟩ := DataW.trod_string Tryz.underlying9 h
  rw [e2, Rows.uptoBulk] at hb
  simp at e1
  exact ⟨s.data.toList, by rw [e1, ba_of], by omega⟩
/-- a list of names, opened -/
theorem open_names {fuel : Nat} {cs : List Value} {y : DataW H × List MemPlace} (h : DataW.trod enc Tryz.prog w 0 spare held fuel 38 cs = some y) (hb : Rows.uptoBulk y.1 ≤ 1048576) : ∃ (q : Option Addr) (l : List ByteArray) (c : Nat), cs = [.slice q l.length c] ∧ Rs w q l ∧ (∀ s ∈ l, s.size ≤ 1048576) ∧ l.length ≤ 1048576 := by
  rcases DataW.trod_slice Tryz.underlying38 h with ⟨rfl, rfl⟩ | ⟨a, len, cap, elems, rest, n, hfu, rfl, rfl, hbk, hl, hm, hlen, hel, hsp, hns⟩
  · exact ⟨none, [], 0, rfl, fun j hj => absurd hj (by simp), by simp, by simp⟩
  · rw [oc9] at hel
    rw [Rows.uptoBulk] at hb
    have hlb := bulk_len (elems.map (·.1))
    rw [List.length_map, hlen] at hlb
    have hone : ∀ i, i < len → ∃ s : ByteArray, w.cell? (a.add (i * 1)) = some (.string s) ∧ s.size ≤ 1048576 := fun i hi => by
      have h0 := hel i hi
      obtain ⟨y, hy⟩ : ∃ y, elems[i]? = some y := ⟨_, List.getElem?_eq_getElem (by omega)⟩
      rw [hy] at h0
      obtain ⟨cs', h1, h2⟩ := Option.bind_eq_some_iff.1 h0
      obtain ⟨_, hlen1, hcell⟩ := World.cells?_some h1
      match cs', hlen1 with
      | [u], _ =>
        have m0 := hcell 0 (by omega)
        have hmm : Rows.uptoBulk y.1 ≤ Rows.uptoBulkAll (elems.map (·.1)) := bulk_mem (d := y.1) (List.mem_map.2 ⟨y, List.mem_of_getElem? hy, rfl⟩)
        obtain ⟨t, rfl, ht⟩ := open_text h2 (by omega)
        refine ⟨ba t, ?_, by rw [ba_size]; exact ht⟩
        simpa [Addr.add] using m0
    by_cases hz : len = 0
    · subst hz
      exact ⟨some a, [], cap, rfl, fun j hj => absurd hj (by simp), by simp, by simp⟩
    · obtain ⟨V, hV⟩ := Go.Deep.choose_lt hone
      obtain ⟨b, off, spot⟩ := a
      have hspot : spot = none := by simpa [Addr.add] using World.cell?_spot (hV 0 (by omega)).1
      subst hspot
      have hVl : ((List.range len).map V).length = len := by simp
      refine ⟨some ⟨b, off, none⟩, (List.range len).map V, cap, by rw [hVl], fun j hj => ⟨b, off, rfl, ?_⟩, fun s hs => ?_, by rw [hVl]; omega⟩
      · have hj' : j < len := by simpa using hj
        have := (hV j hj').1
        rw [Nat.mul_one, Addr.add_lit] at this
        simpa using this
      · obtain ⟨j, hj, rfl⟩ := List.mem_map.1 hs
        exact (hV j (List.mem_range.1 hj)).2
set_option maxRecDepth 20000 in
/-- a list of acts, opened -/
theorem open_acts {fuel : Nat} {cs : List Value} {x : DataW H × List MemPlace} (h : DataW.trod enc Tryz.prog w 0 spare held fuel 22 cs = some x) (hb : Rows.uptoBulk x.1 ≤ 1048576) : ∃ (p : Option Addr) (g off : Nat) (acts : List (AK × Option Addr × Nat)) (c : Nat), cs = [.slice p acts.length c] ∧ acts.length ≤ 1048576 ∧ acts.length ≤ c ∧ (0 < acts.length → p = some ⟨g, off, none⟩) ∧ (∀ i (hi : i < acts.length), Aw w g (off + i * 7) acts[i].1 acts[i].2.1 acts[i].2.2) ∧ ∀ z ∈ acts, Ak2 z.1 := by
  rcases DataW.trod_slice Tryz.underlying22 h with ⟨rfl, rfl⟩ | ⟨a, len, cap, elems, rest, n, hfu, rfl, rfl, hbk, hl, hm, hlen, hel, hsp, hns⟩
  · exact ⟨none, 0, 0, [], 0, rfl, by simp, by simp, fun h => absurd h (by simp), fun i hi => absurd hi (by simp), by simp⟩
  · rw [oc38] at hel
    rw [Rows.uptoBulk] at hb
    have hlb := bulk_len (elems.map (·.1))
    rw [List.length_map, hlen] at hlb
    have hone : ∀ i, i < len → ∃ z : AK × Option Addr × Nat, w.cell? (a.add (i * 7)) = some (.int .i64 z.1.kind) ∧ w.cell? ((a.add (i * 7)).add 1) = some (.string z.1.name) ∧ w.cell? ((a.add (i * 7)).add 2) = some (.string z.1.other) ∧ w.cell? ((a.add (i * 7)).add 3) = some (.slice z.2.1 z.1.names.length z.2.2) ∧ w.cell? ((a.add (i * 7)).add 4) = some (.string z.1.text) ∧ w.cell? ((a.add (i * 7)).add 5) = some (.int .i64 z.1.num) ∧ w.cell? ((a.add (i * 7)).add 6) = some (.int .i64 z.1.fuel) ∧ Rs w z.2.1 z.1.names ∧ Ak2 z.1 := fun i hi => by
      have h0 := hel i hi
      obtain ⟨y, hy⟩ : ∃ y, elems[i]? = some y := ⟨_, List.getElem?_eq_getElem (by omega)⟩
      rw [hy] at h0
      obtain ⟨cs', h1, h2⟩ := Option.bind_eq_some_iff.1 h0
      obtain ⟨_, hlen7, hcell⟩ := World.cells?_some h1
      have hmm : Rows.uptoBulk y.1 ≤ Rows.uptoBulkAll (elems.map (·.1)) := bulk_mem (d := y.1) (List.mem_map.2 ⟨y, List.mem_of_getElem? hy, rfl⟩)
      obtain ⟨xs, k, hk, hxy, _, hxl, hf⟩ := DataW.trod_struct Tryz.underlying40 h2
      match xs, hxl, cs', hlen7 with
      | [y0, y1, y2, y3, y4, y5, y6], _, [t0, t1, t2, t3, t4, t5, t6], _ =>
        have g0 := hf 0 _ rfl
        have g1 := hf 1 _ rfl
        have g2 := hf 2 _ rfl
        have g3 := hf 3 _ rfl
        have g4 := hf 4 _ rfl
        have g5 := hf 5 _ rfl
        have g6 := hf 6 _ rfl
        simp [oc3, oc9, oc36] at g0 g1 g2 g3 g4 g5 g6
        have hd : y.1 = .agg [y0.1, y1.1, y2.1, y3.1, y4.1, y5.1, y6.1] := by rw [hxy]; simp
        rw [hd] at hmm
        simp only [Rows.uptoBulk, Rows.uptoBulkAll] at hmm
        obtain ⟨k0, e0, -, w0⟩ := DataW.trod_int Tryz.underlying3 g0
        obtain ⟨s1, e1, l1⟩ := open_text g1 (by omega)
        obtain ⟨s2, e2, l2⟩ := open_text g2 (by omega)
        obtain ⟨q, l, c, e3, hrs, hsz, hll⟩ := open_names g3 (by omega)
        obtain ⟨s4, e4, l4⟩ := open_text g4 (by omega)
        obtain ⟨k5, e5, -, w5⟩ := DataW.trod_int Tryz.underlying3 g5
        obtain ⟨k6, e6, -, w6⟩ := DataW.trod_int Tryz.underlying3 g6
        simp at e0 e3 e5 e6
        have m0 := hcell 0 (by omega)
        have m1 := hcell 1 (by omega)
        have m2 := hcell 2 (by omega)
        have m3 := hcell 3 (by omega)
        have m4 := hcell 4 (by omega)
        have m5 := hcell 5 (by omega)
        have m6 := hcell 6 (by omega)
        simp at m0 m1 m2 m3 m4 m5 m6
        subst e0 e1 e2 e3 e4 e5 e6
        have r5 := wf_range w5
        have r6 := wf_range w6
        refine ⟨(⟨k0, ba s1, ba s2, l, ba s4, k5, k6⟩, q, c), ?_, m1, m2, m3, m4, m5, m6, hrs, ⟨by rw [ba_size]; exact l1, by rw [ba_size]; exact l2, by rw [ba_size]; exact l4, hsz, hll, ⟨r5.1, r5.2⟩, ⟨r6.1, r6.2⟩⟩⟩
        simpa [Addr.add] using m0
    by_cases hz : len = 0
    · subst hz
      exact ⟨some a, 0, 0, [], cap, rfl, by simp, by simp, fun h => absurd h (by simp), fun i hi => absurd hi (by simp), by simp⟩
    · obtain ⟨V, hV⟩ := Go.Deep.choose_lt hone
      obtain ⟨b, off, spot⟩ := a
      have hspot : spot = none := by simpa [Addr.add] using World.cell?_spot (hV 0 (by omega)).1
      subst hspot
      have hVl : ((List.range len).map V).length = len := by simp
      refine ⟨some ⟨b, off, none⟩, b, off, (List.range len).map V, cap, by rw [hVl], by rw [hVl]; omega, by rw [hVl]; exact hl, fun _ => rfl, fun i hi => ?_, fun z hz => ?_⟩
      · have hi' : i < len := by simpa using hi
        obtain ⟨c0, c1, c2, c3, c4, c5, c6, hrs, -⟩ := hV i hi'
        have e : ((List.range len).map V)[i] = V i := by simp
        rw [e]
        rw [Addr.add_lit] at c0
        rw [Addr.add_lit, Addr.add_lit] at c1 c2 c3 c4 c5 c6
        refine ⟨fun f v hv => ?_, hrs, World.block_lt_of_cell? w _ c0⟩
        have hf : f < 7 := (Array.getElem?_eq_some_iff.1 hv).1
        match f, hf with
        | 0, _ => cases hv; exact c0
        | 1, _ => cases hv; exact c1
        | 2, _ => cases hv; exact c2
        | 3, _ => cases hv; exact c3
        | 4, _ => cases hv; exact c4
        | 5, _ => cases hv; exact c5
        | 6, _ => cases hv; exact c6
      · obtain ⟨j, hj, rfl⟩ := List.mem_map.1 hz
        exact (hV j (List.mem_range.1 hj)).2.2.2.2.2.2.2.2
set_option maxRecDepth 20000 in
/-- a play, opened -/
theorem open_play {fuel : Nat} {cs : List Value} {x : DataW H × List MemPlace} (h : DataW.trod enc Tryz.prog w 0 spare held fuel 24 cs = some x) (hb : Rows.uptoBulk x.1 ≤ 1048576) : ∃ (ws os : Int) (p : Option Addr) (g off : Nat) (acts : List AQ) (c : Nat), cs = [.int .i64 ws, .int .i64 os, .slice p acts.length c] ∧ In64 ws ∧ In64 os ∧ acts.length ≤ 1048576 ∧ (0 < acts.length → p = some ⟨g, off, none⟩) ∧ (∀ i (hi : i < acts.length), Aw w g (off + i * 7) acts[i].1 acts[i].2.1 acts[i].2.2) ∧ ∀ z ∈ acts, Ak2 z.1 := by
  obtain ⟨xs, k, hk, hxy, hcl, hxl, hf⟩ := DataW.trod_struct Tryz.underlying24 h
  rw [oc24] at hcl
  match xs, hxl, cs, hcl with
  | [y0, y1, y2], _, [t0, t1, t2], _ =>
    have g0 := hf 0 _ rfl
    have g1 := hf 1 _ rfl
    have g2 := hf 2 _ rfl
    simp [oc3, oc22] at g0 g1 g2
    have hd : x.1 = .agg [y0.1, y1.1, y2.1] := by rw [hxy]; simp
    rw [hd] at hb
    simp only [Rows.uptoBulk, Rows.uptoBulkAll] at hb
    obtain ⟨n0, e0, -, w0⟩ := DataW.trod_int Tryz.underlying3 g0
    obtain ⟨n1, e1, -, w1⟩ := DataW.trod_int Tryz.underlying3 g1
    obtain ⟨p, g, off, acts, c, e2, l1, -, l3, l4, l5⟩ := open_acts g2 (by omega)
    simp at e0 e1 e2
    subst e0 e1 e2
    exact ⟨n0, n1, p, g, off, acts, c, rfl, wf_range w0, wf_range w1, l1, l3, l4, l5⟩
end
end Go.Proofs.YtheolmnjedbjmaaGreatDoor

namespace Go.Proofs.YtheolmnjedbjmaaGreatDoor.scriptPrints
open Go.ChangeShapes Go.WideShapes Go.ChangeAt Go.RowKit
set_option linter.unusedVariables false
abbrev arg0 : Value := .agg #[.int .i64 0, .int .i64 0, .slice none 0 0]
abbrev dat0 {H : Type} : DataW H := .agg [.lit (.int .i64 0), .lit (.int .i64 0), .nil]
theorem reads (os : Os) {H : Type} (enc : TypeId × Value → H) : ∃ places, DataW.whole enc Tryz.prog ((World.laidAll Tryz.prog os eLaid).forCall (fun _ _ => 0) ⟨#[], #[arg0], []⟩).memory Tryz.f3.params.toList Rows.scriptPrintsSpec.vars false #[arg0].toList 8 = some ([dat0], [], places) :=
  ⟨[], by kernel_rfl⟩
set_option maxRecDepth 100000 in
theorem lifted (os : Os) (started : os.Started) (H : Type) (enc : TypeId × Value → H) (F : Stop.Interp) :
    ReturnsInHanded {} Tryz.checked os 3 .any ((Rows.OpenSpec.upto Rows.scriptPrintsSpec).preRow enc Tryz.prog Tryz.f3 Rows.scriptPrintsUptoRow.domain false Rows.scriptPrintsUptoRow.laid) (((Rows.OpenSpec.upto Rows.scriptPrintsSpec).at F).post enc Tryz.prog Tryz.f3 false true false false) := by
  obtain ⟨places, hx⟩ := reads os enc
  refine returnsInHanded_of_row (C := Tryz.checked) (s := Rows.OpenSpec.upto Rows.scriptPrintsSpec) eOwn started (by kernel_rfl) Tryz.func3
    (witness_row_at (enc := enc) (C := Tryz.checked) false (World.laidAll Tryz.prog os eLaid) #[arg0] (World.laidAll_os _ _ _) (by kernel_rfl) (by kernel_rfl) (by kernel_rfl)
      (OpenSpec.preRow_of_cond 8 hx (by kernel_rfl) (fun k hk => by cases hk; kernel_rfl) (by kernel_rfl) (laid_met os _))) ?_
  intro W base args ds gs before hval0 hW0 _ hcond hZ hL _ _
  have hk : Rows.uptoSmall H (ds ++ gs) = true := hcond _ rfl
  have hW : DataW.Whole enc Tryz.prog Tryz.f3.params.toList Rows.scriptPrintsSpec.vars false W args.toList ds gs before := hW0
  show Calls Tryz.prog 3 args W fun e W' => ∃ v, e = .returned v ∧ Rows.scriptPrintsSpec.post enc Tryz.prog Tryz.f3 false true false false W args v W'
  have hval : ∀ (j : Nat) t v, Tryz.f3.params[j]? = some t → args[j]? = some v → Value.okWide Tryz.prog W .any base t v := hval0
  have hW' := hW
  obtain ⟨p, q, hA0, hV, rfl, hfz, hnd⟩ := hW
  have hA : DataW.TrodAll enc Tryz.prog W 0 (fun _ => true) true Tryz.f3.params.toList args.toList ds p := hA0
  rw [Tryz.params3] at hA hval
  obtain ⟨v1, vs1, d1, ds1, p1, q1, hargs, rfl, rfl, h1, r1⟩ := trodAll_cons hA
  obtain ⟨rfl, rfl, rfl⟩ := trodAll_nil r1
  obtain rfl : args = #[v1] := by cases args; simp_all
  obtain ⟨rfl, rfl⟩ := trodVars_none hV
  obtain ⟨cs1, rfl, hsz1⟩ := okWide_struct Tryz.underlying24 (hval 0 24 v1 rfl rfl)
  have k1 := h1
  have lt1 : ∀ x ∈ p1, x.block < W.heap.size := by obtain ⟨m, hm⟩ := k1; exact DataW.trod_lt m _ _ _ hm
  have hT := of_laid hL
  have hbig : Rows.uptoBulkAll _ ≤ 1048576 := of_decide_eq_true hk
  simp only [List.append_nil, Rows.uptoBulkAll] at hbig
  have hcalls : Calls Tryz.prog 3 #[.agg cs1] W fun e w' => e = .returned (.bool true) ∧ Bl W w' := by
    obtain ⟨fuel, hf⟩ := h1
    obtain ⟨ws, os1, p, g, off, acts, c, ec, i1, i2, l1, l3, l4, l5⟩ := open_play hf (by omega)
    have ec' : cs1 = #[.int .i64 ws, .int .i64 os1, .slice p acts.length c] := Array.toList_inj.1 ec
    subst ec'
    exact prints_any W hT ws os1 ⟨i1.1, i1.2⟩ ⟨i2.1, i2.2⟩ g off c _ p acts rfl l1 l3 l4 l5
  clear hA0 hval0 hW0
  refine hcalls.mono fun e W' ⟨he, bel⟩ => ?_
  subst he
  exact ⟨_, rfl, _, _, _, [], _, [], hW', trodAll_mk1 (shut_bool Tryz.underlying4 _), (trodAll_cons_mk (Below.trod eLaidOut (by kernel_rfl) (of_decide_eq_true (by kernel_rfl)) k1 bel lt1) trodAll_mk0), rfl, bel.frame _, fun h => by cases h⟩
theorem proved : Rows.ScriptPrintsUptoSaid :=
  OpenClaim.holds_of_cond 3 Tryz.f3 rfl rfl rfl rfl rfl rfl rfl ⟨rfl, rfl, rfl, rfl, rfl⟩ rfl rfl rfl rfl rfl (by kernel_rfl) Tryz.func3 (by kernel_rfl)
    (of_decide_eq_true (by kernel_rfl)) (by unfold Func.isWrapper; first | (rw [if_pos (by decide +kernel)]; kernel_rfl) | (rw [if_neg (by decide +kernel)]; exact ⟨rfl, rfl⟩))
    (fun os started H enc _ F => by rw [OpenClaim.pre_eq_preRow]; exact lifted os started H enc F)
end Go.Proofs.YtheolmnjedbjmaaGreatDoor.scriptPrints
