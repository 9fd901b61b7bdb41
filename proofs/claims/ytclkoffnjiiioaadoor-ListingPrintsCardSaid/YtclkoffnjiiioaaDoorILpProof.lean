import Derived.Test.YtclkoffnjiiioaaDoorRows
import Derived.Test.YtclkoffnjiiioaaDoorILb
import Derived.Test.YtclkoffnjiiioaaDoorIOpen
import Derived.WalkKit
import Derived.ProofKit
import Derived.OpenShut
import Derived.LaidMore
import Derived.Lay
import Derived.Lib.SmallJoins
import Derived.Stop.Joined
import Derived.SizedLaws
import Derived.Deep.DeepHandedRow
import Derived.JoinedCond
import Derived.ChangeMaps5
namespace Go.Proofs.YtclkoffnjiiioaaDoor.listingPrints
open Go.ChangeShapes Go.WideShapes Go.ChangeAt Go.RowKit
set_option linter.unusedVariables false
theorem own : ownKnob Tryd.prog.godebug = none := by kernel_rfl
theorem gTab : Tryd.prog.globalNamed "kiln/listing.operations" = some 0 := by kernel_rfl
theorem tTab : (Tryd.prog.globals[0]?).map (·.type) = some 69 := by kernel_rfl
theorem gPow : Tryd.prog.globalNamed "internal/strconv.uint64pow10" = some 1 := by kernel_rfl
theorem tPow : (Tryd.prog.globals[1]?).map (·.type) = some 95 := by kernel_rfl
theorem powData : (Rows.laid_internal_strconv_uint64pow10 : DataW Unit) = Lib.tabData .u64 Lib.pow10Tab := by kernel_rfl
abbrev laidL : List (String × DataW Unit) := [("math/bits.deBruijn32tab", Rows.laid_math_bits_deBruijn32tab), ("math/bits.deBruijn64tab", Rows.laid_math_bits_deBruijn64tab), ("internal/strconv.uint64pow10", Rows.laid_internal_strconv_uint64pow10), ("kiln/listing.operations", Rows.laid_kiln_listing_operations)]
def opVals : List (ByteArray × Int) := (List.range 29).map fun i => (nmB i, (opd i : Int))
theorem opData : (Rows.laid_kiln_listing_operations : DataW Unit) = .agg (opVals.map fun v => .agg [.lit (.string v.1.data.toList), .lit (.int .i64 v.2)]) := by kernel_rfl
theorem op_at (i : Nat) (hi : i < 29) : opVals[i]? = some (nmB i, (opd i : Int)) := by
  unfold opVals
  rw [List.getElem?_map, List.getElem?_range hi]
  rfl
theorem of_laid {W : World} (h : laidMetH Tryd.prog laidL W) : Tb W ∧ Pw W := by
  rw [MakeChecks.laidMetH_plain _ _ _ (by kernel_rfl)] at h
  obtain ⟨ps, ⟨_, _, _, _, _, _, _, _, _, _, ⟨_, _, _, _, _, _, _, _, _, _, ⟨g2, t2, cs2, f2, p2, q2, hg2, ht2, hv2, hd2, ⟨g0, t0, cs0, f0, p0, q0, hg0, ht0, hv0, hd0, _, _⟩, _⟩, _⟩, _⟩, _, _⟩ := h
  obtain rfl := Option.some.inj (gPow.symm.trans hg2)
  obtain rfl := Option.some.inj (tPow.symm.trans ht2)
  obtain rfl := Option.some.inj (gTab.symm.trans hg0)
  obtain rfl := Option.some.inj (tTab.symm.trans ht0)
  refine ⟨fun i hi => ?_, ?_⟩
  · rw [opData] at hd0
    obtain ⟨h1, h2⟩ := two_table (vals := opVals) hd0 i _ (op_at i hi)
    exact ⟨by rw [World.var?_cell hg0 hv0 (i * 2), ← Array.getElem?_toList]; exact h1, by rw [World.var?_cell hg0 hv0 (i * 2 + 1), ← Array.getElem?_toList]; exact h2⟩
  · rw [powData] at hd2
    have e := Lib.cells_of_tab Tryd.underlying95 Tryd.underlying86 (by kernel_rfl) (by kernel_rfl) hd2
    show W.var? Tryd.prog "internal/strconv.uint64pow10" = _
    rw [hv2, ← e]
theorem laidOut : laidOutB Tryd.prog = true := by kernel_rfl
theorem toBelow {w w' : World} (h : Fr [] w w') : Below w.heap.size w w' := h.below (Nat.le_refl _) (by simp)
abbrev arg0 : Value := .agg #[.int .i64 0, .int .i64 0, .int .i64 0, .slice none 0 0, .slice none 0 0]
theorem laid_met (os : Os) (args : Array Value) : laidMetH Tryd.prog laidL ((World.laidAll Tryd.prog os laidL).forCall (fun _ _ => 0) ⟨#[], args, []⟩).memory := by
  rw [MakeChecks.laidMetH_plain _ _ _ (by kernel_rfl)]
  exact laidMet_laidAll _ (by kernel_rfl) (by kernel_rfl)
abbrev dat0 {H : Type} : DataW H := .agg [.lit (.int .i64 0), .lit (.int .i64 0), .lit (.int .i64 0), .nil, .nil]
theorem reads (os : Os) {H : Type} (enc : TypeId × Value → H) : ∃ places, DataW.whole enc Tryd.prog ((World.laidAll Tryd.prog os laidL).forCall (fun _ _ => 0) ⟨#[], #[arg0], []⟩).memory Tryd.f3.params.toList Rows.listingPrintsSpec.vars false #[arg0].toList 8 = some ([dat0], [], places) :=
  ⟨[], by kernel_rfl⟩
set_option maxRecDepth 100000 in
theorem lifted (os : Os) (started : os.Started) (H : Type) (enc : TypeId × Value → H) (F : Stop.Interp) :
    ReturnsInHanded {} Tryd.checked os 3 .any ((OpenSpec.ofChange Rows.listingPrintsSpec).preRow enc Tryd.prog Tryd.f3 Rows.listingPrintsRow.domain false Rows.listingPrintsRow.laid) (((OpenSpec.ofChange Rows.listingPrintsSpec).at F).post enc Tryd.prog Tryd.f3 false true false false) := by
  obtain ⟨places, hx⟩ := reads os enc
  refine returnsInHanded_of_row (C := Tryd.checked) (s := OpenSpec.ofChange Rows.listingPrintsSpec) own started (by kernel_rfl) Tryd.func3
    (witness_row_at (enc := enc) (C := Tryd.checked) false (World.laidAll Tryd.prog os laidL) #[arg0] (World.laidAll_os _ _ _) (by kernel_rfl) (by kernel_rfl) (by kernel_rfl)
      (OpenSpec.preRow_of_cond 8 hx (by kernel_rfl) (fun k hk => by cases hk) (by kernel_rfl) (laid_met os _))) ?_
  intro W base args ds gs before hval0 hW0 _ _ hZ hL hsh _
  have hW : DataW.Whole enc Tryd.prog Tryd.f3.params.toList Rows.listingPrintsSpec.vars false W args.toList ds gs before := hW0
  show Calls Tryd.prog 3 args W fun e W' => ∃ v, e = .returned v ∧ Rows.listingPrintsSpec.post enc Tryd.prog Tryd.f3 false true false false W args v W'
  have hval : ∀ (j : Nat) t v, Tryd.f3.params[j]? = some t → args[j]? = some v → Value.okWide Tryd.prog W .any base t v := hval0
  have hW' := hW
  obtain ⟨p, q, hA0, hV, rfl, hfz, hnd⟩ := hW
  have hA : DataW.TrodAll enc Tryd.prog W 0 (fun _ => true) true Tryd.f3.params.toList args.toList ds p := hA0
  have hZ2 : (DataW.weightsEach Tryd.prog (Tryd.f3.params.toList ++ Rows.listingPrintsSpec.plain.varTypes Tryd.prog) (ds ++ gs)).all (· ≤ reachBytes) = true := hZ
  rw [Tryd.params3] at hA hval hZ2
  obtain ⟨v1, vs1, d1, ds1, p1, q1, hargs, rfl, rfl, h1, r1⟩ := trodAll_cons hA
  obtain ⟨rfl, rfl, rfl⟩ := trodAll_nil r1
  obtain rfl : args = #[v1] := by cases args; simp_all
  obtain ⟨rfl, rfl⟩ := trodVars_none hV
  obtain ⟨cs1, rfl, hsz1⟩ := okWide_struct Tryd.underlying25 (hval 0 25 v1 rfl rfl)
  have k1 := h1
  have lt1 : ∀ x ∈ p1, x.block < W.heap.size := by obtain ⟨m, hm⟩ := k1; exact DataW.trod_lt m _ _ _ hm
  have hT := of_laid hL
  have hcalls : Calls Tryd.prog 3 #[.agg cs1] W fun e w' => e = .returned (.bool true) ∧ Fr [] W w' := by
    obtain ⟨fuel, hf⟩ := h1
    obtain ⟨K, lp, lc, pw, cw, ec, hcr⟩ := open_code hf (fun m hm => by
      have := List.all_eq_true.1 hZ2 m (DataW.weights_mem_each (j := 0) (t := 25) (d := d1) rfl rfl m hm)
      simpa using this) hT.1 hT.2
    have ec' : cs1 = K.v lp lc pw cw := Array.toList_inj.1 ec
    subst ec'
    exact prints_any K lp lc pw cw W hcr
  clear hA0 hval0 hW0
  refine hcalls.mono fun e W' ⟨he, hfr⟩ => ?_
  subst he
  have bel := toBelow hfr
  exact ⟨_, rfl, _, _, _, [], _, [], hW', trodAll_mk1 (shut_bool Tryd.underlying4 _), (trodAll_cons_mk (Below.trod laidOut (by kernel_rfl) (of_decide_eq_true (by kernel_rfl)) k1 bel lt1) trodAll_mk0), rfl, bel.frame _, fun h => by cases h⟩
theorem proved : Rows.ListingPrintsSaid :=
  OpenClaim.holds_of_cond 3 Tryd.f3 rfl rfl rfl rfl rfl rfl rfl ⟨rfl, rfl, rfl, rfl, rfl⟩ rfl rfl rfl rfl rfl (by kernel_rfl) Tryd.func3 (by kernel_rfl)
    (of_decide_eq_true (by kernel_rfl)) (by unfold Func.isWrapper; first | (rw [if_pos (by decide +kernel)]; kernel_rfl) | (rw [if_neg (by decide +kernel)]; exact ⟨rfl, rfl⟩))
    (fun os started H enc _ F => by rw [OpenClaim.pre_eq_preRow]; exact lifted os started H enc F)
end Go.Proofs.YtclkoffnjiiioaaDoor.listingPrints
