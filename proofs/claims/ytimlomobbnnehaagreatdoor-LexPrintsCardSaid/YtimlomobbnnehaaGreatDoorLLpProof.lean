import Derived.Test.YtimlomobbnnehaaGreatDoorRows
import Derived.Test.YtimlomobbnnehaaGreatDoorG21LTable
import Derived.WalkKit
import Derived.ProofKit
import Derived.OpenShut
import Derived.LaidMore
import Derived.Lay
import Derived.Lib.SmallJoins
import Derived.Stop.Joined
import Derived.SizedLaws
import Derived.Deep.DeepHandedRow
import Derived.JoinedCond
import Derived.ChangeMaps5
namespace Go.Proofs.YtimlomobbnnehaaGreatDoor.lexPrints
open Go.ChangeShapes Go.WideShapes Go.ChangeAt Go.RowKit
set_option linter.unusedVariables false
theorem own : ownKnob Tryz.prog.godebug = none := by kernel_rfl
theorem gTab : Tryz.prog.globalNamed "kiln/lex.marks" = some 0 := by kernel_rfl
theorem tTab : (Tryz.prog.globals[0]?).map (·.type) = some 68 := by kernel_rfl
theorem gPow : Tryz.prog.globalNamed "internal/strconv.uint64pow10" = some 1 := by kernel_rfl
theorem tPow : (Tryz.prog.globals[1]?).map (·.type) = some 102 := by kernel_rfl
theorem powData : (Rows.laid_internal_strconv_uint64pow10 : DataW Unit) = Lib.tabData .u64 Lib.pow10Tab := by kernel_rfl
abbrev laidL : List (String × DataW Unit) := [("math/bits.deBruijn32tab", Rows.laid_math_bits_deBruijn32tab), ("math/bits.deBruijn64tab", Rows.laid_math_bits_deBruijn64tab), ("internal/strconv.uint64pow10", Rows.laid_internal_strconv_uint64pow10), ("unicode/utf8.acceptRanges", Rows.laid_unicode_utf8_acceptRanges), ("kiln/lex.marks", Rows.laid_kiln_lex_marks), ("unicode/utf8.first", Rows.laid_unicode_utf8_first)]
theorem of_laid {W : World} (h : laidMetH Tryz.prog laidL W) (hsh : W.ShapedOpen Tryz.prog) : Tab W ∧ Pw W := by
  obtain ⟨m, hm⟩ : ∃ m, W.cell? ⟨2, 0, none⟩ = some (.int .i64 m) := Tryz.laysM155.s1_3 W hsh
  rw [MakeChecks.laidMetH_plain _ _ _ (by kernel_rfl)] at h
  obtain ⟨ps, ⟨_, _, _, _, _, _, _, _, _, _, ⟨_, _, _, _, _, _, _, _, _, _, ⟨g2, t2, cs2, f2, p2, q2, hg2, ht2, hv2, hd2, ⟨ga, ta, csa, fa, pa, qa, hga, hta, hva, hda, ⟨g0, t0, cs0, f0, p0, q0, hg0, ht0, hv0, hd0, _, _⟩, _⟩, _⟩, _⟩, _⟩, _, _⟩ := h
  obtain rfl := Option.some.inj (gPow.symm.trans hg2)
  obtain rfl := Option.some.inj (tPow.symm.trans ht2)
  obtain rfl := Option.some.inj (gTab.symm.trans hg0)
  obtain rfl := Option.some.inj (tTab.symm.trans ht0)
  refine ⟨⟨?_, fun i v hv => ?_, m, hm⟩, ?_⟩
  · exact World.block_lt_of_cell? W ⟨2, 0, none⟩ hm
  · rw [World.var?_cell hg0 hv0 i, ← Array.getElem?_toList]
    obtain ⟨j, hj, h⟩ := marksC_get i v hv
    have hc := marks_cells hd0 j hj
    rcases h with ⟨rfl, rfl⟩ | ⟨rfl, rfl⟩
    · exact hc.1
    · exact hc.2
  · rw [powData] at hd2
    have e := Lib.cells_of_tab Tryz.underlying102 Tryz.underlying96 (by kernel_rfl) (by kernel_rfl) hd2
    show W.var? Tryz.prog "internal/strconv.uint64pow10" = _
    rw [hv2, ← e]
theorem laidOut : laidOutB Tryz.prog = true := by kernel_rfl
theorem laid_met (os : Os) (args : Array Value) : laidMetH Tryz.prog laidL ((World.laidAll Tryz.prog os laidL).forCall (fun _ _ => 0) ⟨#[], args, []⟩).memory := by
  rw [MakeChecks.laidMetH_plain _ _ _ (by kernel_rfl)]
  exact laidMet_laidAll _ (by kernel_rfl) (by kernel_rfl)
theorem reads (os : Os) {H : Type} (enc : TypeId × Value → H) : ∃ places, DataW.whole enc Tryz.prog ((World.laidAll Tryz.prog os laidL).forCall (fun _ _ => 0) ⟨#[], #[.slice none 0 0], []⟩).memory Tryz.f3.params.toList Rows.lexPrintsSpec.vars false #[(.slice none 0 0 : Value)].toList 8 = some ([.nil], [], places) :=
  ⟨[], by kernel_rfl⟩
set_option maxRecDepth 100000 in
theorem lifted (os : Os) (started : os.Started) (H : Type) (enc : TypeId × Value → H) (F : Stop.Interp) :
    ReturnsInHanded {} Tryz.checked os 3 .any ((OpenSpec.ofChange Rows.lexPrintsSpec).preRow enc Tryz.prog Tryz.f3 Rows.lexPrintsRow.domain false Rows.lexPrintsRow.laid) (((OpenSpec.ofChange Rows.lexPrintsSpec).at F).post enc Tryz.prog Tryz.f3 false true false false) := by
  obtain ⟨places, hx⟩ := reads os enc
  refine returnsInHanded_of_row (C := Tryz.checked) (s := OpenSpec.ofChange Rows.lexPrintsSpec) own started (by kernel_rfl) Tryz.func3
    (witness_row_at (enc := enc) (C := Tryz.checked) false (World.laidAll Tryz.prog os laidL) #[.slice none 0 0] (World.laidAll_os _ _ _) (by kernel_rfl) (by kernel_rfl) (by kernel_rfl)
      (OpenSpec.preRow_of_cond 8 hx (by kernel_rfl) (fun k hk => by cases hk) (by kernel_rfl) (laid_met os _))) ?_
  intro W base args ds gs before hval0 hW0 _ _ hZ hL hsh _
  have hW : DataW.Whole enc Tryz.prog Tryz.f3.params.toList Rows.lexPrintsSpec.vars false W args.toList ds gs before := hW0
  show Calls Tryz.prog 3 args W fun e W' => ∃ v, e = .returned v ∧ Rows.lexPrintsSpec.post enc Tryz.prog Tryz.f3 false true false false W args v W'
  have hval : ∀ (j : Nat) t v, Tryz.f3.params[j]? = some t → args[j]? = some v → Value.okWide Tryz.prog W .any base t v := hval0
  have hW' := hW
  obtain ⟨p, q, hA0, hV, rfl, hfz, hnd⟩ := hW
  have hA : DataW.TrodAll enc Tryz.prog W 0 (fun _ => true) true Tryz.f3.params.toList args.toList ds p := hA0
  have hZ2 : (DataW.weightsEach Tryz.prog (Tryz.f3.params.toList ++ Rows.lexPrintsSpec.plain.varTypes Tryz.prog) (ds ++ gs)).all (· ≤ reachBytes) = true := hZ
  rw [Tryz.params3] at hA hval hZ2
  obtain ⟨v1, vs1, d1, ds1, p1, q1, hargs, rfl, rfl, h1, r1⟩ := trodAll_cons hA
  obtain ⟨rfl, rfl, rfl⟩ := trodAll_nil r1
  obtain rfl : args = #[v1] := by cases args; simp_all
  obtain ⟨rfl, rfl⟩ := trodVars_none hV
  have k1 := h1
  have lt1 : ∀ x ∈ p1, x.block < W.heap.size := by obtain ⟨m, hm⟩ := k1; exact DataW.trod_lt m _ _ _ hm
  obtain ⟨zs, harg, hn1, hs1⟩ : ∃ zs : List Z, ((zs = [] ∧ ∃ p c, v1 = .slice p 0 c) ∨ (0 < zs.length ∧ ∃ g off c, v1 = .slice (some ⟨g, off, none⟩) zs.length c ∧ RdZ W g off zs ∧ zs.length ≤ c ∧ c ≤ maxLen)) ∧ zs.length ≤ 140737488355328 ∧ ∀ i, i < zs.length → (zs.getD i noZ).2.1.length ≤ 140737488355328 ∧ (-9223372036854775808 ≤ (zs.getD i noZ).2.2.1 ∧ (zs.getD i noZ).2.2.1 ≤ 9223372036854775807) := by
    obtain ⟨fuel, hf⟩ := h1
    obtain ⟨b1, len1, cap1, rfl⟩ := okWide_slice Tryz.underlying22 (hval 0 22 v1 rfl rfl)
    exact open_toksN hf (fun m hm => by
      have := List.all_eq_true.1 hZ2 m (DataW.weights_mem_each (j := 0) (t := 22) (d := d1) rfl rfl m hm)
      simpa using this)
  have hT := of_laid hL hsh
  have hrng : ∀ z ∈ zs, Rng z := fun z hz => by
    obtain ⟨i, hi, rfl⟩ := List.mem_iff_getElem.1 hz
    have := (hs1 i hi).2
    rw [List.getD_eq_getElem?_getD, List.getElem?_eq_getElem hi] at this
    exact this
  have hcalls : Calls Tryz.prog 3 #[v1] W fun e w' => e = .returned (.bool true) ∧ Bl W w' := by
    rcases harg with ⟨rfl, p, c, rfl⟩ | ⟨h0, g, off, c, rfl, hr, hc, hm⟩
    · refine prints_any p c 0 [] rfl W hT.1 hT.2 ⟨⟨p, c, rfl, fun h => by simp at h⟩⟩ (mkHid ?_) hrng
      refine (beyond_nil p c W).mono ?_
      rintro e w' ⟨rfl, rfl⟩
      exact ⟨Or.inr ⟨rfl, Nat.zero_le _⟩, Bl.refl _⟩
    · exact prints_any (some ⟨g, off, none⟩) c zs.length zs rfl W hT.1 hT.2 ⟨⟨_, c, rfl, fun _ => ⟨g, off, rfl, hr.1, hr.2⟩⟩⟩ (mkHid (beyond_ok g off c zs W hr hn1 (fun i hi => (hs1 i hi).1))) hrng
  clear hA0 hval0 hW0
  refine hcalls.mono fun e W' ⟨he, bel⟩ => ?_
  subst he
  exact ⟨_, rfl, _, _, _, [], _, [], hW', trodAll_mk1 (shut_bool Tryz.underlying4 _), (trodAll_cons_mk (Below.trod laidOut (by kernel_rfl) (of_decide_eq_true (by kernel_rfl)) k1 bel lt1) trodAll_mk0), rfl, bel.frame _, fun h => by cases h⟩
theorem proved : Rows.LexPrintsSaid :=
  OpenClaim.holds_of_cond 3 Tryz.f3 rfl rfl rfl rfl rfl rfl rfl ⟨rfl, rfl, rfl, rfl, rfl⟩ rfl rfl rfl rfl rfl (by kernel_rfl) Tryz.func3 (by kernel_rfl)
    (of_decide_eq_true (by kernel_rfl)) (by unfold Func.isWrapper; first | (rw [if_pos (by decide +kernel)]; kernel_rfl) | (rw [if_neg (by decide +kernel)]; exact ⟨rfl, rfl⟩))
    (fun os started H enc _ F => by rw [OpenClaim.pre_eq_preRow]; exact lifted os started H enc F)
end Go.Proofs.YtimlomobbnnehaaGreatDoor.lexPrints
