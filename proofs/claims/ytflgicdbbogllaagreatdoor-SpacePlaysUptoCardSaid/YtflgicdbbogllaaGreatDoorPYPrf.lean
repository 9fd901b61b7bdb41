import Derived.Test.YtflgicdbbogllaaGreatDoorPG37HTable
import Derived.ProofKit
import Derived.Lib.SmallJoins
import Derived.Stop.Joined
import Derived.Deep.DeepHandedRow
set_option maxRecDepth 100000
set_option linter.unusedSimpArgs false
set_option linter.unusedVariables false
namespace Go.Proofs.YtflgicdbbogllaaGreatDoor.spacePlays
open Go.ChangeShapes Go.WideShapes Go.ChangeAt Go.RowKit
theorem own : ownKnob Tryz.prog.godebug = none := by kernel_rfl
theorem gTab : Tryz.prog.globalNamed "kiln/word.kindOfBits" = some 0 := by kernel_rfl
theorem gTab2 : Tryz.prog.globalNamed "math/bits.deBruijn64tab" = some 1 := by kernel_rfl
theorem tTab : (Tryz.prog.globals[0]?).map (·.type) = some 191 := by kernel_rfl
theorem tTab2 : (Tryz.prog.globals[1]?).map (·.type) = some 194 := by kernel_rfl
abbrev laid2 : List (String × DataW Unit) := [("math/bits.deBruijn64tab", Rows.laid_math_bits_deBruijn64tab), ("kiln/word.kindOfBits", Rows.laid_kiln_word_kindOfBits)]
theorem deData : (Rows.laid_math_bits_deBruijn64tab : DataW Unit) = .agg ((Lib.deBruijn64tab.map fun n : Nat => (n : Int)).map fun v => .lit (.int .u8 v)) := by kernel_rfl
theorem of_laid {W : World} (h : laidMetH Tryz.prog laid2 W) : Tab W ∧ kCQ W ∧ 2 ≤ W.heap.size := by
 rw [MakeChecks.laidMetH_plain _ _ _ (by kernel_rfl)] at h;obtain ⟨ps, ⟨g1, t1, cs1, f1, p1, q1, hg1, ht1, hv1, hd1, ⟨g0, t0, cs0, f0, p0, q0, hg0, ht0, hv0, hd0, _, _⟩, _⟩, _, _⟩ := h;obtain rfl := Option.some.inj (gTab2.symm.trans hg1);obtain rfl := Option.some.inj (tTab2.symm.trans ht1);obtain rfl := Option.some.inj (gTab.symm.trans hg0);obtain rfl := Option.some.inj (tTab.symm.trans ht0);have c3 : Tryz.prog.cellsOf 3 = 1 := by kernel_rfl
 have c5 : Tryz.prog.cellsOf 5 = 1 := by kernel_rfl
 have hc : ∀ i, i < 4 → W.cell? ⟨0, i, none⟩ = some (.int .i64 (([3, 1, 2, 1] : List Int).getD i 0)) := fun i hi => by
  rw [World.var?_cell hg0 hv0 i, ← Array.getElem?_toList];exact int_table (vals := [3, 1, 2, 1]) Tryz.underlying191 Tryz.underlying3 c3 hd0 i hi
 have hT : kCQ W := fun i hi => by
  rw [World.var?_cell hg1 hv1 i, ← Array.getElem?_toList];rw [deData] at hd1;have := int_table (vals := Lib.deBruijn64tab.map fun n : Nat => (n : Int)) Tryz.underlying194 Tryz.underlying5 c5 hd1 i (by simpa using hi);rw [this]
  simp [hi]
 refine ⟨⟨hc 0 (by decide), hc 1 (by decide), hc 2 (by decide), hc 3 (by decide)⟩, hT, ?_⟩;have := jAf W ⟨1, 0, none⟩ (hT 0 (by decide));exact this
theorem laidOut : laidOutB Tryz.prog = true := by kernel_rfl
theorem toBelow {w w' : World} (h : Fr [] w w') : Below w.heap.size w w' := h.below (jAD _) (by simp)
theorem door_laid (os : Os) : laidMet Tryz.prog Rows.spacePlaysUptoRow.laid ((World.doorLaid Tryz.prog 19 os).forCall (fun _ _ => 0) ⟨#[], #[.int .i64 0, .int .i64 0, .int .i64 0, .slice none 0 0], []⟩).memory :=
 laidMet_of_run' 8 (by kernel_rfl) (by kernel_rfl)
theorem reads (os : Os) {H : Type} (enc : TypeId × Value → H) : ∃ places, DataW.whole enc Tryz.prog ((World.doorLaid Tryz.prog 19 os).forCall (fun _ _ => 0) ⟨#[], #[.int .i64 0, .int .i64 0, .int .i64 0, .slice none 0 0], []⟩).memory Tryz.f3.params.toList Rows.spacePlaysSpec.vars false #[Value.int .i64 0, .int .i64 0, .int .i64 0, .slice none 0 0].toList 8 = some ([.lit (.int .i64 0), .lit (.int .i64 0), .lit (.int .i64 0), .nil], [], places) :=
 ⟨[], by kernel_rfl⟩
theorem liftedUpto (os : Os) (started : os.Started) (H : Type) (enc : TypeId × Value → H) (F : Stop.Interp) :
  ReturnsInHanded {} Tryz.checked os 3 .any ((Rows.OpenSpec.upto Rows.spacePlaysSpec).preRow enc Tryz.prog Tryz.f3 Rows.spacePlaysUptoRow.domain false Rows.spacePlaysUptoRow.laid) (((Rows.OpenSpec.upto Rows.spacePlaysSpec).at F).post enc Tryz.prog Tryz.f3 false true false false) := by
 obtain ⟨places, hx⟩ := reads os enc
 refine returnsInHanded_of_row (C := Tryz.checked) (s := Rows.OpenSpec.upto Rows.spacePlaysSpec) own started (by kernel_rfl) Tryz.func3
  (witness_row_at (enc := enc) (C := Tryz.checked) false (World.doorLaid Tryz.prog 19 os) #[.int .i64 0, .int .i64 0, .int .i64 0, .slice none 0 0] rfl (by kernel_rfl) (by kernel_rfl) (by kernel_rfl)
   (OpenSpec.preRow_of_cond 8 hx (by kernel_rfl) (fun k hk => by cases hk; kernel_rfl) (by kernel_rfl) (door_laid os))) ?_
 intro W base args ds gs before hval0 hW0 _ hcond hZ hL _ _;have hk : Rows.uptoSmall H (ds ++ gs) = true := hcond _ rfl;have hW : DataW.Whole enc Tryz.prog Tryz.f3.params.toList Rows.spacePlaysSpec.vars false W args.toList ds gs before := hW0;show Calls Tryz.prog 3 args W fun e W' => ∃ v, e = .returned v ∧ Rows.spacePlaysSpec.post enc Tryz.prog Tryz.f3 false true false false W args v W'
 have hval : ∀ (j : Nat) t v, Tryz.f3.params[j]? = some t → args[j]? = some v → Value.okWide Tryz.prog W .any base t v := hval0
 have hW' := hW;obtain ⟨p, q, hA0, hV, rfl, hfz, hnd⟩ := hW;have hA : DataW.TrodAll enc Tryz.prog W 0 (fun _ => true) true Tryz.f3.params.toList args.toList ds p := hA0;have hZ2 : (DataW.weightsEach Tryz.prog (Tryz.f3.params.toList ++ Rows.spacePlaysSpec.plain.varTypes Tryz.prog) (ds ++ gs)).all (· ≤ reachBytes) = true := hZ;rw [Tryz.params3] at hA hval hZ2;obtain ⟨v0, vs0, d0, ds0, p0, q0, hargs, rfl, rfl, h0, r0⟩ := trodAll_cons hA;obtain ⟨v1, vs1, d1, ds1, p1, q1, rfl, rfl, rfl, h1, r1⟩ := trodAll_cons r0;obtain ⟨v2, vs2, d2, ds2, p2, q2, rfl, rfl, rfl, h2, r2⟩ := trodAll_cons r1;obtain ⟨v3, vs3, d3, ds3, p3, q3, rfl, rfl, rfl, h3, r3⟩ := trodAll_cons r2;obtain ⟨rfl, rfl, rfl⟩ := trodAll_nil r3;obtain rfl : args = #[v0, v1, v2, v3] := by cases args; simp_all
 obtain ⟨rfl, rfl⟩ := trodVars_none hV;obtain ⟨a0, rfl, rfl, rfl, w0⟩ := open_int Tryz.underlying3 (hval 0 3 v0 rfl rfl) h0;obtain ⟨a1, rfl, rfl, rfl, w1⟩ := open_int Tryz.underlying3 (hval 1 3 v1 rfl rfl) h1;obtain ⟨a2, rfl, rfl, rfl, w2⟩ := open_int Tryz.underlying3 (hval 2 3 v2 rfl rfl) h2;obtain ⟨a3, len3, cap3, rfl⟩ := okWide_slice Tryz.underlying22 (hval 3 22 v3 rfl rfl);have k3 := h3;have lt3 : ∀ x ∈ p3, x.block < W.heap.size := by obtain ⟨m, hm⟩ := k3; exact DataW.trod_lt m _ _ _ hm
 obtain ⟨t1, t2, t3⟩ := of_laid hL;have hbig : Rows.uptoBulkAll _ ≤ 1048576 := of_decide_eq_true hk;simp only [jAz, Rows.uptoBulkAll] at hbig
 have hcalls : Calls Tryz.prog 3 #[.int .i64 a0, .int .i64 a1, .int .i64 a2, .slice a3 len3 cap3] W fun e w' => e = .returned (.bool true) ∧ Fr [] W w' := by
  obtain ⟨fuel3, hf3⟩ := h3
  obtain ⟨ao, sz, c, b, off, hcs, g3, g4, g5⟩ := open_stepsB hf3 (fun n hn => by
   have := jBR.1 hZ2 n (DataW.weights_mem_each (j := 3) (t := 22) (d := d3) rfl rfl n hn)
   simpa using this)
  simp [Value.cells] at hcs
  obtain ⟨rfl, rfl, rfl⟩ := hcs;have hb3 : Rows.uptoBulk d3 ≤ 1048576 := by omega
  exact kLl a0 a1 a2 a3 b off len3 cap3 W (fun h => (g3 h).1) ⟨t1, t2, by omega⟩ (fun h => (g3 h).2) (by have : len3 ≤ Rows.uptoBulk d3 := g4; omega) (fun i hi => (g5 i hi).mono hb3)
 clear hA0 hval0 hW0;refine hcalls.mono fun e W' ⟨he, hfr⟩ => ?_
 subst he;have bel := toBelow hfr;exact ⟨_, rfl, _, _, _, [], _, [], hW', trodAll_mk1 (shut_bool Tryz.underlying4 _), (trodAll_cons_mk (shut_int Tryz.underlying3 w0) (trodAll_cons_mk (shut_int Tryz.underlying3 w1) (trodAll_cons_mk (shut_int Tryz.underlying3 w2) (trodAll_cons_mk (Below.trod laidOut (by kernel_rfl) (of_decide_eq_true (by kernel_rfl)) k3 bel lt3) trodAll_mk0)))), rfl, bel.frame _, fun h => by cases h⟩
theorem proved : Rows.SpacePlaysUptoSaid :=
 OpenClaim.holds_of_cond 3 Tryz.f3 rfl rfl rfl rfl rfl rfl rfl ⟨rfl, rfl, rfl, rfl, rfl⟩ rfl rfl rfl rfl rfl (by kernel_rfl) Tryz.func3 (by kernel_rfl)
  (of_decide_eq_true (by kernel_rfl)) (by unfold Func.isWrapper; first | (rw [jp (by decide +kernel)]; kernel_rfl) | (rw [jn (by decide +kernel)]; exact ⟨rfl, rfl⟩))
  (fun os started H enc _ F => by rw [OpenClaim.pre_eq_preRow]; exact liftedUpto os started H enc F)
end Go.Proofs.YtflgicdbbogllaaGreatDoor.spacePlays
