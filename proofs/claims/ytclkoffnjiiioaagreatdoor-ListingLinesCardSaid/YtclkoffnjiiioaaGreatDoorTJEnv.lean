import Derived.Test.YtclkoffnjiiioaaGreatDoorRows
import Derived.Test.YtclkoffnjiiioaaGreatDoorTG17JRd3
import Derived.WalkKit
import Derived.ProofKit
import Derived.OpenShut
import Derived.LaidMore
import Derived.Lay
import Derived.Lib.SmallJoins
import Derived.Stop.LaidErr
import Derived.ChangeMaps5
import Derived.SizedLaws
import Derived.JoinedCond
namespace Go.Proofs.YtclkoffnjiiioaaGreatDoor
open Go.ChangeShapes Go.WideShapes Go.ChangeAt Go.RowKit
set_option linter.unusedVariables false
theorem eOwn : ownKnob Tryz.prog.godebug = none := by kernel_rfl
theorem egTab : Tryz.prog.globalNamed "kiln/listing.operations" = some 0 := by kernel_rfl
theorem etTab : (Tryz.prog.globals[0]?).map (·.type) = some 83 := by kernel_rfl
theorem egPow : Tryz.prog.globalNamed "internal/strconv.uint64pow10" = some 1 := by kernel_rfl
theorem etPow : (Tryz.prog.globals[1]?).map (·.type) = some 153 := by kernel_rfl
theorem egSyn : Tryz.prog.globalNamed "strconv.ErrSyntax" = some 3 := by kernel_rfl
theorem etSyn : (Tryz.prog.globals[3]?).map (·.type) = some 130 := by kernel_rfl
theorem egRng : Tryz.prog.globalNamed "strconv.ErrRange" = some 4 := by kernel_rfl
theorem etRng : (Tryz.prog.globals[4]?).map (·.type) = some 130 := by kernel_rfl
theorem egAcc : Tryz.prog.globalNamed "unicode/utf8.acceptRanges" = some 8 := by kernel_rfl
theorem ePowData : (Rows.laid_internal_strconv_uint64pow10 : DataW Unit) = Lib.tabData .u64 Lib.pow10Tab := by kernel_rfl
theorem ec189 : Tryz.prog.cellsOf 189 = 1 := by kernel_rfl
theorem eStar : "*" ++ "errors.errorString" = "*errors.errorString" := by decide
theorem eRow187 (u : TypeId) (h : Tryz.prog.typeName? 3 u = some "*errors.errorString") : u = 187 :=
  typeName_ptr_named (nm := "errors.errorString") (by rw [eStar]; kernel_rfl) (by kernel_rfl) (by decide) u (by rw [eStar]; exact h)
abbrev eLaid : List (String × DataW Unit) := [("math/bits.deBruijn32tab", Rows.laid_math_bits_deBruijn32tab), ("math/bits.deBruijn64tab", Rows.laid_math_bits_deBruijn64tab), ("internal/strconv.uint64pow10", Rows.laid_internal_strconv_uint64pow10), ("unicode/utf8.acceptRanges", Rows.laid_unicode_utf8_acceptRanges), ("strconv.ErrRange", Rows.laid_strconv_ErrRange), ("strconv.ErrSyntax", Rows.laid_strconv_ErrSyntax), ("kiln/listing.operations", Rows.laid_kiln_listing_operations), ("unicode/utf8.first", Rows.laid_unicode_utf8_first)]
def opVals : List (ByteArray × Int) := (List.range 29).map fun i => (nmB i, (opd i : Int))
theorem opData : (Rows.laid_kiln_listing_operations : DataW Unit) = .agg (opVals.map fun v => .agg [.lit (.string v.1.data.toList), .lit (.int .i64 v.2)]) := by kernel_rfl
theorem op_at (i : Nat) (hi : i < 29) : opVals[i]? = some (nmB i, (opd i : Int)) := by
  unfold opVals
  rw [List.getElem?_map, List.getElem?_range hi]
  rfl
theorem er_of {W : World} {g : Nat} {n : String} (hg : Tryz.prog.globalNamed n = some g) {a : Addr} (h : W.var? Tryz.prog n = some #[.iface 187 (.pointer (some a))]) : Er W g :=
  ⟨.iface 187 (.pointer (some a)), by have := World.var?_cell hg h 0; simpa using this, .inr ⟨187, _, rfl⟩⟩
theorem of_laid {W : World} (h : laidMetH Tryz.prog eLaid W) : Ev W ∧ 9 ≤ W.heap.size := by
  rw [MakeChecks.laidMetH_plain _ _ _ (by kernel_rfl)] at h
  have h2 := laidMet.tail (laidMet.tail h)
  have h3 := laidMet.tail h2
  have h4 := laidMet.tail h3
  have h5 := laidMet.tail h4
  have h6 := laidMet.tail h5
  obtain ⟨a4, -, hv4, -⟩ := laid_sentinel h4 egRng etRng Tryz.underlying130 eRow187 Tryz.underlying187 Tryz.underlying189 rfl rfl Tryz.underlying9 ec189 oc9
  obtain ⟨a5, -, hv5, -⟩ := laid_sentinel h5 egSyn etSyn Tryz.underlying130 eRow187 Tryz.underlying187 Tryz.underlying189 rfl rfl Tryz.underlying9 ec189 oc9
  have hP : Pw W := by
    obtain ⟨ps, ⟨g2, t2, cs2, f2, p2, q2, hg2, ht2, hv2, hd2, _, _⟩, _, _⟩ := h2
    obtain rfl := Option.some.inj (egPow.symm.trans hg2)
    obtain rfl := Option.some.inj (etPow.symm.trans ht2)
    rw [ePowData] at hd2
    have e := Lib.cells_of_tab Tryz.underlying153 Tryz.underlying121 (by kernel_rfl) (by kernel_rfl) hd2
    show W.var? Tryz.prog "internal/strconv.uint64pow10" = _
    rw [hv2, ← e]
  have h9 : 9 ≤ W.heap.size := by
    obtain ⟨ps, ⟨g3, t3, cs3, f3, p3, q3, hg3, ht3, hv3, hd3, _, _⟩, _, _⟩ := h3
    obtain rfl := Option.some.inj (egAcc.symm.trans hg3)
    unfold World.var? at hv3
    rw [egAcc] at hv3
    simp only [Option.bind_some] at hv3
    rcases Nat.lt_or_ge 8 W.heap.size with q | q
    · exact q
    · rw [Array.getElem?_eq_none q] at hv3
      cases hv3
  have hT : Tb W := by
    obtain ⟨ps, ⟨g0, t0, cs0, f0, p0, q0, hg0, ht0, hv0, hd0, _, _⟩, _, _⟩ := h6
    obtain rfl := Option.some.inj (egTab.symm.trans hg0)
    obtain rfl := Option.some.inj (etTab.symm.trans ht0)
    rw [opData] at hd0
    intro i hi
    obtain ⟨h1, h2⟩ := two_table (vals := opVals) hd0 i _ (op_at i hi)
    exact ⟨by rw [World.var?_cell hg0 hv0 (i * 2), ← Array.getElem?_toList]; exact h1, by rw [World.var?_cell hg0 hv0 (i * 2 + 1), ← Array.getElem?_toList]; exact h2⟩
  exact ⟨⟨hT, hP, er_of egSyn hv5, er_of egRng hv4⟩, h9⟩
theorem eLaidOut : laidOutB Tryz.prog = true := by kernel_rfl
theorem toBelow {w w' : World} (h : Fr [] w w') : Below w.heap.size w w' := h.below (Nat.le_refl _) (by simp)
abbrev arg0 : Value := .agg #[.int .i64 0, .int .i64 0, .int .i64 0, .slice none 0 0, .slice none 0 0]
abbrev dat0 {H : Type} : DataW H := .agg [.lit (.int .i64 0), .lit (.int .i64 0), .lit (.int .i64 0), .nil, .nil]
theorem laid_met (os : Os) (args : Array Value) : laidMetH Tryz.prog eLaid ((World.laidAll Tryz.prog os eLaid).forCall (fun _ _ => 0) ⟨#[], args, []⟩).memory := by
  rw [MakeChecks.laidMetH_plain _ _ _ (by kernel_rfl)]
  exact laidMet_laidAll _ (by kernel_rfl) (by kernel_rfl)
end Go.Proofs.YtclkoffnjiiioaaGreatDoor
