import Derived.Test.YtheolmnjedbjmaaDoorRows
import Derived.Test.YtheolmnjedbjmaaDoorSLC
import Derived.WalkKit
import Derived.ProofKit
import Derived.OpenShut
import Derived.LaidMore
import Derived.Lay
import Derived.Lib.SmallJoins
import Derived.Lib.LaidTab
import Derived.Stop.Joined
import Derived.Stop.LaidErr
import Derived.SizedLaws
import Derived.JoinedCond
import Derived.ChangeMaps5
namespace Go.Proofs.YtheolmnjedbjmaaDoor
open Go.ChangeShapes Go.WideShapes Go.ChangeAt Go.RowKit
set_option linter.unusedVariables false
set_option linter.unusedSimpArgs false
theorem eOwn : ownKnob Tryd.prog.godebug = none := by kernel_rfl
theorem egPow : Tryd.prog.globalNamed "internal/strconv.uint64pow10" = some 1 := by kernel_rfl
theorem etPow : (Tryd.prog.globals[1]?).map (·.type) = some 109 := by kernel_rfl
theorem ePowData : (Rows.laid_internal_strconv_uint64pow10 : DataW Unit) = Lib.tabData .u64 Lib.pow10Tab := by kernel_rfl
abbrev eLaid : List (String × DataW Unit) := [("math/bits.deBruijn32tab", Rows.laid_math_bits_deBruijn32tab), ("math/bits.deBruijn64tab", Rows.laid_math_bits_deBruijn64tab), ("internal/strconv.uint64pow10", Rows.laid_internal_strconv_uint64pow10)]
theorem of_laid {W : World} (h : laidMetH Tryd.prog eLaid W) : Pw W := by
  rw [MakeChecks.laidMetH_plain _ _ _ (by kernel_rfl)] at h
  have h2 := laidMet.tail (laidMet.tail h)
  obtain ⟨ps, ⟨g2, t2, cs2, f2, p2, q2, hg2, ht2, hv2, hd2, _, _⟩, _, _⟩ := h2
  obtain rfl := Option.some.inj (egPow.symm.trans hg2)
  obtain rfl := Option.some.inj (etPow.symm.trans ht2)
  rw [ePowData] at hd2
  have e := Lib.cells_of_tab Tryd.underlying109 Tryd.underlying90 (by kernel_rfl) (by kernel_rfl) hd2
  show W.var? Tryd.prog "internal/strconv.uint64pow10" = _
  rw [hv2, ← e]
theorem eLaidOut : laidOutB Tryd.prog = true := by kernel_rfl
theorem laid_met (os : Os) (args : Array Value) : laidMetH Tryd.prog eLaid ((World.laidAll Tryd.prog os eLaid).forCall (fun _ _ => 0) ⟨#[], args, []⟩).memory := by
  rw [MakeChecks.laidMetH_plain _ _ _ (by kernel_rfl)]
  exact laidMet_laidAll _ (by kernel_rfl) (by kernel_rfl)
theorem oc3 : Tryd.prog.cellsOf 3 = 1 := by kernel_rfl
theorem oc9 : Tryd.prog.cellsOf 9 = 1 := by kernel_rfl
theorem oc22 : Tryd.prog.cellsOf 22 = 1 := by kernel_rfl
theorem oc24 : Tryd.prog.cellsOf 24 = 4 := by kernel_rfl
theorem oc26 : Tryd.prog.cellsOf 26 = 8 := by kernel_rfl
theorem wf_range {n : Int} (h : (Lit.int .i64 n).wf = true) : In64 n := by
  simpa [In64, Lit.wf, IntKind.min, IntKind.max, IntKind.signed, IntKind.bits] using h
theorem bulk_mem {H : Type} {d : DataW H} : ∀ {l : List (DataW H)}, d ∈ l → Rows.uptoBulk d ≤ Rows.uptoBulkAll l
  | [], h => by cases h
  | x :: l, h => by
    rw [Rows.uptoBulkAll]
    rcases List.mem_cons.1 h with rfl | h
    · omega
    · have := bulk_mem h; omega
section
variable {H : Type} {enc : TypeId × Value → H} {w : World} {spare : Nat → Bool} {held : Bool}
/-- a text, opened -/
theorem open_text {fuel : Nat} {u : Value} {y : DataW H × List MemPlace} (h : DataW.trod enc Tryd.prog w 0 spare held fuel 9 [u] = some y) (hb : Rows.uptoBulk y.1 ≤ 1048576) : ∃ t : Bs, u = .string (ba t) ∧ t.length ≤ 1048576 := by
  obtain ⟨s, e1, e2, -⟩ := DataW.trod_string Tryd.underlying9 h
  rw [e2, Rows.uptoBulk] at hb
  simp at e1
  exact ⟨s.data.toList, by rw [e1, ba_of], by omega⟩
set_option maxRecDepth 20000 in
/-- an answer, opened -/
theorem open_ans {fuel : Nat} {cs : List Value} {x : DataW H × List MemPlace} (h : DataW.trod enc Tryd.prog w 0 spare held fuel 26 cs = some x) (hb : Rows.uptoBulk x.1 ≤ 1048576) :
    ∃ (n1 : Int) (c1 c2 : Bs) (n5' n2 n3 n4 : Int) (t : Bs), cs = [.int .i64 n1, .string (ba c1), .string (ba c2), .int .i64 n5', .int .i64 n2, .int .i64 n3, .int .i64 n4, .string (ba t)] ∧ In64 n1 ∧ In64 n2 ∧ In64 n3 ∧ In64 n4 ∧ In64 n5' ∧ c1.length ≤ 1048576 ∧ c2.length ≤ 1048576 ∧ t.length ≤ 1048576 := by
  obtain ⟨xs, k, hk, hxy, hcl, hxl, hf⟩ := DataW.trod_struct Tryd.underlying26 h
  rw [oc26] at hcl
  match xs, hxl, cs, hcl with
  | [y0, y1, y2, y3, y4], _, [t0, t1, t2, t3, t4, t5, t6, t7], _ =>
    have g0 := hf 0 _ rfl
    have g1 := hf 1 _ rfl
    have g2 := hf 2 _ rfl
    have g3 := hf 3 _ rfl
    have g4 := hf 4 _ rfl
    simp [oc3, oc9, oc24] at g0 g1 g2 g3 g4
    have hd : x.1 = .agg [y0.1, y1.1, y2.1, y3.1, y4.1] := by rw [hxy]; simp
    rw [hd] at hb
    simp only [Rows.uptoBulk, Rows.uptoBulkAll] at hb
    obtain ⟨n2, e1, -, w2⟩ := DataW.trod_int Tryd.underlying3 g1
    obtain ⟨n3, e2, -, w3⟩ := DataW.trod_int Tryd.underlying3 g2
    obtain ⟨n4, e3, -, w4⟩ := DataW.trod_int Tryd.underlying3 g3
    obtain ⟨t, e4, l4⟩ := open_text g4 (by omega)
    simp at e1 e2 e3
    obtain ⟨zs, m, hm, hzy, hzl, hzn, hg⟩ := DataW.trod_struct Tryd.underlying24 g0
    match zs, hzn with
    | [z0, z1, z2, z3], _ =>
      have f0 := hg 0 _ rfl
      have f1 := hg 1 _ rfl
      have f2 := hg 2 _ rfl
      have f3 := hg 3 _ rfl
      simp [oc3, oc9, oc22] at f0 f1 f2 f3
      have hd0 : y0.1 = .agg [z0.1, z1.1, z2.1, z3.1] := by rw [hzy]; simp
      rw [hd0] at hb
      simp only [Rows.uptoBulk, Rows.uptoBulkAll] at hb
      obtain ⟨n1, e5, -, w1⟩ := DataW.trod_int Tryd.underlying22 f0
      obtain ⟨c1, e6, l6⟩ := open_text f1 (by omega)
      obtain ⟨c2, e7, l7⟩ := open_text f2 (by omega)
      obtain ⟨n5', e8, -, w5⟩ := DataW.trod_int Tryd.underlying3 f3
      simp at e5 e8
      subst e1 e2 e3 e4 e5 e6 e7 e8
      exact ⟨n1, c1, c2, n5', n2, n3, n4, t, rfl, wf_range w1, wf_range w2, wf_range w3, wf_range w4, wf_range w5, l6, l7, l4⟩
end
end Go.Proofs.YtheolmnjedbjmaaDoor
