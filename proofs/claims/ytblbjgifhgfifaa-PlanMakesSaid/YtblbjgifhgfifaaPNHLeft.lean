import Derived.Test.YtblbjgifhgfifaaPNHand
import Derived.Test.YtblbjgifhgfifaaPNTurns
namespace Go.Proofs.Ytblbjgifhgfifaa
open Go.RowKit
set_option linter.unusedVariables false
set_option linter.unusedSimpArgs false
/-- what is handed in, as it can be read -/
structure HRd (w : World) (b : Nat) (l : List Cl) (gF cF : Nat) (pO : Option Addr) (cO : Nat) (k : List Cl) (vs : List Value) : Prop where
  top : w.heap[b]? = some (.cells #[.slice (some ⟨gF, 0, none⟩) l.length cF, .slice (some ⟨gF, 0, none⟩) (l.length + 8) cF, .slice pO l.length cO] 54 (0, 0))
  vl : vs.length = l.length
  kl : k.length = l.length + 8
  full : RdC w (.slice (some ⟨gF, 0, none⟩) (l.length + 8) cF) k
  own : ∀ m, m < l.length → ∃ gO p c, pO = some ⟨gO, 0, none⟩ ∧ gO < w.heap.size ∧ w.cell? ⟨gO, m, none⟩ = some (.slice p ((clAt l m).own.length + 8) c) ∧ RdS w (.slice p ((clAt l m).own.length + 8) c) (marks (clAt l m).own 8) ∧ clAt k m = ⟨(clAt l m).name, (clAt l m).sup, (clAt l m).own, (clAt l m).lay, .slice p (clAt l m).own.length c⟩
  mark : ∀ m, l.length ≤ m → m < l.length + 8 → clAt k m = markC
theorem HRd.idle {w V : World} {b : Nat} {l : List Cl} {gF cF : Nat} {pO : Option Addr} {cO : Nat} {k : List Cl} {vs : List Value} (h : HRd w b l gF cF pO cO k vs) (hf : Fr [] w V) : HRd V b l gF cF pO cO k vs :=
  ⟨(hf.block b (lt_of_heap h.top) (by simp)).trans h.top, h.vl, h.kl, h.full.idle hf, fun m hm => by
    obtain ⟨gO, p, c, q1, q2, q3, q4, q5⟩ := h.own m hm
    exact ⟨gO, p, c, q1, by have := hf.size; omega, (hf.cell (p := ⟨gO, m, none⟩) q2 (by simp)).trans q3, q4.idle hf, q5⟩, h.mark⟩
theorem hrd_of {w0 w : World} {b : Nat} {l : List Cl} (h : HEnd w0 w b l) (hN : l.length ≤ 1048576) : ∃ gF cF pO cO k vs, HRd w b l gF cF pO cO k vs := by
  obtain ⟨pF, cF, pO, cO, k, vs, h1, h2, h3, h4, h5, h6, h7, h8, h9⟩ := h
  obtain ⟨gF, rfl⟩ : ∃ gF, pF = some ⟨gF, 0, none⟩ := by
    rcases h4.2 with ⟨e, e2⟩ | ⟨g', c', cur, e, _⟩
    · omega
    · injection e with e; exact ⟨g', e⟩
  refine ⟨gF, cF, pO, cO, k, vs, h1, h2, h3, ?_, fun m hm => ?_, h9⟩
  · have := own_rdC (l := k) h4 (fun m hm => by
      by_cases e : m < l.length
      · obtain ⟨p, c, q1, q2, q3, q4⟩ := h8 m e
        rw [q4]
        have hfr := RdS.front (k := (clAt l m).own.length) (by rw [marks_len]; exact q2) (by rw [marks_len]; omega)
        unfold marks at hfr
        rw [List.take_left] at hfr
        exact hfr
      · rw [h9 m (by omega) (by omega)]; exact rd_nil w) (by omega)
    rw [h3] at this
    exact this
  · obtain ⟨p, c, q1, q2, q3, q4⟩ := h8 m hm
    obtain ⟨_, gO, e, hc, hl⟩ := list_cells h5 (by omega)
    exact ⟨gO, p, c, e, hl, hc m _ q1, q2, q4⟩
set_option maxRecDepth 20000 in
set_option maxHeartbeats 4000000 in
theorem lHLeft_ok (l : List Cl) (v : Value) (w : World) (h : RdC w v l) (hN : l.length + sumOwn l ≤ 1048576) (b gF cF : Nat) (pO : Option Addr) (cO : Nat) (k : List Cl) (vs : List Value) (hh : HRd w b l gF cF pO cO k vs) :
    Calls Try.prog 24 #[.pointer (some ⟨b, 0, none⟩), v] w fun e w' => e = .returned (.bool true) ∧ Fr [] w w' := by
  have HC := mkHid h
  have HH := mkHid hh
  obtain ⟨pl, c0, rfl, h1⟩ := h.at_
  have hNl : l.length ≤ 1048576 := by omega
  have HOl : Hid (∀ m, m < l.length → (clAt l m).own.length ≤ 1048576) := mkHid (fun m hm => by have := own_le_sum hm; omega)
  have HB : Hid (∀ W, Fr [] w W → W.cell? ⟨b, 1, none⟩ = some (.slice (some ⟨gF, 0, none⟩) (l.length + 8) cF) ∧ W.cell? ⟨b, 2, none⟩ = some (.slice pO l.length cO)) := mkHid (fun W hW => by
    have ht := (hh.idle hW).top
    exact ⟨by rw [cell_in ht]; rfl, by rw [cell_in ht]; rfl⟩)
  have HFu : Hid (∀ W, Fr [] w W → ∀ m, m < l.length + 8 → W.cell? ⟨gF, m * 4, none⟩ = some (.string (clAt k m).name) ∧ W.cell? ⟨gF, m * 4 + 1, none⟩ = some (.string (clAt k m).sup) ∧ W.cell? ⟨gF, m * 4 + 2, none⟩ = some (clAt k m).v ∧ W.cell? ⟨gF, m * 4 + 3, none⟩ = some (.int .i64 (clAt k m).lay)) := mkHid (fun W hW m hm => by
    have hf := (hh.idle hW).full
    obtain ⟨p', c', e, q⟩ := hf.at_
    injection e with e1 e2 e3
    obtain ⟨g', o', e4, _, q2⟩ := q (by rw [hh.kl]; omega)
    rw [← e1] at e4
    injection e4 with e4
    injection e4 with e4 e5
    subst e4
    subst e5
    have := q2 m (by rw [hh.kl]; exact hm)
    simpa using this)
  clear h h1 hh hN
  obtain ⟨q0, q1⟩ := HB.out w (Fr.refl _ _)
  have bb : (((l.length + 8 : Nat) : Int) != (l.length : Int) + 8) = false := by rw [bne_eq_false_iff_eq]; omega
  have bi : ((l.length + 8 : Nat) : Int) = (l.length : Int) + 8 := by omega
  go_enter Try.func24, Try.ntmps24
  go_wp2_with fail
  go_loopw [5] (fun q wr => ∃ i : Nat, i ≤ l.length + 8 ∧ q = .int .i64 i ∧ Hid (Fr [] w wr)) (fun q _ => l.length + 8 - (intOf q).toNat)
  case atStart => exact ⟨0, Nat.zero_le _, rfl, mkHid (Fr.refl _ _)⟩
  case round =>
    obtain ⟨i, hi, rfl, hfr⟩ := hrel
    have i1 : (0 : Int) ≤ (i : Int) := by omega
    obtain ⟨u1, u2⟩ := HB.out wr hfr.out
    by_cases hlt : i < l.length + 8
    · have i2 : (i : Int) < (l.length : Int) + 8 := by omega
      obtain ⟨f0, f1, f2, f3⟩ := HFu.out wr hfr.out i hlt
      by_cases hm : l.length ≤ i
      · have i3 : (l.length : Int) ≤ (i : Int) := by omega
        rw [HH.out.mark i hm hlt] at f0 f2
        simp only [markC, sMark] at f0 f2
        clear HH HB HFu HC HOl f1 f3
        go_wp2_with fail
        go_roundw
        case rel => exact ⟨i + 1, by omega, by go_num, hfr⟩
        case measure => simp [intOf]; omega
      · have i3 : ¬ (l.length : Int) ≤ (i : Int) := by omega
        have i4 : (i : Int) < (l.length : Int) := by omega
        have hil : i < l.length := by omega
        obtain ⟨gO, p, c, e1, e2, e3, e4, e5⟩ := (HH.out.idle hfr.out).own i hil
        have hcl := HC.out.idle hfr.out
        obtain ⟨pp, cc, e6, e7⟩ := hcl.at_
        injection e6 with e6 e6b e6c
        clear e6b e6c
        obtain ⟨gl, ol, e8, e9, e10⟩ := e7 (by omega)
        obtain ⟨r0, r1, r2, r3⟩ := e10 i hil
        have hro := hcl.own i hil
        obtain ⟨pv, cv, ev, _⟩ := hro.at_
        rw [ev] at r2 hro
        rw [e5] at f0 f1 f2 f3
        simp only at f0 f1 f2 f3
        subst e1
        rw [← e6] at e8
        subst e8
        have sX := HOl.out i hil
        have hfront := RdS.front (k := (clAt l i).own.length) (by rw [marks_len]; exact e4) (by rw [marks_len]; omega)
        unfold marks at hfront
        rw [List.take_left] at hfront
        have HR1 := mkHid hfront
        have HR2 := mkHid hro
        have HR3 := mkHid e4
        generalize hX : (clAt l i).own = X at *
        generalize hnm : (clAt l i).name = nm at *
        generalize hsp : (clAt l i).sup = sp at *
        generalize hly : (clAt l i).lay = ly at *
        have hgF := World.block_lt_of_cell? wr _ f0
        have hbl := World.block_lt_of_cell? wr _ u1
        have HCC : Hid (∀ V, Hid (Fr [] wr V) → V.cell? ⟨b, 1, none⟩ = some (.slice (some ⟨gF, 0, none⟩) (l.length + 8) cF) ∧ V.cell? ⟨b, 2, none⟩ = some (.slice (some ⟨gO, 0, none⟩) l.length cO) ∧ V.cell? ⟨gF, i * 4, none⟩ = some (.string nm) ∧ V.cell? ⟨gF, i * 4 + 1, none⟩ = some (.string sp) ∧ V.cell? ⟨gF, i * 4 + 2, none⟩ = some (.slice p X.length c) ∧ V.cell? ⟨gF, i * 4 + 3, none⟩ = some (.int .i64 ly) ∧ V.cell? ⟨gO, i, none⟩ = some (.slice p (X.length + 8) c) ∧ V.cell? ⟨gl, ol + i * 4, none⟩ = some (.string nm) ∧ V.cell? ⟨gl, ol + i * 4 + 1, none⟩ = some (.string sp) ∧ V.cell? ⟨gl, ol + i * 4 + 2, none⟩ = some (.slice pv X.length cv) ∧ V.cell? ⟨gl, ol + i * 4 + 3, none⟩ = some (.int .i64 ly)) := mkHid (fun V hV => by
          have hf := hV.out
          exact ⟨(hf.cell (p := ⟨b, 1, none⟩) hbl (by simp)).trans u1, (hf.cell (p := ⟨b, 2, none⟩) hbl (by simp)).trans u2, (hf.cell (p := ⟨gF, i * 4, none⟩) hgF (by simp)).trans f0, (hf.cell (p := ⟨gF, i * 4 + 1, none⟩) hgF (by simp)).trans f1, (hf.cell (p := ⟨gF, i * 4 + 2, none⟩) hgF (by simp)).trans f2, (hf.cell (p := ⟨gF, i * 4 + 3, none⟩) hgF (by simp)).trans f3, (hf.cell (p := ⟨gO, i, none⟩) e2 (by simp)).trans e3, (hf.cell (p := ⟨gl, ol + i * 4, none⟩) e9 (by simp)).trans r0, (hf.cell (p := ⟨gl, ol + i * 4 + 1, none⟩) e9 (by simp)).trans r1, (hf.cell (p := ⟨gl, ol + i * 4 + 2, none⟩) e9 (by simp)).trans r2, (hf.cell (p := ⟨gl, ol + i * 4 + 3, none⟩) e9 (by simp)).trans r3⟩)
        have HS21 : Hid (∀ V, Hid (Fr [] wr V) → Calls Try.prog 21 #[.slice p X.length c, .slice pv X.length cv] V fun e w' => e = .returned (.bool true) ∧ Hid (Fr [] wr w')) := mkHid (fun V hV => by
          refine Calls.mono (lSame_ok X X _ _ V (HR1.out.idle hV.out) (HR2.out.idle hV.out)) ?_
          rintro e w' ⟨rfl, m, rfl⟩
          exact ⟨by rw [decide_eq_true rfl], mkHid (hV.out.trans (Fr.drewN [] _ _) (by simp))⟩)
        have HS25 : Hid (∀ V, Hid (Fr [] wr V) → Calls Try.prog 25 #[.slice p (X.length + 8) c, .slice pv X.length cv] V fun e w' => e = .returned (.bool true) ∧ Hid (Fr [] wr w')) := mkHid (fun V hV => by
          refine Calls.mono (lLeft_ok (marks X 8) X _ _ V (HR3.out.idle hV.out) (HR2.out.idle hV.out) (by omega)) ?_
          rintro e w' ⟨rfl, f⟩
          exact ⟨by rw [decide_eq_true rfl], mkHid (hV.out.trans f (by simp))⟩)
        have hR : Hid (Fr [] wr wr) := mkHid (Fr.refl _ _)
        clear HH HB HFu HC HOl e2 e3 e4 e5 e7 e9 e10 e6 r0 r1 r2 r3 hro ev hfront HR1 HR2 HR3 hX hnm hsp hly hgF hbl hcl q0 q1 f0 f1 f2 f3
        go_wp2_with fail
        go_region_held3 (fun V => V.cell? ⟨b, 1, none⟩ = some (.slice (some ⟨gF, 0, none⟩) (l.length + 8) cF) ∧ V.cell? ⟨b, 2, none⟩ = some (.slice (some ⟨gO, 0, none⟩) l.length cO) ∧ V.cell? ⟨gF, i * 4, none⟩ = some (.string nm) ∧ V.cell? ⟨gF, i * 4 + 1, none⟩ = some (.string sp) ∧ V.cell? ⟨gF, i * 4 + 2, none⟩ = some (.slice p X.length c) ∧ V.cell? ⟨gF, i * 4 + 3, none⟩ = some (.int .i64 ly) ∧ V.cell? ⟨gO, i, none⟩ = some (.slice p (X.length + 8) c) ∧ V.cell? ⟨gl, ol + i * 4, none⟩ = some (.string nm) ∧ V.cell? ⟨gl, ol + i * 4 + 1, none⟩ = some (.string sp) ∧ V.cell? ⟨gl, ol + i * 4 + 2, none⟩ = some (.slice pv X.length cv) ∧ V.cell? ⟨gl, ol + i * 4 + 3, none⟩ = some (.int .i64 ly))
          (first
            | exact HCC.out _ (hid_drew' hR)
            | exact HCC.out _ hR
            | exact HCC.out _ hg4
            | exact HCC.out _ hg3)
          (first
            | (go_at_call 21; refine (HS21.out _ (hid_drew' hR)).mono ?_; rintro e w3 ⟨rfl, hg3⟩)
            | (go_at_call 25; refine (HS25.out _ hg3).mono ?_; rintro e w4 ⟨rfl, hg4⟩))
        all_goals go_wp2_with fail
        all_goals
          go_roundw
          case rel => exact ⟨i + 1, by omega, by go_num, mkHid (hfr.out.trans hg4.out (by simp))⟩
          case measure => simp [intOf]; omega
    · have hie : i = l.length + 8 := by omega
      subst hie
      clear HH HB HFu HC HOl
      go_wp2_with fail
      go_ret
      exact ⟨rfl, hfr.out⟩
end Go.Proofs.Ytblbjgifhgfifaa
