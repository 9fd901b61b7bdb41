import Derived.Test.YtdkbnnhcjaibdaaDoorRows
import Derived.Test.YtdkbnnhcjaibdaaDoorFBForws
import Derived.Test.YtdkbnnhcjaibdaaDoorFG40HTable
import Derived.WalkKit
import Derived.ProofKit
import Derived.OpenShut
import Derived.LaidMore
import Derived.Lib.SmallJoins
import Derived.Stop.Joined
import Derived.SizedLaws
import Derived.Deep.DeepHandedRow
namespace Go.Proofs.YtdkbnnhcjaibdaaDoor.becomeForwards
open Go.ChangeShapes Go.WideShapes Go.ChangeAt Go.RowKit
set_option linter.unusedVariables false
theorem own : ownKnob Tryd.prog.godebug = none := by kernel_rfl
theorem gTab : Tryd.prog.globalNamed "kiln/word.kindOfBits" = some 0 := by kernel_rfl
theorem tTab : (Tryd.prog.globals[0]?).map (·.type) = some 195 := by kernel_rfl
abbrev laidL : List (String × DataW Unit) := [("kiln/word.kindOfBits", Rows.laid_kiln_word_kindOfBits)]
theorem door_met (os : Os) (args : Array Value) : laidMetH Tryd.prog laidL ((World.doorLaid Tryd.prog 19 os).forCall (fun _ _ => 0) ⟨#[], args, []⟩).memory :=
  laidMetH_of_parts3 (fuel := 8) (laidMet_of_run' 8 (by kernel_rfl) (by kernel_rfl)) (by kernel_rfl) (by kernel_rfl)
theorem of_laid {W : World} (h : laidMetH Tryd.prog laidL W) : Tab W ∧ 0 < W.heap.size := by
  rw [MakeChecks.laidMetH_plain _ _ _ (by kernel_rfl)] at h
  obtain ⟨ps, ⟨g0, t0, cs0, f0, p0, q0, hg0, ht0, hv0, hd0, _, _⟩, _, _⟩ := h
  obtain rfl := Option.some.inj (gTab.symm.trans hg0)
  obtain rfl := Option.some.inj (tTab.symm.trans ht0)
  have c3 : Tryd.prog.cellsOf 3 = 1 := by kernel_rfl
  have hc : ∀ i, i < 4 → W.cell? ⟨0, i, none⟩ = some (.int .i64 (([3, 1, 2, 1] : List Int).getD i 0)) := fun i hi => by
    rw [World.var?_cell hg0 hv0 i, ← Array.getElem?_toList]
    exact int_table (vals := [3, 1, 2, 1]) Tryd.underlying195 Tryd.underlying3 c3 hd0 i hi
  refine ⟨⟨hc 0 (by decide), hc 1 (by decide), hc 2 (by decide), hc 3 (by decide)⟩, ?_⟩
  exact World.block_lt_of_cell? W ⟨0, 0, none⟩ (hc 0 (by decide))
theorem laidOut : laidOutB Tryd.prog = true := by kernel_rfl
theorem toBelow {w w' : World} (h : Fr [] w w') : Below w.heap.size w w' := h.below (Nat.le_refl _) (by simp)
theorem n3 : Tryd.prog.cellsOf 3 = 1 := by kernel_rfl
theorem b3 : Tryd.prog.bytesOf 3 = 8 := by kernel_rfl
theorem bulk_lits {H : Type} (k : IntKind) : ∀ l : List Int, Rows.uptoBulkAll (lits (H := H) k l) = l.length
  | [] => by simp [lits, Rows.uptoBulkAll]
  | a :: l => by
    have := bulk_lits (H := H) k l
    have e : lits (H := H) k (a :: l) = .lit (.int k a) :: lits k l := rfl
    rw [e, Rows.uptoBulkAll, this]
    simp [Rows.uptoBulk]
    omega
/-- a list of numbers, opened -/
theorem open_nums {H : Type} {enc : TypeId × Value → H} {w : World} {spare : Nat → Bool} {held : Bool} {fuel : Nat} {u : Value} {y : DataW H × List MemPlace} (h : DataW.trod enc Tryd.prog w 0 spare held fuel 36 [u] = some y) (hz : ∀ n ∈ y.1.weights Tryd.prog 36, n ≤ reachBytes) :
    ∃ zs : List Int, Rd w u zs ∧ zs.length ≤ Rows.uptoBulk y.1 := by
  rcases open_ints Tryd.underlying36 Tryd.underlying3 n3 h with ⟨hcs, _⟩ | ⟨a, len, cap, zs, hcs, _, hl, hm, hzl, hx, hc, _⟩
  · simp at hcs
    exact ⟨[], ⟨⟨none, 0, hcs, fun h => by simp at h⟩, fun c hc => (by rw [hcs] at hc; injection hc with _ _ e; exact e.symm), by simp⟩, Nat.zero_le _⟩
  · simp at hcs
    have hlz : len ≤ zs.length := by rw [hzl]; split <;> omega
    have htl : (zs.take len).length = len := by simp; omega
    refine ⟨zs.take len, ⟨⟨some a, cap, by rw [htl]; exact hcs, fun hpos => ?_⟩, fun c hc => (by rw [hcs] at hc; injection hc with e; cases e), ?_⟩, by rw [hx, Rows.uptoBulk, bulk_lits]; omega⟩
    · rw [htl] at hpos
      obtain ⟨b, off, spot⟩ := a
      have hspot : spot = none := by simpa [Addr.add] using World.cell?_spot (hc 0 (by omega))
      subst hspot
      have hcell : ∀ j, j < len → w.cell? ⟨b, off + j, none⟩ = some (.int .i64 (zs.getD j 0)) := fun j hj => by
        have := hc j (by omega)
        rwa [Addr.add_mid] at this
      refine ⟨b, off, rfl, World.block_lt_of_cell? w ⟨b, off + 0, none⟩ (hcell 0 hpos), fun j hj => ?_⟩
      rw [htl] at hj
      rw [hcell j hj, List.getD_eq_getElem?_getD, List.getD_eq_getElem?_getD, List.getElem?_take, if_pos hj]
    · rw [htl]
      have hw := hz (((lits (H := H) .i64 (zs.take len)).length + (lits (H := H) .i64 (zs.drop len)).length) * Tryd.prog.bytesOf 3) (by rw [hx]; simp [DataW.weights, Tryd.underlying36])
      have e1 : (lits (H := H) .i64 (zs.take len)).length = len := by simp [lits]; omega
      rw [e1, b3] at hw
      unfold reachBytes at hw
      omega
theorem door_laid (os : Os) : laidMet Tryd.prog Rows.becomeForwardsUptoRow.laid ((World.doorLaid Tryd.prog 19 os).forCall (fun _ _ => 0) ⟨#[], #[.agg #[.int .i64 0, .int .i64 0, .int .i64 0, .slice none 0 0], .slice none 0 0, .slice none 0 0], []⟩).memory :=
  laidMet_of_run' 8 (by kernel_rfl) (by kernel_rfl)
theorem reads (os : Os) {H : Type} (enc : TypeId × Value → H) : ∃ places, DataW.whole enc Tryd.prog ((World.doorLaid Tryd.prog 19 os).forCall (fun _ _ => 0) ⟨#[], #[.agg #[.int .i64 0, .int .i64 0, .int .i64 0, .slice none 0 0], .slice none 0 0, .slice none 0 0], []⟩).memory Tryd.f6.params.toList Rows.becomeForwardsSpec.vars false #[Value.agg #[.int .i64 0, .int .i64 0, .int .i64 0, .slice none 0 0], .slice none 0 0, .slice none 0 0].toList 8 = some ([.agg [.lit (.int .i64 0), .lit (.int .i64 0), .lit (.int .i64 0), .nil], .nil, .nil], [], places) :=
  ⟨[], by kernel_rfl⟩
set_option maxRecDepth 100000 in
theorem liftedUpto (os : Os) (started : os.Started) (H : Type) (enc : TypeId × Value → H) (F : Stop.Interp) :
    ReturnsInHanded {} Tryd.checked os 6 .any ((Rows.OpenSpec.upto Rows.becomeForwardsSpec).preRow enc Tryd.prog Tryd.f6 Rows.becomeForwardsUptoRow.domain false Rows.becomeForwardsUptoRow.laid) (((Rows.OpenSpec.upto Rows.becomeForwardsSpec).at F).post enc Tryd.prog Tryd.f6 false true false false) := by
  obtain ⟨places, hx⟩ := reads os enc
  refine returnsInHanded_of_row (C := Tryd.checked) (s := Rows.OpenSpec.upto Rows.becomeForwardsSpec) own started (by kernel_rfl) Tryd.func6
    (witness_row_at (enc := enc) (C := Tryd.checked) false (World.doorLaid Tryd.prog 19 os) #[.agg #[.int .i64 0, .int .i64 0, .int .i64 0, .slice none 0 0], .slice none 0 0, .slice none 0 0] rfl (by kernel_rfl) (by kernel_rfl) (by kernel_rfl)
      (OpenSpec.preRow_of_cond 8 hx (by kernel_rfl) (fun k hk => by cases hk; kernel_rfl) (by kernel_rfl) (door_laid os))) ?_
  intro W base args ds gs before hval0 hW0 _ hcond hZ hL _ _
  have hk : Rows.uptoSmall H (ds ++ gs) = true := hcond _ rfl
  have hW : DataW.Whole enc Tryd.prog Tryd.f6.params.toList Rows.becomeForwardsSpec.vars false W args.toList ds gs before := hW0
  show Calls Tryd.prog 6 args W fun e W' => ∃ v, e = .returned v ∧ Rows.becomeForwardsSpec.post enc Tryd.prog Tryd.f6 false true false false W args v W'
  have hval : ∀ (j : Nat) t v, Tryd.f6.params[j]? = some t → args[j]? = some v → Value.okWide Tryd.prog W .any base t v := hval0
  have hW' := hW
  obtain ⟨p, q, hA0, hV, rfl, hfz, hnd⟩ := hW
  have hA : DataW.TrodAll enc Tryd.prog W 0 (fun _ => true) true Tryd.f6.params.toList args.toList ds p := hA0
  have hZ2 : (DataW.weightsEach Tryd.prog (Tryd.f6.params.toList ++ Rows.becomeForwardsSpec.plain.varTypes Tryd.prog) (ds ++ gs)).all (· ≤ reachBytes) = true := hZ
  rw [Tryd.params6] at hA hval hZ2
  obtain ⟨v0, vs0, d0, ds0, p0, q0, hargs, rfl, rfl, h0, r0⟩ := trodAll_cons hA
  obtain ⟨v1, vs1, d1, ds1, p1, q1, rfl, rfl, rfl, h1, r1⟩ := trodAll_cons r0
  obtain ⟨v2, vs2, d2, ds2, p2, q2, rfl, rfl, rfl, h2, r2⟩ := trodAll_cons r1
  obtain ⟨rfl, rfl, rfl⟩ := trodAll_nil r2
  obtain rfl : args = #[v0, v1, v2] := by cases args; simp_all
  obtain ⟨rfl, rfl⟩ := trodVars_none hV
  have k0 := h0
  have lt0 : ∀ x ∈ p0, x.block < W.heap.size := by obtain ⟨m, hm⟩ := k0; exact DataW.trod_lt m _ _ _ hm
  have k1 := h1
  have lt1 : ∀ x ∈ p1, x.block < W.heap.size := by obtain ⟨m, hm⟩ := k1; exact DataW.trod_lt m _ _ _ hm
  have k2 := h2
  have lt2 : ∀ x ∈ p2, x.block < W.heap.size := by obtain ⟨m, hm⟩ := k2; exact DataW.trod_lt m _ _ _ hm
  obtain ⟨c0, c1, c2, c3, y0, y1, y2, y3, n, rfl, rfl, rfl, g0, g1, g2, g3⟩ := Go.Joins.open_agg4 Tryd.underlying45 (by kernel_rfl) (by kernel_rfl) (hval 0 45 v0 rfl rfl) h0
  obtain ⟨x, e0, -, -⟩ := DataW.trod_int Tryd.underlying3 g0
  obtain ⟨y, e1, -, -⟩ := DataW.trod_int Tryd.underlying3 g1
  obtain ⟨z, e2, -, -⟩ := DataW.trod_int Tryd.underlying3 g2
  simp at e0 e1 e2
  subst e0 e1 e2
  obtain ⟨la, hla⟩ := open_objs g3 (fun m hm => by
    have h3 : m ∈ (DataW.agg [y0.1, y1.1, y2.1, y3.1]).weights Tryd.prog 45 := by
      simp only [DataW.weights, Tryd.underlying45]
      exact DataW.weights_mem_each (j := 3) (t := 43) (d := y3.1) rfl rfl m hm
    have := List.all_eq_true.1 hZ2 m (DataW.weights_mem_each (j := 0) (t := 45) (d := DataW.agg [y0.1, y1.1, y2.1, y3.1]) rfl rfl m h3)
    simpa using this)
  obtain ⟨l1, hr1, hb1⟩ : ∃ l1 : List Int, Rd W v1 l1 ∧ l1.length ≤ Rows.uptoBulk d1 := by
    obtain ⟨fuel, hf⟩ := h1
    obtain ⟨a1, len1, cap1, rfl⟩ := okWide_slice Tryd.underlying36 (hval 1 36 v1 rfl rfl)
    exact open_nums hf (fun m hm => by
      have := List.all_eq_true.1 hZ2 m (DataW.weights_mem_each (j := 1) (t := 36) (d := d1) rfl rfl m hm)
      simpa using this)
  obtain ⟨l2, hr2, hb2⟩ : ∃ l2 : List Int, Rd W v2 l2 ∧ l2.length ≤ Rows.uptoBulk d2 := by
    obtain ⟨fuel, hf⟩ := h2
    obtain ⟨a1, len1, cap1, rfl⟩ := okWide_slice Tryd.underlying36 (hval 2 36 v2 rfl rfl)
    exact open_nums hf (fun m hm => by
      have := List.all_eq_true.1 hZ2 m (DataW.weights_mem_each (j := 2) (t := 36) (d := d2) rfl rfl m hm)
      simpa using this)
  obtain ⟨t1, t2⟩ := of_laid hL
  have hbig : Rows.uptoBulkAll _ ≤ 1048576 := of_decide_eq_true hk
  simp only [List.append_nil, Rows.uptoBulkAll] at hbig
  have hsum : l1.length + l2.length ≤ 1048576 := by omega
  have hcalls : Calls Tryd.prog 6 #[.agg #[.int .i64 x, .int .i64 y, .int .i64 z, c3], v1, v2] W fun e w' => e = .returned (.bool true) ∧ Fr [] W w' := forwards_any x y z c3 v1 v2 la l1 l2 W hla hr1 hr2 t1 t2 hsum
  clear hA0 hval0 hW0
  refine hcalls.mono fun e W' ⟨he, hfr⟩ => ?_
  subst he
  have bel := toBelow hfr
  exact ⟨_, rfl, _, _, _, [], _, [], hW', trodAll_mk1 (shut_bool Tryd.underlying4 _), (trodAll_cons_mk (Below.trod laidOut (by kernel_rfl) (of_decide_eq_true (by kernel_rfl)) k0 bel lt0) (trodAll_cons_mk (Below.trod laidOut (by kernel_rfl) (of_decide_eq_true (by kernel_rfl)) k1 bel lt1) (trodAll_cons_mk (Below.trod laidOut (by kernel_rfl) (of_decide_eq_true (by kernel_rfl)) k2 bel lt2) trodAll_mk0))), rfl, bel.frame _, fun h => by cases h⟩
theorem proved : Rows.BecomeForwardsUptoSaid :=
  OpenClaim.holds_of_cond 6 Tryd.f6 rfl rfl rfl rfl rfl rfl rfl ⟨rfl, rfl, rfl, rfl, rfl⟩ rfl rfl rfl rfl rfl (by kernel_rfl) Tryd.func6 (by kernel_rfl)
    (of_decide_eq_true (by kernel_rfl)) (by unfold Func.isWrapper; first | (rw [if_pos (by decide +kernel)]; kernel_rfl) | (rw [if_neg (by decide +kernel)]; exact ⟨rfl, rfl⟩))
    (fun os started H enc _ F => by rw [OpenClaim.pre_eq_preRow]; exact liftedUpto os started H enc F)
end Go.Proofs.YtdkbnnhcjaibdaaDoor.becomeForwards
