import Derived.Test.YtalcnihagnnkaaaDoorKHStateW
import Derived.BigQuiet
namespace Go.Proofs.YtalcnihagnnkaaaDoor
open Go.RowKit
set_option linter.unusedVariables false
attribute [local go_sem ↓] Go.wp_at_zero Go.wp_at_succ
/-- a list of words, read cell by cell -/
theorem own_slot {w : World} {base : Nat} {v : Value} {ss : List Int} (h : w.ownsRow base 33 1 v ss.length (ss.map (Value.int .i64))) : ∃ p c, v = .slice p ss.length c ∧ (0 < ss.length → ∃ g, p = some ⟨g, 0, none⟩ ∧ ∀ i, i < ss.length → w.cell? ⟨g, i, none⟩ = some (.int .i64 (ss.getD i 0))) := by
  rcases h.2 with ⟨h2, h3⟩ | ⟨g, cap, cur, h2, h3⟩
  · exact ⟨none, 0, by rw [h2, h3], fun hp => by omega⟩
  · refine ⟨some ⟨g, 0, none⟩, cap, h2, fun hp => ⟨g, rfl, fun i hi => ?_⟩⟩
    rw [h2] at h
    rw [h.cellAt i (by omega), List.getElem?_map, List.getD_eq_getElem?_getD, List.getElem?_eq_getElem hi]
    rfl
set_option maxRecDepth 20000 in
set_option maxHeartbeats 600000 in
theorem sameWords_ok (ss : List Int) (va vb : Value) (ba bb : Nat) (w : World) (ha : w.ownsRow ba 33 1 va ss.length (ss.map (Value.int .i64))) (hb : w.ownsRow bb 33 1 vb ss.length (ss.map (Value.int .i64))) (hl : ss.length ≤ 1000000) :
    Calls Tryd.prog 60 #[va, vb] w fun e w' => e = .returned (.bool true) ∧ ∃ n, w' = w.drewN n := by
  obtain ⟨pa, ca, rfl, hpa⟩ := own_slot ha
  obtain ⟨pb, cb, rfl, hpb⟩ := own_slot hb
  clear ha hb
  have HA := mkHid hpa
  have HB := mkHid hpb
  clear hpa hpb
  go_enter Tryd.func60, Tryd.ntmps60
  go_wp2_with fail
  go_loopw [5] (fun q wr => ∃ k : Nat, k ≤ ss.length ∧ q = .int .i64 k ∧ Hid (∃ n, wr = w.drewN n)) (fun q _ => ss.length - (intOf q).toNat)
  case atStart => exact ⟨0, Nat.zero_le _, rfl, 0, rfl⟩
  case round =>
    obtain ⟨k, hkn, rfl, hq⟩ := hrel
    by_cases hlt : k < ss.length
    · obtain ⟨ga, rfl, hca⟩ := HA.out (by omega)
      obtain ⟨gb, rfl, hcb⟩ := HB.out (by omega)
      obtain ⟨n, hn⟩ := hq.out
      have x1 : wr.cell? ⟨ga, k, none⟩ = some (.int .i64 (ss.getD k 0)) := by rw [hn]; exact hca k hlt
      have x2 : wr.cell? ⟨gb, k, none⟩ = some (.int .i64 (ss.getD k 0)) := by rw [hn]; exact hcb k hlt
      have k1 : (0 : Int) ≤ (k : Int) := by omega
      have k2 : (k : Int) < (ss.length : Int) := by omega
      have HD : Hid (∀ m, ∃ n, wr.drewN m = w.drewN n) := fun m => ⟨n + m, by rw [hn]; simp [World.drewN, Nat.add_assoc]⟩
      generalize ss.getD k 0 = z at *
      clear hca hcb hq hn HA HB
      go_wp2_with fail
      go_quiet (fail)
      go_wp2_with fail
      go_roundw
      case rel => exact ⟨k + 1, by omega, by go_num, HD.out _⟩
      case measure => simp [intOf]; omega
    · have hke : k = ss.length := by omega
      subst hke
      go_wp2_with fail
      go_ret
      exact ⟨rfl, hq.out⟩
/-- the cells of an object -/
theorem osCells_at (l : List OS) : ∀ k, k < l.length → ∃ o, l[k]? = some o ∧ (osCells l)[k * 4]? = some (.int .i64 (o.oop : Int)) ∧ (osCells l)[k * 4 + 1]? = some (.int .i64 o.cls) ∧ (osCells l)[k * 4 + 2]? = some (.int .i64 (o.fmt : Int)) ∧ (osCells l)[k * 4 + 3]? = some o.v := by
  induction l with
  | nil => intro k hk; simp at hk
  | cons o l ih =>
    intro k hk
    have e : osCells (o :: l) = os4 o ++ osCells l := by simp [osCells]
    rw [e]
    cases k with
    | zero => exact ⟨o, rfl, rfl, rfl, rfl, rfl⟩
    | succ k =>
      obtain ⟨x, h0, h1, h2, h3, h4⟩ := ih k (by simpa using hk)
      refine ⟨x, by simpa using h0, ?_, ?_, ?_, ?_⟩
      · rw [List.getElem?_append_right (by simp [os4]; omega), show (k + 1) * 4 - (os4 o).length = k * 4 from by simp [os4]; omega]; exact h1
      · rw [List.getElem?_append_right (by simp [os4]; omega), show (k + 1) * 4 + 1 - (os4 o).length = k * 4 + 1 from by simp [os4]; omega]; exact h2
      · rw [List.getElem?_append_right (by simp [os4]; omega), show (k + 1) * 4 + 2 - (os4 o).length = k * 4 + 2 from by simp [os4]; omega]; exact h3
      · rw [List.getElem?_append_right (by simp [os4]; omega), show (k + 1) * 4 + 3 - (os4 o).length = k * 4 + 3 from by simp [os4]; omega]; exact h4
theorem SRep.at {w : World} {base : Nat} {ov : Value} {l : List OS} (h : SRep w base ov l) : ∃ p c, ov = .slice p l.length c ∧ (0 < l.length → ∃ g, p = some ⟨g, 0, none⟩ ∧ ∀ k, k < l.length → ∃ o, l[k]? = some o ∧ w.cell? ⟨g, k * 4, none⟩ = some (.int .i64 (o.oop : Int)) ∧ w.cell? ⟨g, k * 4 + 1, none⟩ = some (.int .i64 o.cls) ∧ w.cell? ⟨g, k * 4 + 2, none⟩ = some (.int .i64 (o.fmt : Int)) ∧ w.cell? ⟨g, k * 4 + 3, none⟩ = some o.v ∧ w.ownsRow base 33 1 o.v o.slots.length (o.slots.map (Value.int .i64))) := by
  have hr := h.row
  rcases hr.2 with ⟨h2, h3⟩ | ⟨g, cap, cur, h2, h3⟩
  · exact ⟨none, 0, by rw [h2, h3], fun hp => by omega⟩
  · refine ⟨some ⟨g, 0, none⟩, cap, h2, fun hp => ⟨g, rfl, fun k hk => ?_⟩⟩
    rw [h2] at hr
    obtain ⟨o, h0, h1, h4, h5, h6⟩ := osCells_at l k hk
    refine ⟨o, h0, ?_, ?_, ?_, ?_, h.slots o (List.mem_of_getElem? h0)⟩
    · rw [hr.cellAt _ (by omega)]; exact h1
    · rw [hr.cellAt _ (by omega)]; exact h4
    · rw [hr.cellAt _ (by omega)]; exact h5
    · rw [hr.cellAt _ (by omega)]; exact h6
end Go.Proofs.YtalcnihagnnkaaaDoor
namespace Go.Proofs.YtalcnihagnnkaaaDoor
open Go.RowKit
set_option linter.unusedVariables false
attribute [local go_sem ↓] Go.wp_at_zero Go.wp_at_succ
set_option maxRecDepth 20000 in
set_option maxHeartbeats 1000000 in
theorem sameState_ok (x y z : Nat) (oa ob : Value) (la lb : List OS) (ba bb : Nat) (w : World) (ha : SRep w ba oa la) (hb : SRep w bb ob lb) (hk : la.map osKey = lb.map osKey) (hl : la.length ≤ 1048576) (hsl : ∀ o ∈ la, o.slots.length ≤ 8192) :
    Calls Tryd.prog 22 #[.agg #[.int .i64 (x : Int), .int .i64 (y : Int), .int .i64 (z : Int), oa], .agg #[.int .i64 (x : Int), .int .i64 (y : Int), .int .i64 (z : Int), ob]] w fun e w' => e = .returned (.bool true) ∧ Fr [] w w' := by
  have hll : lb.length = la.length := by have := congrArg List.length hk; simpa using this.symm
  have HA := mkHid ha
  have HB := mkHid hb
  have HK := mkHid hk
  have HSL := mkHid hsl
  obtain ⟨pa, ca, rfl, -⟩ := ha.at
  obtain ⟨pb, cb, rfl, -⟩ := hb.at
  rw [hll] at HB ⊢
  clear ha hb hk hsl
  obtain ⟨W1, hW1⟩ : ∃ W1, W1 = (w.alloc (.cells #[.int .i64 (x : Int), .int .i64 (y : Int), .int .i64 (z : Int), .slice pa la.length ca] 38)).alloc (.cells #[.int .i64 (x : Int), .int .i64 (y : Int), .int .i64 (z : Int), .slice pb la.length cb] 38) := ⟨_, rfl⟩
  have F1 : Hid (Fr [] w W1) := by rw [hW1]; exact (Fr.alloc [] _ _).trans (Fr.alloc [] _ _) (by simp)
  have HC : Hid (W1.heap[w.heap.size]? = some (.cells #[.int .i64 (x : Int), .int .i64 (y : Int), .int .i64 (z : Int), .slice pa la.length ca] 38 (0, 0)) ∧ W1.heap[w.heap.size + 1]? = some (.cells #[.int .i64 (x : Int), .int .i64 (y : Int), .int .i64 (z : Int), .slice pb la.length cb] 38 (0, 0))) := by
    rw [hW1]
    refine ⟨?_, ?_⟩
    · rw [Below.heap_alloc _ _ _ (by simp)]; exact heap_alloc_new _ _
    · have := heap_alloc_new (w.alloc (.cells #[.int .i64 (x : Int), .int .i64 (y : Int), .int .i64 (z : Int), .slice pa la.length ca] 38)) (.cells #[.int .i64 (x : Int), .int .i64 (y : Int), .int .i64 (z : Int), .slice pb la.length cb] 38)
      simpa using this
  go_enter Tryd.func22, Tryd.ntmps22
  go_wp2_with fail
  rw [← hW1]
  clear hW1
  go_loopw [5] (fun q wr => ∃ k : Nat, k ≤ la.length ∧ q = .int .i64 k ∧ Hid (Fr [] W1 wr)) (fun q _ => la.length - (intOf q).toNat)
  case atStart => exact ⟨0, Nat.zero_le _, rfl, Fr.refl _ _⟩
  case round =>
    obtain ⟨k, hkn, rfl, hf⟩ := hrel
    have b0 := (hf.out.block _ (lt_of_heap HC.out.1) (by simp)).trans HC.out.1
    have b1 := (hf.out.block _ (lt_of_heap HC.out.2) (by simp)).trans HC.out.2
    have e0 : wr.cell? ⟨w.heap.size, 3, none⟩ = some (.slice pa la.length ca) := by rw [cell_in b0]; rfl
    have e1 : wr.cell? ⟨w.heap.size + 1, 3, none⟩ = some (.slice pb la.length cb) := by rw [cell_in b1]; rfl
    have hB1 := lt_of_heap b1
    by_cases hlt : k < la.length
    · have Fk := F1.out.trans hf.out (by simp)
      have hAk := HA.out.idle Fk
      have hBk := HB.out.idle Fk
      obtain ⟨pa', ca', e2, hpa⟩ := hAk.at
      injection e2 with e2 e2b e2c
      subst e2
      subst e2c
      clear e2b
      obtain ⟨pb', cb', e3, hpb⟩ := hBk.at
      injection e3 with e3 e3b e3c
      subst e3
      subst e3c
      clear e3b
      obtain ⟨ga, rfl, hca⟩ := hpa (by omega)
      obtain ⟨gb, rfl, hcb⟩ := hpb (by omega)
      obtain ⟨o, h0, x0, x1, x2, x3, x4⟩ := hca k hlt
      obtain ⟨o', h0', y0, y1, y2, y3, y4⟩ := hcb k (by omega)
      have hkey : osKey o = osKey o' := by
        have := congrArg (fun l => l[k]?) HK.out
        simp only [List.getElem?_map, h0, h0'] at this
        simpa using this
      have hsk := HSL.out o (List.mem_of_getElem? h0)
      have hgl : ga < wr.heap.size := World.block_lt_of_cell? wr ⟨ga, k * 4, none⟩ x0
      have hgl2 : gb < wr.heap.size := World.block_lt_of_cell? wr ⟨gb, k * 4, none⟩ y0
      obtain ⟨oo, oc, of_, os, ov⟩ := o
      obtain ⟨oo', oc', of', os', ov'⟩ := o'
      simp only [osKey, Prod.mk.injEq] at hkey
      obtain ⟨rfl, rfl, rfl, rfl⟩ := hkey
      dsimp only at *
      have HSW : Hid (∀ V, Hid (Fr [] wr V) → Calls Tryd.prog 60 #[ov, ov'] V fun e w' => e = .returned (.bool true) ∧ Hid (Fr [] wr w')) := by
        intro V hV
        refine Calls.mono (sameWords_ok os ov ov' ba bb V (own_congr x4 fun g hg => hV.out.block g (x4.lt g hg).2 (by simp)) (own_congr y4 fun g hg => hV.out.block g (y4.lt g hg).2 (by simp)) (by omega)) ?_
        rintro e w' ⟨rfl, n, rfl⟩
        exact ⟨rfl, hV.out.trans (Fr.drewN [] _ _) (by simp)⟩
      obtain ⟨p1, c1, rfl⟩ : ∃ p c, ov = .slice p os.length c := by
        obtain ⟨p, c, h, _⟩ := own_slot x4
        exact ⟨p, c, h⟩
      obtain ⟨p2, c2, rfl⟩ : ∃ p c, ov' = .slice p os.length c := by
        obtain ⟨p, c, h, _⟩ := own_slot y4
        exact ⟨p, c, h⟩
      have k1 : (0 : Int) ≤ (k : Int) := by omega
      have k2 : (k : Int) < (la.length : Int) := by omega
      have HS2 := mkHid (HSW.out ((wr.alloc (.cells #[.int .i64 (oo : Int), .int .i64 oc, .int .i64 (of_ : Int), .slice p1 os.length c1] 106)).alloc (.cells #[.int .i64 (oo : Int), .int .i64 oc, .int .i64 (of_ : Int), .slice p2 os.length c2] 106)) ((Fr.alloc [] _ _).trans (Fr.alloc [] _ _) (by simp)))
      generalize os.length = sn at *
      clear hAk hBk hca hcb hpa hpb x4 y4 b0 b1 HSW HK HA HB HSL h0 h0' Fk hll hsk
      go_wp2_with (go_at_call 60; refine Calls.mono HS2.out ?_; rintro e w5 ⟨rfl, hf5⟩)
      go_roundw
      case rel => exact ⟨k + 1, by omega, by go_num, hf.out.trans hf5.out (by simp)⟩
      case measure => simp [intOf]; omega
    · have hke : k = la.length := by omega
      subst hke
      go_wp2_with fail
      go_ret
      exact ⟨rfl, F1.out.trans hf.out (by simp)⟩
end Go.Proofs.YtalcnihagnnkaaaDoor
