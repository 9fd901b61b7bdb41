import Derived.Test.YtpaekbghnejhoaaDoorKG11HRefB
import Derived.BigQuiet
import Derived.Deep.RegionHeld3
import Derived.Test.YtpaekbghnejhoaaDoorKG10HTakesN
import Derived.Test.YtpaekbghnejhoaaDoorKG05HModelL
namespace Go.Proofs.YtpaekbghnejhoaaDoor
open Go.RowKit
set_option linter.unusedVariables false
attribute [local go_sem ↓] Go.wp_at_zero Go.wp_at_succ
set_option maxHeartbeats 1000000 in
theorem rRoom_nil (w : World) : Calls Tryd.prog 34 #[.pointer none] w fun e w' => e = .returned (.tuple #[.int .i64 0, .int .i64 0]) ∧ w' = w := by
  go_enter Tryd.func34, Tryd.ntmps34
  go_wp2_with fail
  go_ret2
  exact ⟨rfl, rfl⟩
set_option maxHeartbeats 1000000 in
theorem made_nil (w : World) : Calls Tryd.prog 40 #[.pointer none] w fun e w' => e = .returned (.bool false) ∧ w' = w := by
  go_enter Tryd.func40, Tryd.ntmps40
  go_wp2_with fail
  go_ret
  exact ⟨rfl, rfl⟩
set_option maxHeartbeats 1000000 in
theorem Room_nil (w : World) : Calls Tryd.prog 18 #[.pointer none] w fun e w' => e = .returned (.tuple #[.int .i64 0, .int .i64 0]) ∧ w' = w := by
  have HM := mkHid (made_nil w)
  go_enter Tryd.func18, Tryd.ntmps18
  go_wp2_with (go_at_call 40; refine Calls.mono HM.out ?_; rintro e w' ⟨rfl, hw'⟩; rw [hw']; clear hw' w')
  go_ret2
  exact ⟨rfl, rfl⟩
set_option maxHeartbeats 1000000 in
theorem rState_nil (w : World) : Calls Tryd.prog 30 #[.pointer none] w fun e w' => e = .returned (.agg #[.int .i64 0, .int .i64 0, .int .i64 0, .slice none 0 0]) ∧ Fr [] w w' := by
  go_enter Tryd.func30, Tryd.ntmps30
  go_wp2_with fail
  have hB0 : (w.alloc (.cells #[.int .i64 0, .int .i64 0, .int .i64 0, .slice none 0 0] 24)).heap[w.heap.size]? = some (.cells #[.int .i64 0, .int .i64 0, .int .i64 0, .slice none 0 0] 24 (0, 0)) := heap_alloc_new _ _
  have F0 : Fr [] w (w.alloc (.cells #[.int .i64 0, .int .i64 0, .int .i64 0, .slice none 0 0] 24)) := Fr.alloc [] _ _
  generalize w.alloc (.cells #[.int .i64 0, .int .i64 0, .int .i64 0, .slice none 0 0] 24) = V at *
  have x0 : V.cell? ⟨w.heap.size, 0, none⟩ = some (.int .i64 0) := by rw [cell_in hB0]; rfl
  have x1 : V.cell? ⟨w.heap.size, 1, none⟩ = some (.int .i64 0) := by rw [cell_in hB0]; rfl
  have x2 : V.cell? ⟨w.heap.size, 2, none⟩ = some (.int .i64 0) := by rw [cell_in hB0]; rfl
  have x3 : V.cell? ⟨w.heap.size, 3, none⟩ = some (.slice none 0 0) := by rw [cell_in hB0]; rfl
  refine bodyPost_ret (v := .agg #[.int .i64 0, .int .i64 0, .int .i64 0, .slice none 0 0]) (by simp [results, Tryd.results30, go_sem, x0, x1, x2, x3]) rfl ?_
  exact ⟨rfl, F0⟩
set_option maxHeartbeats 1000000 in
theorem State_nil (w : World) : Calls Tryd.prog 12 #[.pointer none] w fun e w' => e = .returned (.agg #[.int .i64 0, .int .i64 0, .int .i64 0, .slice none 0 0]) ∧ Fr [] w w' := by
  have HM := mkHid fun V => made_nil V
  go_enter Tryd.func12, Tryd.ntmps12
  go_wp2_with (go_at_call 40; refine Calls.mono (HM.out _) ?_; rintro e w' ⟨rfl, hw'⟩; rw [hw']; clear hw' w')
  have hB0 : (w.alloc (.cells #[.int .i64 0, .int .i64 0, .int .i64 0, .slice none 0 0] 24)).heap[w.heap.size]? = some (.cells #[.int .i64 0, .int .i64 0, .int .i64 0, .slice none 0 0] 24 (0, 0)) := heap_alloc_new _ _
  have F0 : Fr [] w (w.alloc (.cells #[.int .i64 0, .int .i64 0, .int .i64 0, .slice none 0 0] 24)) := Fr.alloc [] _ _
  generalize w.alloc (.cells #[.int .i64 0, .int .i64 0, .int .i64 0, .slice none 0 0] 24) = V at *
  have x0 : V.cell? ⟨w.heap.size, 0, none⟩ = some (.int .i64 0) := by rw [cell_in hB0]; rfl
  have x1 : V.cell? ⟨w.heap.size, 1, none⟩ = some (.int .i64 0) := by rw [cell_in hB0]; rfl
  have x2 : V.cell? ⟨w.heap.size, 2, none⟩ = some (.int .i64 0) := by rw [cell_in hB0]; rfl
  have x3 : V.cell? ⟨w.heap.size, 3, none⟩ = some (.slice none 0 0) := by rw [cell_in hB0]; rfl
  refine bodyPost_ret (v := .agg #[.int .i64 0, .int .i64 0, .int .i64 0, .slice none 0 0]) (by simp [results, Tryd.results12, go_sem, x0, x1, x2, x3]) rfl ?_
  exact ⟨rfl, F0⟩
/-- numbers that no state has -/
def argBad (x y z : Int) : Prop := x < 0 ∨ 1048576 < x ∨ y < 0 ∨ 65536 < y ∨ z < 0 ∨ 1073741824 < z
set_option maxHeartbeats 2000000 in
theorem rLoad_bad (x y z : Int) (ov : Value) (w : World) (hb : argBad x y z) : Calls Tryd.prog 62 #[.agg #[.int .i64 x, .int .i64 y, .int .i64 z, ov]] w fun e w' => e = .returned (.tuple #[.pointer none, .int .i64 1]) ∧ Fr [] w w' := by
  by_cases a0 : x < 0
  · go_enter Tryd.func62, Tryd.ntmps62
    go_wp2_with fail
    go_ret2
    exact ⟨rfl, Fr.alloc [] _ _⟩
  have a0 : 0 ≤ x := by omega
  by_cases a1 : 1048576 < x
  · go_enter Tryd.func62, Tryd.ntmps62
    go_wp2_with fail
    go_ret2
    exact ⟨rfl, Fr.alloc [] _ _⟩
  have a1 : x ≤ 1048576 := by omega
  by_cases a2 : y < 0
  · go_enter Tryd.func62, Tryd.ntmps62
    go_wp2_with fail
    go_ret2
    exact ⟨rfl, Fr.alloc [] _ _⟩
  have a2 : 0 ≤ y := by omega
  by_cases a3 : 65536 < y
  · go_enter Tryd.func62, Tryd.ntmps62
    go_wp2_with fail
    go_ret2
    exact ⟨rfl, Fr.alloc [] _ _⟩
  have a3 : y ≤ 65536 := by omega
  by_cases a4 : z < 0
  · go_enter Tryd.func62, Tryd.ntmps62
    go_wp2_with fail
    go_ret2
    exact ⟨rfl, Fr.alloc [] _ _⟩
  have a4 : 0 ≤ z := by omega
  have a5 : 1073741824 < z := by unfold argBad at hb; omega
  go_enter Tryd.func62, Tryd.ntmps62
  go_wp2_with fail
  go_ret2
  exact ⟨rfl, Fr.alloc [] _ _⟩
set_option maxHeartbeats 1000000 in
theorem New_bad (x y : Int) (w : World) (hb : x < 0 ∨ 1048576 < x ∨ y < 0 ∨ 65536 < y) : Calls Tryd.prog 35 #[.int .i64 x, .int .i64 y] w fun e w' => e = .returned (.tuple #[.pointer none, .int .i64 1]) ∧ w' = w := by
  by_cases a0 : x < 0
  · go_enter Tryd.func35, Tryd.ntmps35
    go_wp2_with fail
    go_ret2
    exact ⟨rfl, rfl⟩
  have a0 : 0 ≤ x := by omega
  by_cases a1 : 1048576 < x
  · go_enter Tryd.func35, Tryd.ntmps35
    go_wp2_with fail
    go_ret2
    exact ⟨rfl, rfl⟩
  have a1 : x ≤ 1048576 := by omega
  by_cases a2 : y < 0
  · go_enter Tryd.func35, Tryd.ntmps35
    go_wp2_with fail
    go_ret2
    exact ⟨rfl, rfl⟩
  have a2 : 0 ≤ y := by omega
  have a3 : 65536 < y := by omega
  go_enter Tryd.func35, Tryd.ntmps35
  go_wp2_with fail
  go_ret2
  exact ⟨rfl, rfl⟩
set_option maxHeartbeats 2000000 in
theorem Load_bad (x y z : Int) (ov : Value) (w : World) (hb : argBad x y z) : Calls Tryd.prog 7 #[.agg #[.int .i64 x, .int .i64 y, .int .i64 z, ov]] w fun e w' => e = .returned (.tuple #[.pointer none, .int .i64 1]) ∧ Fr [] w w' := by
  obtain ⟨W1, hW1⟩ : ∃ W1, W1 = w.alloc (.cells #[.int .i64 x, .int .i64 y, .int .i64 z, ov] 24) := ⟨_, rfl⟩
  have F1 : Hid (Fr [] w W1) := by rw [hW1]; exact Fr.alloc [] _ _
  have hb1 : W1.heap[w.heap.size]? = some (.cells #[.int .i64 x, .int .i64 y, .int .i64 z, ov] 24 (0, 0)) := by rw [hW1]; exact heap_alloc_new _ _
  by_cases hn : x < 0 ∨ 1048576 < x ∨ y < 0 ∨ 65536 < y
  · have HN := mkHid (New_bad x y W1 hn)
    clear hn hb hb1
    go_enter Tryd.func7, Tryd.ntmps7
    go_wp2_with fail
    rw [← hW1]
    clear hW1
    refine Calls.mono HN.out ?_
    rintro e w2 ⟨rfl, rfl⟩
    go_wp2_with fail
    go_ret2
    exact ⟨rfl, F1.out⟩
  · obtain ⟨xn, rfl⟩ : ∃ n : Nat, x = (n : Int) := ⟨x.toNat, by omega⟩
    obtain ⟨yn, rfl⟩ : ∃ n : Nat, y = (n : Int) := ⟨y.toNat, by omega⟩
    have hN := New_in xn yn W1 (by omega) (by omega)
    have HN := mkHid hN
    have HB1 := mkHid hb1
    have hmk := fun V => isMark_any z V
    rw [show isM z = false from by unfold isM; unfold argBad at hb; simp; omega] at hmk
    have HMk := mkHid hmk
    clear hn hb hN hmk hb1
    go_enter Tryd.func7, Tryd.ntmps7
    go_wp2_with fail
    rw [← hW1]
    clear hW1
    refine Calls.mono HN.out ?_
    rintro e w2 ⟨rfl, hr2, hf2, hs2⟩
    have hb2 := (hf2.block _ (lt_of_heap HB1.out) (by simp)).trans HB1.out
    have e2 : w2.cell? ⟨w.heap.size, 2, none⟩ = some (.int .i64 z) := by rw [cell_in hb2]; rfl
    have F2 : Hid (Fr [] w w2) := F1.out.trans hf2 (by simp)
    clear hr2 hf2 hs2 HN HB1 hb2
    go_wp2_with (go_at_call 36; refine Calls.mono (HMk.out _) ?_; rintro e w' ⟨rfl, hw'⟩; rw [hw']; clear hw' w')
    go_ret2
    exact ⟨rfl, F2.out⟩
end Go.Proofs.YtpaekbghnejhoaaDoor

namespace Go.Proofs.YtpaekbghnejhoaaDoor
open Go.RowKit
set_option linter.unusedVariables false
theorem load_row (x y z : Int) (ov : Value) (la : List OI) (w : World) (ha : SAt w ov la) (hT : Tab w) (hT0 : 0 < w.heap.size) :
    Calls Tryd.prog 7 #[.agg #[.int .i64 x, .int .i64 y, .int .i64 z, ov]] w fun e w' =>
      (∃ n : Int, n ≠ 0 ∧ 0 ≤ n ∧ n ≤ 27 ∧ e = .returned (.tuple #[.pointer none, .int .i64 n]) ∧ Fr [] w w') ∨
      (∃ (xn yn zn : Nat) (l : Lay) (H : HS) (M : MS), x = (xn : Int) ∧ y = (yn : Int) ∧ z = (zn : Int) ∧ xn ≤ 1048576 ∧ yn ≤ 65536 ∧ e = .returned (.tuple #[.pointer (some ⟨w.heap.size + 1, 0, none⟩), .int .i64 0]) ∧ Rep w' (w.heap.size + 1) l H ∧ KOf xn yn zn (la.map oiKey) H M ∧ Fr [] w w' ∧ ∀ g ∈ foot (w.heap.size + 1) l, w.heap.size ≤ g) := by
  by_cases hb : argBad x y z
  · refine Calls.mono (Load_bad x y z ov w hb) ?_
    rintro e w' ⟨rfl, hf⟩
    exact .inl ⟨1, by omega, by omega, by omega, rfl, hf⟩
  · have hb' : 0 ≤ x ∧ x ≤ 1048576 ∧ 0 ≤ y ∧ y ≤ 65536 ∧ 0 ≤ z ∧ z ≤ 1073741824 := by unfold argBad at hb; omega
    obtain ⟨xn, rfl⟩ : ∃ n : Nat, x = (n : Int) := ⟨x.toNat, by omega⟩
    obtain ⟨yn, rfl⟩ : ∃ n : Nat, y = (n : Int) := ⟨y.toNat, by omega⟩
    obtain ⟨zn, rfl⟩ : ∃ n : Nat, z = (n : Int) := ⟨z.toNat, by omega⟩
    refine Calls.mono (Load_any xn yn zn ov la w ha hT hT0 (by omega) (by omega) (by omega)) ?_
    rintro e w' (⟨l, H, M, rfl, hw⟩ | ⟨k, o, H, M, rfl, hf, ho, hlds, ht⟩)
    · have hlds := hw.lds
      rw [List.take_length] at hlds
      exact .inr ⟨xn, yn, zn, l, H, M, rfl, rfl, rfl, by omega, by omega, rfl, hw.rep, hlds.kOf (by omega) (by omega) (by omega), hw.fr, hw.new⟩
    · exact .inl ⟨27, by omega, by omega, by omega, rfl, hf⟩
end Go.Proofs.YtpaekbghnejhoaaDoor
namespace Go.Proofs.YtpaekbghnejhoaaDoor
open Go.RowKit
set_option linter.unusedVariables false
attribute [local go_sem ↓] Go.wp_at_zero Go.wp_at_succ
set_option maxRecDepth 20000 in
set_option maxHeartbeats 600000 in
theorem sameWords_ok (ss : List Int) (va vb : Value) (w : World) (ha : Rd w va ss) (hb : Rd w vb ss) :
    Calls Tryd.prog 61 #[va, vb] w fun e w' => e = .returned (.bool true) ∧ ∃ n, w' = w.drewN n := by
  obtain ⟨pa, ca, rfl, hpa⟩ := ha.at_
  obtain ⟨pb, cb, rfl, hpb⟩ := hb.at_
  have hl := ha.short
  clear ha hb
  have HA := mkHid hpa
  have HB := mkHid hpb
  clear hpa hpb
  go_enter Tryd.func61, Tryd.ntmps61
  go_wp2_with fail
  go_loopw [5] (fun q wr => ∃ k : Nat, k ≤ ss.length ∧ q = .int .i64 k ∧ Hid (∃ n, wr = w.drewN n)) (fun q _ => ss.length - (intOf q).toNat)
  case atStart => exact ⟨0, Nat.zero_le _, rfl, 0, rfl⟩
  case round =>
    obtain ⟨k, hkn, rfl, hq⟩ := hrel
    by_cases hlt : k < ss.length
    · obtain ⟨ga, oa, rfl, -, hca⟩ := HA.out (by omega)
      obtain ⟨gb, ob, rfl, -, hcb⟩ := HB.out (by omega)
      obtain ⟨n, hn⟩ := hq.out
      have x1 : wr.cell? ⟨ga, oa + k, none⟩ = some (.int .i64 (ss.getD k 0)) := by rw [hn]; exact hca k hlt
      have x2 : wr.cell? ⟨gb, ob + k, none⟩ = some (.int .i64 (ss.getD k 0)) := by rw [hn]; exact hcb k hlt
      have k1 : (0 : Int) ≤ (k : Int) := by omega
      have k2 : (k : Int) < (ss.length : Int) := by omega
      have HD : Hid (∀ m, ∃ n, wr.drewN m = w.drewN n) := fun m => ⟨n + m, by rw [hn]; simp [World.drewN, Nat.add_assoc]⟩
      generalize ss.getD k 0 = z at *
      clear hca hcb hq hn HA HB
      go_wp2_with fail
      go_quiet (fail)
      go_wp2_with fail
      go_roundw
      case rel => exact ⟨k + 1, by omega, by go_num, HD.out _⟩
      case measure => simp [intOf]; omega
    · have hke : k = ss.length := by omega
      subst hke
      go_wp2_with fail
      go_ret
      exact ⟨rfl, hq.out⟩
end Go.Proofs.YtpaekbghnejhoaaDoor

namespace Go.Proofs.YtpaekbghnejhoaaDoor
open Go.RowKit
set_option linter.unusedVariables false
attribute [local go_sem ↓] Go.wp_at_zero Go.wp_at_succ
set_option maxRecDepth 20000 in
set_option maxHeartbeats 1000000 in
theorem sameState_at (x y z : Int) (oa ob : Value) (la lb : List OI) (w : World) (ha : SAt w oa la) (hb : SAt w ob lb) (hk : la.map oiKey = lb.map oiKey) :
    Calls Tryd.prog 25 #[.agg #[.int .i64 x, .int .i64 y, .int .i64 z, oa], .agg #[.int .i64 x, .int .i64 y, .int .i64 z, ob]] w fun e w' => e = .returned (.bool true) ∧ Fr [] w w' := by
  have hll : lb.length = la.length := by have := congrArg List.length hk; simpa using this.symm
  have HA := mkHid ha
  have HB := mkHid hb
  have HK := mkHid hk
  have hl := ha.short
  obtain ⟨pa, ca, rfl, -⟩ := ha.at_
  obtain ⟨pb, cb, rfl, -⟩ := hb.at_
  rw [hll] at HB ⊢
  clear ha hb hk
  obtain ⟨W1, hW1⟩ : ∃ W1, W1 = (w.alloc (.cells #[.int .i64 x, .int .i64 y, .int .i64 z, .slice pa la.length ca] 24)).alloc (.cells #[.int .i64 x, .int .i64 y, .int .i64 z, .slice pb la.length cb] 24) := ⟨_, rfl⟩
  have F1 : Hid (Fr [] w W1) := by rw [hW1]; exact (Fr.alloc [] _ _).trans (Fr.alloc [] _ _) (by simp)
  have HC : Hid (W1.heap[w.heap.size]? = some (.cells #[.int .i64 x, .int .i64 y, .int .i64 z, .slice pa la.length ca] 24 (0, 0)) ∧ W1.heap[w.heap.size + 1]? = some (.cells #[.int .i64 x, .int .i64 y, .int .i64 z, .slice pb la.length cb] 24 (0, 0))) := by
    rw [hW1]
    refine ⟨?_, ?_⟩
    · rw [Below.heap_alloc _ _ _ (by simp)]; exact heap_alloc_new _ _
    · have := heap_alloc_new (w.alloc (.cells #[.int .i64 x, .int .i64 y, .int .i64 z, .slice pa la.length ca] 24)) (.cells #[.int .i64 x, .int .i64 y, .int .i64 z, .slice pb la.length cb] 24)
      simpa using this
  go_enter Tryd.func25, Tryd.ntmps25
  go_wp2_with fail
  rw [← hW1]
  clear hW1
  go_loopw [5] (fun q wr => ∃ k : Nat, k ≤ la.length ∧ q = .int .i64 k ∧ Hid (Fr [] W1 wr)) (fun q _ => la.length - (intOf q).toNat)
  case atStart => exact ⟨0, Nat.zero_le _, rfl, Fr.refl _ _⟩
  case round =>
    obtain ⟨k, hkn, rfl, hf⟩ := hrel
    have b0 := (hf.out.block _ (lt_of_heap HC.out.1) (by simp)).trans HC.out.1
    have b1 := (hf.out.block _ (lt_of_heap HC.out.2) (by simp)).trans HC.out.2
    have e0 : wr.cell? ⟨w.heap.size, 3, none⟩ = some (.slice pa la.length ca) := by rw [cell_in b0]; rfl
    have e1 : wr.cell? ⟨w.heap.size + 1, 3, none⟩ = some (.slice pb la.length cb) := by rw [cell_in b1]; rfl
    have hB1 := lt_of_heap b1
    by_cases hlt : k < la.length
    · have Fk := F1.out.trans hf.out (by simp)
      have hAk := HA.out.idle Fk
      have hBk := HB.out.idle Fk
      obtain ⟨pa', ca', e2, hpa⟩ := hAk.at_
      injection e2 with e2 e2b e2c
      subst e2
      subst e2c
      clear e2b
      obtain ⟨pb', cb', e3, hpb⟩ := hBk.at_
      injection e3 with e3 e3b e3c
      subst e3
      subst e3c
      clear e3b
      obtain ⟨ga, fa, rfl, hca⟩ := hpa (by omega)
      obtain ⟨gb, fb, rfl, hcb⟩ := hpb (by omega)
      obtain ⟨o, h0, x0, x1, x2, x3⟩ := hca k hlt
      have x4 := hAk.slots o (List.mem_of_getElem? h0)
      obtain ⟨o', h0', y0, y1, y2, y3⟩ := hcb k (by omega)
      have y4 := hBk.slots o' (List.mem_of_getElem? h0')
      have hkey : oiKey o = oiKey o' := by
        have := congrArg (fun l => l[k]?) HK.out
        simp only [List.getElem?_map, h0, h0'] at this
        simpa using this
      have hgl : ga < wr.heap.size := World.block_lt_of_cell? wr ⟨ga, fa + k * 4, none⟩ x0
      have hgl2 : gb < wr.heap.size := World.block_lt_of_cell? wr ⟨gb, fb + k * 4, none⟩ y0
      obtain ⟨oo, oc, of_, os, ov⟩ := o
      obtain ⟨oo', oc', of', os', ov'⟩ := o'
      simp only [oiKey, Prod.mk.injEq] at hkey
      obtain ⟨rfl, rfl, rfl, rfl⟩ := hkey
      dsimp only at *
      have HSW : Hid (∀ V, Hid (Fr [] wr V) → Calls Tryd.prog 61 #[ov, ov'] V fun e w' => e = .returned (.bool true) ∧ Hid (Fr [] wr w')) := by
        intro V hV
        refine Calls.mono (sameWords_ok os ov ov' V (x4.idle hV.out) (y4.idle hV.out)) ?_
        rintro e w' ⟨rfl, n, rfl⟩
        exact ⟨rfl, hV.out.trans (Fr.drewN [] _ _) (by simp)⟩
      obtain ⟨p1, c1, rfl⟩ : ∃ p c, ov = .slice p os.length c := by
        obtain ⟨p, c, h, _⟩ := x4.at_
        exact ⟨p, c, h⟩
      obtain ⟨p2, c2, rfl⟩ : ∃ p c, ov' = .slice p os.length c := by
        obtain ⟨p, c, h, _⟩ := y4.at_
        exact ⟨p, c, h⟩
      have k1 : (0 : Int) ≤ (k : Int) := by omega
      have k2 : (k : Int) < (la.length : Int) := by omega
      have HS2 := mkHid (HSW.out ((wr.alloc (.cells #[.int .i64 oo, .int .i64 oc, .int .i64 of_, .slice p1 os.length c1] 44)).alloc (.cells #[.int .i64 oo, .int .i64 oc, .int .i64 of_, .slice p2 os.length c2] 44)) ((Fr.alloc [] _ _).trans (Fr.alloc [] _ _) (by simp)))
      generalize os.length = sn at *
      clear hAk hBk hca hcb hpa hpb x4 y4 b0 b1 HSW HK HA HB h0 h0' Fk hll
      go_wp2_with (go_at_call 61; refine Calls.mono HS2.out ?_; rintro e w5 ⟨rfl, hf5⟩)
      go_roundw
      case rel => exact ⟨k + 1, by omega, by go_num, hf.out.trans hf5.out (by simp)⟩
      case measure => simp [intOf]; omega
    · have hke : k = la.length := by omega
      subst hke
      go_wp2_with fail
      go_ret
      exact ⟨rfl, F1.out.trans hf.out (by simp)⟩
theorem sameState_ok (x y z : Nat) (oa ob : Value) (la lb : List OS) (ba bb : Nat) (w : World) (ha : SRep w ba oa la) (hb : SRep w bb ob lb) (hk : la.map osKey = lb.map osKey) (hl : la.length ≤ 1048576) (hsl : ∀ o ∈ la, o.slots.length ≤ 8192) :
    Calls Tryd.prog 25 #[.agg #[.int .i64 (x : Int), .int .i64 (y : Int), .int .i64 (z : Int), oa], .agg #[.int .i64 (x : Int), .int .i64 (y : Int), .int .i64 (z : Int), ob]] w fun e w' => e = .returned (.bool true) ∧ Fr [] w w' := by
  have hll : lb.length = la.length := by have := congrArg List.length hk; simpa using this.symm
  have hsb : ∀ o ∈ lb, o.slots.length ≤ 8192 := fun o ho => by
    have h1 : osKey o ∈ la.map osKey := by rw [hk]; exact List.mem_map_of_mem ho
    obtain ⟨u, hu, he⟩ := List.mem_map.1 h1
    have e2 : u.slots = o.slots := by simp only [osKey, Prod.mk.injEq] at he; exact he.2.2.2
    rw [← e2]; exact hsl u hu
  refine sameState_at x y z oa ob (la.map toOI) (lb.map toOI) w (ha.sat (by omega) (fun o ho => by have := hsl o ho; omega)) (hb.sat (by omega) (fun o ho => by have := hsb o ho; omega)) ?_
  have e : oiKey ∘ toOI = (fun k : Nat × Int × Nat × List Int => ((k.1 : Int), k.2.1, (k.2.2.1 : Int), k.2.2.2)) ∘ osKey := rfl
  rw [List.map_map, List.map_map, e, ← List.map_map, ← List.map_map, hk]
end Go.Proofs.YtpaekbghnejhoaaDoor

namespace Go.Proofs.YtpaekbghnejhoaaDoor
open Go.RowKit
set_option linter.unusedVariables false
attribute [local go_sem ↓] Go.wp_at_zero Go.wp_at_succ
set_option maxRecDepth 20000 in
set_option maxHeartbeats 1000000 in
theorem in_ok (ss : List Int) (z : Int) (va : Value) (w : World) (ha : Rd w va ss) :
    Calls Tryd.prog 15 #[va, .int .i64 z] w fun e w' => e = .returned (.bool (decide (z ∈ ss))) ∧ w' = w := by
  obtain ⟨pa, ca, rfl, hpa⟩ := ha.at_
  have hl := ha.short
  clear ha
  have HA := mkHid hpa
  clear hpa
  go_enter Tryd.func15, Tryd.ntmps15
  go_wp2_with fail
  go_loopw [5] (fun q wr => ∃ k : Nat, k ≤ ss.length ∧ q = .int .i64 k ∧ wr = w ∧ Hid (z ∉ ss.take k)) (fun q _ => ss.length - (intOf q).toNat)
  case atStart => exact ⟨0, Nat.zero_le _, rfl, rfl, mkHid (by simp)⟩
  case round =>
    obtain ⟨k, hkn, rfl, rfl, HZ⟩ := hrel
    by_cases hlt : k < ss.length
    · obtain ⟨ga, oa, rfl, -, hca⟩ := HA.out (by omega)
      have x1 := hca k hlt
      have k1 : (0 : Int) ≤ (k : Int) := by omega
      have k2 : (k : Int) < (ss.length : Int) := by omega
      have HT : Hid (ss.take (k + 1) = ss.take k ++ [ss.getD k 0]) := by
        show ss.take (k + 1) = ss.take k ++ [ss.getD k 0]
        rw [List.take_succ_eq_append_getElem hlt, List.getD_eq_getElem?_getD, List.getElem?_eq_getElem hlt]; rfl
      have HM : Hid (ss.getD k 0 ∈ ss) := by
        show ss.getD k 0 ∈ ss
        rw [List.getD_eq_getElem?_getD, List.getElem?_eq_getElem hlt]; exact List.getElem_mem _
      generalize ss.getD k 0 = y at *
      clear hca HA
      by_cases he : y = z
      · subst he
        have HD : Hid (decide (y ∈ ss) = true) := decide_eq_true HM.out
        clear HM HT HZ
        go_wp2_with fail
        go_ret
        exact ⟨by rw [HD.out]; rfl, rfl⟩
      · have hb : (y == z) = false := by simpa using he
        have HN : Hid (z ∉ ss.take (k + 1)) := by
          show z ∉ ss.take (k + 1)
          rw [HT.out, List.mem_append]
          rintro (h1 | h1)
          · exact HZ.out h1
          · simp at h1; exact he h1.symm
        clear HT HM HZ he
        go_wp2_with fail
        go_roundw
        case rel => exact ⟨k + 1, by omega, by go_num, trivial, HN⟩
        case measure => simp [intOf]; omega
    · have hke : k = ss.length := by omega
      subst hke
      have HD : Hid (decide (z ∈ ss) = false) := decide_eq_false (by have := HZ.out; rwa [List.take_length] at this)
      go_wp2_with fail
      go_ret
      exact ⟨by rw [HD.out]; rfl, rfl⟩
end Go.Proofs.YtpaekbghnejhoaaDoor
namespace Go.Proofs.YtpaekbghnejhoaaDoor
open Go.RowKit
set_option linter.unusedVariables false
attribute [local go_sem ↓] Go.wp_at_zero Go.wp_at_succ
set_option maxRecDepth 20000 in
set_option maxHeartbeats 1000000 in
theorem rising_ok (ss : List Int) (va : Value) (w : World) (ha : Rd w va ss) (hr : ∀ k, 0 < k → k < ss.length → ss.getD (k - 1) 0 < ss.getD k 0) :
    Calls Tryd.prog 20 #[va] w fun e w' => e = .returned (.bool true) ∧ Fr [] w w' := by
  obtain ⟨pa, ca, rfl, hpa⟩ := ha.at_
  have hl := ha.short
  clear ha
  have HA := mkHid hpa
  have HR := mkHid hr
  clear hpa hr
  go_enter Tryd.func20, Tryd.ntmps20
  go_wp2_with fail
  go_loopw [3] (fun q wr => ∃ k : Nat, 1 ≤ k ∧ k ≤ ss.length + 1 ∧ q = .int .i64 k ∧ Hid (∃ n, wr = w.drewN n)) (fun q _ => ss.length + 1 - (intOf q).toNat)
  case atStart => exact ⟨1, Nat.le_refl _, by omega, rfl, 0, rfl⟩
  case round =>
    obtain ⟨k, h1, hkn, rfl, hq⟩ := hrel
    by_cases hlt : k < ss.length
    · obtain ⟨ga, oa, rfl, -, hca⟩ := HA.out (by omega)
      obtain ⟨j, rfl⟩ : ∃ j, k = j + 1 := ⟨k - 1, by omega⟩
      obtain ⟨n, hn⟩ := hq.out
      have x1 : wr.cell? ⟨ga, oa + (j + 1), none⟩ = some (.int .i64 (ss.getD (j + 1) 0)) := by rw [hn]; exact hca (j + 1) hlt
      have x2 : wr.cell? ⟨ga, oa + j, none⟩ = some (.int .i64 (ss.getD j 0)) := by rw [hn]; exact hca j (by omega)
      have hrs := HR.out (j + 1) (by omega) hlt
      rw [show j + 1 - 1 = j from by omega] at hrs
      have k1 : (0 : Int) ≤ (j : Int) := by omega
      have k2 : (j : Int) + 1 < (ss.length : Int) := by omega
      have HD : Hid (∀ m, ∃ n, wr.drewN m = w.drewN n) := fun m => ⟨n + m, by rw [hn]; simp [World.drewN, Nat.add_assoc]⟩
      generalize ss.getD (j + 1) 0 = y at *
      generalize ss.getD j 0 = z at *
      have hle : ¬ y ≤ z := by omega
      clear hca hq hn HA HR
      go_wp2_with fail
      go_quiet (fail)
      go_wp2_with fail
      go_roundw
      case rel => exact ⟨j + 2, by omega, by omega, by go_num, HD.out _⟩
      case measure => simp [intOf]; omega
    · go_wp2_with fail
      go_ret
      obtain ⟨n, hn⟩ := hq.out
      exact ⟨rfl, by rw [hn]; exact Fr.drewN _ _ _⟩
end Go.Proofs.YtpaekbghnejhoaaDoor
namespace Go.Proofs.YtpaekbghnejhoaaDoor
open Go.RowKit
set_option linter.unusedVariables false
attribute [local go_sem ↓] Go.wp_at_zero Go.wp_at_succ
/-- an object as a value -/
def oiV (o : OI) : Value := .agg #[.int .i64 o.oop, .int .i64 o.cls, .int .i64 o.fmt, o.v]
def noV : Value := .agg #[.int .i64 0, .int .i64 0, .int .i64 0, .slice none 0 0]
/-- what at tells -/
def atR (l : List OI) (z : Int) : Value := match l.find? (fun o => decide (o.oop = z)) with | some o => .tuple #[oiV o, .bool true] | none => .tuple #[noV, .bool false]
theorem find_take {l : List OI} {z : Int} {k : Nat} {o : OI} (hk : l[k]? = some o) (hz : o.oop = z) (hn : ∀ x ∈ l.take k, x.oop ≠ z) : l.find? (fun o => decide (o.oop = z)) = some o := by
  have hlt : k < l.length := (List.getElem?_eq_some_iff.1 hk).1
  have e : l = l.take k ++ o :: l.drop (k + 1) := by
    have h1 := List.take_append_drop k l
    have h2 : l.drop k = o :: l.drop (k + 1) := by
      rw [List.drop_eq_getElem_cons hlt]
      congr 1
      have := List.getElem?_eq_some_iff.1 hk
      exact this.2
    rw [h2] at h1
    exact h1.symm
  rw [e, List.find?_append]
  rw [List.find?_eq_none.2 (fun x hx => by simpa using hn x hx)]
  simp [hz]
set_option maxRecDepth 20000 in
set_option maxHeartbeats 2000000 in
theorem at_ok (l : List OI) (z x1 x2 x3 : Int) (ov : Value) (w : World) (ha : SAt w ov l) :
    Calls Tryd.prog 59 #[.agg #[.int .i64 x1, .int .i64 x2, .int .i64 x3, ov], .int .i64 z] w fun e w' =>
      e = .returned (atR l z) ∧ Fr [] w w' := by
  have HS := mkHid ha
  obtain ⟨pa, ca, rfl, hpa⟩ := ha.at_
  have hl := ha.short
  clear ha hpa
  go_enter Tryd.func59, Tryd.ntmps59
  go_wp2_with fail
  obtain ⟨V, hV⟩ : ∃ V, (w.alloc (.cells #[.int .i64 x1, .int .i64 x2, .int .i64 x3, .slice pa l.length ca] 24)).alloc (.cells #[.int .i64 0, .int .i64 0, .int .i64 0, .slice none 0 0] 44) = V := ⟨_, rfl⟩
  rw [hV]
  have hfV : Fr [] w V := by rw [← hV]; exact (Fr.alloc [] _ _).trans (Fr.alloc [] _ _) (by simp)
  have hb1 : V.heap[w.heap.size]? = some (.cells #[.int .i64 x1, .int .i64 x2, .int .i64 x3, .slice pa l.length ca] 24 (0, 0)) := by
    rw [← hV, Below.heap_alloc _ _ _ (by simp)]; exact heap_alloc_new _ _
  have hb2 : V.heap[w.heap.size + 1]? = some (.cells #[.int .i64 0, .int .i64 0, .int .i64 0, .slice none 0 0] 44 (0, 0)) := by
    rw [← hV]
    have := heap_alloc_new (w.alloc (.cells #[.int .i64 x1, .int .i64 x2, .int .i64 x3, .slice pa l.length ca] 24)) (.cells #[.int .i64 0, .int .i64 0, .int .i64 0, .slice none 0 0] 44)
    simpa using this
  have c3 : V.cell? ⟨w.heap.size, 3, none⟩ = some (.slice pa l.length ca) := by rw [cell_in hb1]; rfl
  have d0 : V.cell? ⟨w.heap.size + 1, 0, none⟩ = some (.int .i64 0) := by rw [cell_in hb2]; rfl
  have d1 : V.cell? ⟨w.heap.size + 1, 1, none⟩ = some (.int .i64 0) := by rw [cell_in hb2]; rfl
  have d2 : V.cell? ⟨w.heap.size + 1, 2, none⟩ = some (.int .i64 0) := by rw [cell_in hb2]; rfl
  have d3 : V.cell? ⟨w.heap.size + 1, 3, none⟩ = some (.slice none 0 0) := by rw [cell_in hb2]; rfl
  have f0 : V.frozen? ⟨w.heap.size + 1, 0, none⟩ = false := frozen_in hb2 0
  have f1 : V.frozen? ⟨w.heap.size + 1, 1, none⟩ = false := frozen_in hb2 1
  have f2 : V.frozen? ⟨w.heap.size + 1, 2, none⟩ = false := frozen_in hb2 2
  have f3 : V.frozen? ⟨w.heap.size + 1, 3, none⟩ = false := frozen_in hb2 3
  obtain ⟨pa', ca', ep, hat⟩ := (HS.out.idle hfV).at_
  cases ep
  have HSl := mkHid (HS.out.idle hfV).slots
  have HA := mkHid hat
  have HF := mkHid hfV
  have HB := mkHid hb2
  clear hat hfV hV HS hb1 hb2
  go_loopw [6] (fun q wr => ∃ k : Nat, k ≤ l.length ∧ q = .int .i64 k ∧ wr = V ∧ Hid (∀ x ∈ l.take k, x.oop ≠ z)) (fun q _ => l.length - (intOf q).toNat)
  case atStart => exact ⟨0, Nat.zero_le _, rfl, rfl, mkHid (by simp)⟩
  case round =>
    obtain ⟨k, hkn, rfl, rfl, HZ⟩ := hrel
    by_cases hlt : k < l.length
    · obtain ⟨ga, oa, rfl, hca⟩ := HA.out (by omega)
      obtain ⟨o, ho, o0, o1, o2, o3⟩ := hca k hlt
      have k1 : (0 : Int) ≤ (k : Int) := by omega
      have k2 : (k : Int) < (l.length : Int) := by omega
      have HO := mkHid ho
      clear hca HA ho
      by_cases he : o.oop = z
      · have HFi := mkHid (find_take HO.out he HZ.out)
        obtain ⟨pv, cv, ev, _⟩ := (HSl.out o (List.mem_of_getElem? HO.out)).at_
        clear HZ HO
        subst he
        have HFv : Hid (atR l o.oop = .tuple #[.agg #[.int .i64 o.oop, .int .i64 o.cls, .int .i64 o.fmt, .slice pv o.slots.length cv], .bool true]) := by
          show atR l o.oop = _
          unfold atR
          rw [HFi.out, ← ev]; rfl
        rw [ev] at o3
        clear HFi ev
        go_wp2_with fail
        obtain ⟨U, hU⟩ : ∃ U, U = (((wr.setCell ⟨w.heap.size + 1, 0, none⟩ (.int .i64 o.oop)).setCell ⟨w.heap.size + 1, 1, none⟩ (.int .i64 o.cls)).setCell ⟨w.heap.size + 1, 2, none⟩ (.int .i64 o.fmt)).setCell ⟨w.heap.size + 1, 3, none⟩ (.slice pv o.slots.length cv) := ⟨_, rfl⟩
        have hUb : U.heap[w.heap.size + 1]? = some (.cells #[.int .i64 o.oop, .int .i64 o.cls, .int .i64 o.fmt, .slice pv o.slots.length cv] 44 (0, 0)) := by
          rw [hU, set_in (set_in (set_in (set_in HB.out 0 _) 1 _) 2 _) 3 _]
          rfl
        have F : Fr [w.heap.size + 1] wr U := by
          rw [hU]
          exact (((Fr.setCell (S := [w.heap.size + 1]) wr ⟨w.heap.size + 1, 0, none⟩ (.int .i64 o.oop) (by simp)).trans (Fr.setCell (S := [w.heap.size + 1]) _ ⟨w.heap.size + 1, 1, none⟩ (.int .i64 o.cls) (by simp)) (fun b hb => .inl hb)).trans (Fr.setCell (S := [w.heap.size + 1]) _ ⟨w.heap.size + 1, 2, none⟩ (.int .i64 o.fmt) (by simp)) (fun b hb => .inl hb)).trans (Fr.setCell (S := [w.heap.size + 1]) _ ⟨w.heap.size + 1, 3, none⟩ (.slice pv o.slots.length cv) (by simp)) (fun b hb => .inl hb)
        rw [← hU]
        clear hU
        have y0 : U.cell? ⟨w.heap.size + 1, 0, none⟩ = some (.int .i64 o.oop) := by rw [cell_in hUb]; rfl
        have y1 : U.cell? ⟨w.heap.size + 1, 1, none⟩ = some (.int .i64 o.cls) := by rw [cell_in hUb]; rfl
        have y2 : U.cell? ⟨w.heap.size + 1, 2, none⟩ = some (.int .i64 o.fmt) := by rw [cell_in hUb]; rfl
        have y3 : U.cell? ⟨w.heap.size + 1, 3, none⟩ = some (.slice pv o.slots.length cv) := by rw [cell_in hUb]; rfl
        refine bodyPost_ret (v := .tuple #[.agg #[.int .i64 o.oop, .int .i64 o.cls, .int .i64 o.fmt, .slice pv o.slots.length cv], .bool true]) (by simp [results, Tryd.results59, go_sem, y0, y1, y2, y3]) rfl ?_
        exact ⟨by rw [HFv.out], HF.out.trans F (fun b hb => .inr (by simp at hb; omega))⟩
      · have hb : (o.oop == z) = false := by simpa using he
        have HN : Hid (∀ x ∈ l.take (k + 1), x.oop ≠ z) := by
          show ∀ x ∈ l.take (k + 1), x.oop ≠ z
          intro x hx
          rw [List.take_add_one, HO.out] at hx
          rcases List.mem_append.1 hx with h1 | h1
          · exact HZ.out x h1
          · have : x = o := by simpa using h1
            rw [this]; exact he
        clear HO HZ he
        go_wp2_with fail
        go_roundw
        case rel => exact ⟨k + 1, by omega, by go_num, trivial, HN⟩
        case measure => simp [intOf]; omega
    · have hke : k = l.length := by omega
      subst hke
      have HD : Hid (l.find? (fun o => decide (o.oop = z)) = none) := List.find?_eq_none.2 (fun x hx => by have := HZ.out; rw [List.take_length] at this; simpa using this x hx)
      have HFv : Hid (atR l z = .tuple #[.agg #[.int .i64 0, .int .i64 0, .int .i64 0, .slice none 0 0], .bool false]) := by
        show atR l z = _
        unfold atR
        rw [HD.out]; rfl
      clear HZ HD
      go_wp2_with fail
      obtain ⟨U, hU⟩ : ∃ U, U = (((wr.setCell ⟨w.heap.size + 1, 0, none⟩ (.int .i64 0)).setCell ⟨w.heap.size + 1, 1, none⟩ (.int .i64 0)).setCell ⟨w.heap.size + 1, 2, none⟩ (.int .i64 0)).setCell ⟨w.heap.size + 1, 3, none⟩ (.slice none 0 0) := ⟨_, rfl⟩
      have hUb : U.heap[w.heap.size + 1]? = some (.cells #[.int .i64 0, .int .i64 0, .int .i64 0, .slice none 0 0] 44 (0, 0)) := by
        rw [hU, set_in (set_in (set_in (set_in HB.out 0 _) 1 _) 2 _) 3 _]
        rfl
      have F : Fr [w.heap.size + 1] wr U := by
        rw [hU]
        exact (((Fr.setCell (S := [w.heap.size + 1]) wr ⟨w.heap.size + 1, 0, none⟩ (.int .i64 0) (by simp)).trans (Fr.setCell (S := [w.heap.size + 1]) _ ⟨w.heap.size + 1, 1, none⟩ (.int .i64 0) (by simp)) (fun b hb => .inl hb)).trans (Fr.setCell (S := [w.heap.size + 1]) _ ⟨w.heap.size + 1, 2, none⟩ (.int .i64 0) (by simp)) (fun b hb => .inl hb)).trans (Fr.setCell (S := [w.heap.size + 1]) _ ⟨w.heap.size + 1, 3, none⟩ (.slice none 0 0) (by simp)) (fun b hb => .inl hb)
      rw [← hU]
      clear hU
      have y0 : U.cell? ⟨w.heap.size + 1, 0, none⟩ = some (.int .i64 0) := by rw [cell_in hUb]; rfl
      have y1 : U.cell? ⟨w.heap.size + 1, 1, none⟩ = some (.int .i64 0) := by rw [cell_in hUb]; rfl
      have y2 : U.cell? ⟨w.heap.size + 1, 2, none⟩ = some (.int .i64 0) := by rw [cell_in hUb]; rfl
      have y3 : U.cell? ⟨w.heap.size + 1, 3, none⟩ = some (.slice none 0 0) := by rw [cell_in hUb]; rfl
      refine bodyPost_ret (v := .tuple #[.agg #[.int .i64 0, .int .i64 0, .int .i64 0, .slice none 0 0], .bool false]) (by simp [results, Tryd.results59, go_sem, y0, y1, y2, y3]) rfl ?_
      exact ⟨by rw [HFv.out], HF.out.trans F (fun b hb => .inr (by simp at hb; omega))⟩
end Go.Proofs.YtpaekbghnejhoaaDoor
namespace Go.Proofs.YtpaekbghnejhoaaDoor
open Go.RowKit
set_option linter.unusedVariables false
attribute [local go_sem ↓] Go.wp_at_zero Go.wp_at_succ
/-- the law's names -/
def namesS (l : List OI) (z : Int) : Bool := decide (4 ≤ z ∧ z % 4 = 0 ∧ z ≤ 262144) && (l.find? (fun o => decide (o.oop = z / 4))).isSome
set_option maxRecDepth 20000 in
set_option maxHeartbeats 2000000 in
theorem names_no (l : List OI) (z x1 x2 x3 : Int) (ov : Value) (w : World) (hz : ¬ (4 ≤ z ∧ z % 4 = 0 ∧ z ≤ 262144)) :
    Calls Tryd.prog 58 #[.agg #[.int .i64 x1, .int .i64 x2, .int .i64 x3, ov], .int .i64 z] w fun e w' => e = .returned (.bool false) ∧ Fr [] w w' := by
  by_cases h1 : z < 4
  · clear hz
    go_enter Tryd.func58, Tryd.ntmps58
    go_wp2_with fail
    go_ret
    exact ⟨rfl, Fr.alloc _ _ _⟩
  · have hm : z.tmod 4 = z % 4 := Int.tmod_eq_emod_of_nonneg (by omega)
    by_cases h2 : z % 4 = 0
    · have h3 : z > 262144 := by omega
      rw [h2] at hm
      clear hz h2
      go_enter Tryd.func58, Tryd.ntmps58
      go_wp2_with fail
      go_ret
      exact ⟨rfl, Fr.alloc _ _ _⟩
    · have hb : (z.tmod 4 == 0) = false := by rw [hm]; simpa using h2
      have h4 : ¬ z < 4 := h1
      clear hz hm
      go_enter Tryd.func58, Tryd.ntmps58
      go_wp2_with fail
      go_ret
      exact ⟨rfl, Fr.alloc _ _ _⟩
set_option maxRecDepth 20000 in
set_option maxHeartbeats 2000000 in
theorem names_in (l : List OI) (z x1 x2 x3 : Int) (ov : Value) (w : World) (ha : SAt w ov l) (h1 : 4 ≤ z) (h2 : z % 4 = 0) (h3 : z ≤ 262144) :
    Calls Tryd.prog 58 #[.agg #[.int .i64 x1, .int .i64 x2, .int .i64 x3, ov], .int .i64 z] w fun e w' => e = .returned (.bool (l.find? (fun o => decide (o.oop = z / 4))).isSome) ∧ Fr [] w w' := by
  have hm : z.tmod 4 = 0 := by rw [Int.tmod_eq_emod_of_nonneg (by omega)]; exact h2
  have hd : z.tdiv 4 = z / 4 := Int.tdiv_eq_ediv_of_nonneg (by omega)
  have k1 : ¬ z < 4 := by omega
  have k3 : ¬ 262144 < z := by omega
  have HA := mkHid (at_ok l (z / 4) x1 x2 x3 ov (w.alloc (.cells #[.int .i64 x1, .int .i64 x2, .int .i64 x3, ov] 24)) (ha.idle (Fr.alloc _ _ _)))
  obtain ⟨a1, a2, a3, pu, nu, cu, hu⟩ : ∃ (a1 a2 a3 : Int) (pu : Option Addr) (nu cu : Nat), Hid (atR l (z / 4) = .tuple #[.agg #[.int .i64 a1, .int .i64 a2, .int .i64 a3, .slice pu nu cu], .bool (l.find? (fun o => decide (o.oop = z / 4))).isSome]) := by
    unfold atR
    cases hfi : l.find? (fun o => decide (o.oop = z / 4)) with
    | none => exact ⟨0, 0, 0, none, 0, 0, rfl⟩
    | some o =>
      obtain ⟨pv, cv, ev, _⟩ := (ha.slots o (List.mem_of_find?_eq_some hfi)).at_
      exact ⟨o.oop, o.cls, o.fmt, pv, _, cv, by show Value.tuple #[oiV o, .bool true] = _; unfold oiV; rw [ev]; rfl⟩
  rw [hu.out] at HA
  clear hu
  generalize (l.find? (fun o => decide (o.oop = z / 4))).isSome = b at *
  clear ha h2
  go_enter Tryd.func58, Tryd.ntmps58
  go_wp2_with fail
  refine Calls.mono HA.out ?_
  rintro e w2 ⟨rfl, hf2⟩
  go_wp2_with fail
  go_ret
  exact ⟨rfl, ((Fr.alloc [] _ _).trans hf2 (by simp)).trans (Fr.alloc [] _ _) (by simp)⟩
theorem names_ok (l : List OI) (z x1 x2 x3 : Int) (ov : Value) (w : World) (ha : SAt w ov l) :
    Calls Tryd.prog 58 #[.agg #[.int .i64 x1, .int .i64 x2, .int .i64 x3, ov], .int .i64 z] w fun e w' => e = .returned (.bool (namesS l z)) ∧ Fr [] w w' := by
  unfold namesS
  by_cases h : 4 ≤ z ∧ z % 4 = 0 ∧ z ≤ 262144
  · rw [decide_eq_true h, Bool.true_and]
    exact names_in l z x1 x2 x3 ov w ha h.1 h.2.1 h.2.2
  · rw [decide_eq_false h, Bool.false_and]
    exact names_no l z x1 x2 x3 ov w h
end Go.Proofs.YtpaekbghnejhoaaDoor
namespace Go.Proofs.YtpaekbghnejhoaaDoor
open Go.RowKit
set_option linter.unusedVariables false
attribute [local go_sem ↓] Go.wp_at_zero Go.wp_at_succ
set_option maxRecDepth 20000 in
set_option maxHeartbeats 2000000 in
theorem sameObject_ok (a1 a2 a3 : Int) (ss : List Int) (va vb : Value) (w : World) (ha : Rd w va ss) (hb : Rd w vb ss) :
    Calls Tryd.prog 24 #[.agg #[.int .i64 a1, .int .i64 a2, .int .i64 a3, va], .agg #[.int .i64 a1, .int .i64 a2, .int .i64 a3, vb]] w fun e w' => e = .returned (.bool true) ∧ Fr [] w w' := by
  have HA := mkHid ha
  have HB := mkHid hb
  obtain ⟨pa, ca, rfl, _⟩ := ha.at_
  obtain ⟨pb, cb, rfl, _⟩ := hb.at_
  clear ha hb
  go_enter Tryd.func24, Tryd.ntmps24
  go_wp2_with fail
  have hfr : Fr [] w ((w.alloc (.cells #[.int .i64 a1, .int .i64 a2, .int .i64 a3, .slice pa ss.length ca] 44)).alloc (.cells #[.int .i64 a1, .int .i64 a2, .int .i64 a3, .slice pb ss.length cb] 44)) := (Fr.alloc [] _ _).trans (Fr.alloc [] _ _) (by simp)
  refine Calls.mono (sameWords_ok ss _ _ _ (HA.out.idle hfr) (HB.out.idle hfr)) ?_
  rintro e w2 ⟨rfl, n, rfl⟩
  go_wp2_with fail
  go_ret
  exact ⟨rfl, hfr.trans (Fr.drewN [] _ _) (by simp)⟩
end Go.Proofs.YtpaekbghnejhoaaDoor
namespace Go.Proofs.YtpaekbghnejhoaaDoor
open Go.RowKit
set_option linter.unusedVariables false
attribute [local go_sem ↓] Go.wp_at_zero Go.wp_at_succ
set_option maxHeartbeats 1000000 in
theorem Oop_yes (n : Int) (w : World) (hT : Tab w) (hk : kindOf n = 3) : Calls Tryd.prog 84 #[.int .i64 n] w fun e w' => e = .returned (.tuple #[.int .i64 (n / 4), .int .i64 0]) ∧ w' = w := by
  have hK := kind_any n w hT
  rw [hk] at hK
  obtain ⟨h1, h2, h3⟩ := (kind3 n).1 hk
  have hd : n.tdiv 4 = n / 4 := Int.tdiv_eq_ediv_of_nonneg (by omega)
  have HK := mkHid hK
  clear hK hT hk
  go_enter Tryd.func84, Tryd.ntmps84
  go_wp2_with (go_at_call 77; refine Calls.mono HK.out ?_; rintro e w' ⟨rfl, hw'⟩; rw [hw']; clear hw' w')
  go_ret2
  refine ⟨?_, rfl⟩
  first | rfl | (rw [hd]) | (congr 4)
set_option maxHeartbeats 1000000 in
theorem Oop_no (n : Int) (w : World) (hT : Tab w) (hk : kindOf n ≠ 3) : Calls Tryd.prog 84 #[.int .i64 n] w fun e w' => e = .returned (.tuple #[.int .i64 0, .int .i64 10]) ∧ w' = w := by
  have hK := kind_any n w hT
  have hb : (kindOf n == 3) = false := by simpa using hk
  have HK := mkHid hK
  generalize kindOf n = kz at *
  clear hK hT hk
  go_enter Tryd.func84, Tryd.ntmps84
  go_wp2_with (go_at_call 77; refine Calls.mono HK.out ?_; rintro e w' ⟨rfl, hw'⟩; rw [hw']; clear hw' w')
  go_ret2
  exact ⟨rfl, rfl⟩
/-- does a word name an object of the heap? -/
def namesB (H : HS) (n : Int) : Bool := decide (kindOf n = 3) && has H (n / 4)
set_option maxHeartbeats 1000000 in
theorem named_yes (n : Int) (a : Nat) (l : Lay) (H : HS) (M : MS) (w : World) (h : Rep w a l H) (hi : Inv H M) (hT : Tab w) (hn : namesB H n = true) :
    Calls Tryd.prog 55 #[.pointer (some ⟨a, 0, none⟩), .int .i64 n] w fun e w' => e = .returned (.tuple #[.int .i64 (n / 4), .bool true]) ∧ Fr [] w w' := by
  unfold namesB at hn
  simp only [Bool.and_eq_true, decide_eq_true_eq] at hn
  obtain ⟨hk, hh⟩ := hn
  have hm : mhas M (n / 4) = true := by rw [← hi.hasM]; exact hh
  have hm2 := of_decide_eq_true hm
  obtain ⟨q, hq⟩ : ∃ q : Nat, n / 4 = (q : Int) + 1 := ⟨(n / 4).toNat - 1, by omega⟩
  have hb : (M.things.getD q noTh).there = true := by have := hm2.2.2; rwa [show (n / 4).toNat - 1 = q from by omega] at this
  have hI := hi.is q (th_in hb) hb
  have hmem : (H.mem.length : Int) ≤ 1048576 := by have := hi.safe.small.mem; have := hi.safe.small.words; omega
  have hr := hI.room
  have h22 := lenN_two (M.things.getD q noTh).slots.length (M.things.getD q noTh).fmt
  have HC := mkHid (Class_ok (q + 1) a l H w h hI.has (by omega) hmem)
  have HO := mkHid (Oop_yes n w hT hk)
  rw [hq] at HO ⊢
  generalize H.mem.getD (H.seats.getD (q + 1) (0, 0, 0)).1 0 = cz at *
  rw [show ((q + 1 : Nat) : Int) = (q : Int) + 1 from by omega] at HC
  clear hh hk hm hm2 hb hI hq h hi hT
  go_enter Tryd.func55, Tryd.ntmps55
  go_wp2_with (go_at_call 84; refine Calls.mono HO.out ?_; rintro e w' ⟨rfl, hw'⟩; rw [hw']; clear hw' w')
  refine Calls.mono HC.out ?_
  rintro e w2 ⟨rfl, hf2⟩
  go_wp2_with fail
  go_ret2
  exact ⟨rfl, hf2⟩
set_option maxHeartbeats 1000000 in
theorem named_no (n : Int) (a : Nat) (l : Lay) (H : HS) (w : World) (h : Rep w a l H) (hT : Tab w) (hn : namesB H n = false) :
    Calls Tryd.prog 55 #[.pointer (some ⟨a, 0, none⟩), .int .i64 n] w fun e w' => e = .returned (.tuple #[.int .i64 0, .bool false]) ∧ Fr [] w w' := by
  by_cases hk : kindOf n = 3
  · have hh : has H (n / 4) = false := by unfold namesB at hn; rw [decide_eq_true hk] at hn; simpa using hn
    have HC := mkHid (Class_no (n / 4) a l H w h hh)
    have HO := mkHid (Oop_yes n w hT hk)
    generalize n / 4 = q at *
    clear hh hk h hT hn
    go_enter Tryd.func55, Tryd.ntmps55
    go_wp2_with (go_at_call 84; refine Calls.mono HO.out ?_; rintro e w' ⟨rfl, hw'⟩; rw [hw']; clear hw' w')
    refine Calls.mono HC.out ?_
    rintro e w2 ⟨rfl, hf2⟩
    go_wp2_with fail
    go_ret2
    exact ⟨rfl, hf2⟩
  · have HO := mkHid (Oop_no n w hT hk)
    clear hk h hT hn
    go_enter Tryd.func55, Tryd.ntmps55
    go_wp2_with (go_at_call 84; refine Calls.mono HO.out ?_; rintro e w' ⟨rfl, hw'⟩; rw [hw']; clear hw' w')
    go_ret2
    exact ⟨rfl, Fr.refl _ _⟩
end Go.Proofs.YtpaekbghnejhoaaDoor
namespace Go.Proofs.YtpaekbghnejhoaaDoor
open Go.RowKit
set_option linter.unusedVariables false
attribute [local go_sem ↓] Go.wp_at_zero Go.wp_at_succ
set_option maxHeartbeats 1000000 in
theorem marks_nil (p : Option Addr) (c : Nat) (w : World) : Calls Tryd.prog 53 #[.slice p 0 c] w fun e w' => e = .returned (.slice none 0 0) ∧ w' = w := by
  go_enter Tryd.func53, Tryd.ntmps53
  go_wp2_with fail
  go_ret
  exact ⟨rfl, rfl⟩
set_option maxRecDepth 20000 in
set_option maxHeartbeats 1000000 in
theorem marks_ok (g : Nat) (c : Nat) (n z : Nat) (w : World) (hn : 0 < n) (hl : n ≤ 1048576) (hz : z < 1048576) (hc : w.cell? ⟨g, n - 1, none⟩ = some (.int .i64 (z : Int))) :
    Calls Tryd.prog 53 #[.slice (some ⟨g, 0, none⟩) n c] w fun e w' => e = .returned (.slice (some ⟨w.heap.size, 0, none⟩) (z + 1) (z + 1)) ∧ w' = w.alloc (.cells (keptL (z + 1) []).toArray 4) := by
  have k0 : ((n : Int) == 0) = false := by simpa using (by omega : ¬ (n : Int) = 0)
  have k1 : (0 : Int) ≤ (n : Int) - 1 := by omega
  have k2 : (n : Int) - 1 < (n : Int) := by omega
  have hmk := make_bools (z + 1) (by omega) w
  rw [show ((z + 1 : Nat) : Int) = (z : Int) + 1 from by omega] at hmk
  go_enter Tryd.func53, Tryd.ntmps53
  go_wp2_with fail
  go_ret
  exact ⟨rfl, rfl⟩
end Go.Proofs.YtpaekbghnejhoaaDoor
namespace Go.Proofs.YtpaekbghnejhoaaDoor
open Go.RowKit
set_option linter.unusedVariables false
attribute [local go_sem ↓] Go.wp_at_zero Go.wp_at_succ
/-- those of the first k that are marked -/
def markedTo (ks rs : List Nat) (k : Nat) : List Nat := (ks.take k).filter fun x => decide (x ∈ rs)
theorem markedTo_succ (ks rs : List Nat) (k : Nat) (hk : k < ks.length) : markedTo ks rs (k + 1) = markedTo ks rs k ++ (if ks.getD k 0 ∈ rs then [ks.getD k 0] else []) := by
  unfold markedTo
  have e : ks.getD k 0 = ks[k] := by rw [List.getD_eq_getElem?_getD, List.getElem?_eq_getElem hk]; rfl
  rw [List.take_succ_eq_append_getElem hk, List.filter_append, e]
  congr 1
  by_cases h : ks[k] ∈ rs
  · rw [if_pos h, List.filter_cons_of_pos (by simpa using h)]; rfl
  · rw [if_neg h, List.filter_cons_of_neg (by simpa using h)]; rfl
theorem markedTo_len (ks rs : List Nat) (k : Nat) : (markedTo ks rs k).length ≤ k := by
  have := List.length_filter_le (fun x => decide (x ∈ rs)) (ks.take k)
  unfold markedTo
  have h2 : (ks.take k).length ≤ k := by simp; omega
  omega
set_option maxRecDepth 20000 in
set_option maxHeartbeats 2000000 in
theorem marked_ok (ks rs : List Nat) (n : Nat) (p : Option Addr) (c : Nat) (ps : Option Addr) (sc : Nat) (w : World) (hr : Rd w (.slice p ks.length c) (ks.map fun x : Nat => (x : Int))) (hs : 0 < ks.length → ∃ sb, ps = some ⟨sb, 0, none⟩ ∧ sb < w.heap.size ∧ ∀ i, i < n → w.cell? ⟨sb, i, none⟩ = some (.bool (decide (i ∈ rs)))) (hlt : ∀ k ∈ ks, k < n) (hl : ks.length ≤ 1048576) (hn : n ≤ 1048576) :
    Calls Tryd.prog 57 #[.slice p ks.length c, .slice ps n sc] w fun e w' => ∃ v, e = .returned v ∧ w'.ownsRow w.heap.size 3 1 v (ks.filter fun x => decide (x ∈ rs)).length ((ks.filter fun x => decide (x ∈ rs)).map I) ∧ Fr [] w w' := by
  obtain ⟨j0, ji, jz0, jz1, jz2⟩ := info_parts info3
  have HRd := mkHid hr
  have HS := mkHid hs
  have HLt := mkHid hlt
  clear hr hs hlt
  go_enter Tryd.func57, Tryd.ntmps57
  go_wp2_with fail
  go_loopw [5, 10] (fun v q wr => ∃ k : Nat, k ≤ ks.length ∧ q = .int .i64 k ∧ wr.ownsRow w.heap.size 3 1 v (markedTo ks rs k).length ((markedTo ks rs k).map I) ∧ Hid (Fr [] w wr)) (fun _ q _ => ks.length - (intOf q).toNat)
  case atStart => exact ⟨0, Nat.zero_le _, rfl, World.ownsRow_nil _ _ _ _, Fr.refl _ _⟩
  case round =>
    obtain ⟨k, hkn, rfl, hown, hfr⟩ := hrel
    by_cases hk : k < ks.length
    · have hz := hfr.out.size
      obtain ⟨p', c', ee, hrow⟩ := (HRd.out.idle hfr.out).at_
      rw [List.length_map] at ee hrow
      injection ee with ee _ eec
      subst ee
      subst eec
      obtain ⟨g, off, rfl, hgl, hc⟩ := hrow (by omega)
      have q0 := hc k hk
      have hm : ks.getD k 0 ∈ ks := by rw [List.getD_eq_getElem?_getD, List.getElem?_eq_getElem hk]; exact List.getElem_mem hk
      have e1 : (ks.map fun x : Nat => (x : Int)).getD k 0 = ((ks.getD k 0 : Nat) : Int) := by
        rw [List.getD_eq_getElem?_getD, List.getD_eq_getElem?_getD, List.getElem?_map, List.getElem?_eq_getElem hk]; rfl
      rw [e1] at q0
      obtain ⟨sb, rfl, hsl, hsc⟩ := HS.out (by omega)
      have q1 := (hfr.out.cell (p := ⟨sb, ks.getD k 0, none⟩) hsl (by simp)).trans (hsc _ (HLt.out _ hm))
      have hx := HLt.out _ hm
      have hsu := markedTo_succ ks rs k hk
      have hle := markedTo_len ks rs k
      have k1 : (0 : Int) ≤ (k : Int) := by omega
      have k2 : (k : Int) < (ks.length : Int) := by omega
      have HSU := mkHid hsu
      clear hsu hrow hc e1 hm hsc
      generalize ks.getD k 0 = z at *
      have k3 : (0 : Int) ≤ (z : Int) := by omega
      have k4 : (z : Int) < (n : Int) := by omega
      generalize hX : markedTo ks rs k = X at *
      clear hX
      by_cases hy : z ∈ rs
      · rw [decide_eq_true hy] at q1
        have HS2 := HSU.out
        rw [if_pos hy] at HS2
        have HS3 := mkHid HS2
        clear HS2 HSU hy
        have hown2 := hown.alloc (.cells #[.int .i64 (z : Int)] 3)
        have HFA : Hid (Fr [] w (wr.alloc (.cells #[.int .i64 (z : Int)] 3))) := hfr.out.trans (Fr.alloc [] _ _) (by simp)
        clear hown
        go_wp2_with (first
          | (at_builtin; refine wpList_append_own _ rfl (.tmp 18) (.tmp 20) 26 rfl w.heap.size 3 j0 (.int .i64 0) 1 8 Tryd.underlying26 ji jz0 jz1 jz2 rfl (by decide) _ _ _ rfl hown2 ⟨wr.heap.size, 0, none⟩ 1 1 [.int .i64 (z : Int)] rfl rfl ?c1 ?c2 ?c3 ?c4 ?c5 ?_)
          | go_in)
        case c2 => first | rfl | (intro u hu; simp at hu; subst hu; rfl)
        case c3 => unfold maxLen; omega
        case c4 => omega
        case c5 => first | omega | (simp; omega)
        intro v' w1 hown' hgrow _
        have HG : Hid (Fr [] w w1) := by
          refine ⟨hgrow.os.trans HFA.out.os, hgrow.tape.trans HFA.out.tape, hgrow.output.trans HFA.out.output, Nat.le_trans HFA.out.size hgrow.size, fun i hi hn => ?_⟩
          rw [hgrow.block i (Nat.lt_of_lt_of_le hi HFA.out.size) (fun e => ?_)]
          · exact HFA.out.block i hi hn
          · have := (hown2.lt i e.symm).1
            omega
        have HO := mkHid hown'
        clear hown' hgrow hown2 HFA
        go_wp2
        go_roundw
        case rel => exact ⟨k + 1, by omega, by go_num, by rw [HS3.out]; simpa [I] using HO.out, HG⟩
        case measure => simp [intOf]; omega
      · rw [decide_eq_false hy] at q1
        have HS2 := HSU.out
        rw [if_neg hy, List.append_nil] at HS2
        have HS3 := mkHid HS2
        have HO := mkHid hown
        clear HS2 HSU hy hown
        go_wp2
        go_roundw
        case rel => exact ⟨k + 1, by omega, by go_num, by rw [HS3.out]; exact HO.out, hfr⟩
        case measure => simp [intOf]; omega
    · have hke : k = ks.length := by omega
      subst hke
      unfold markedTo at hown
      rw [List.take_length] at hown
      have HO := mkHid hown
      clear hown
      go_wp2
      go_ret
      exact ⟨_, rfl, HO.out, hfr.out⟩
end Go.Proofs.YtpaekbghnejhoaaDoor
