import Derived.Test.YtcoddjdicodmhaaDoorKHRefM
import Derived.Test.YtcoddjdicodmhaaDoorKHLdR
import Derived.BigQuiet
import Derived.Deep.RegionHeld3
namespace Go.Proofs.YtcoddjdicodmhaaDoor
open Go.RowKit
set_option linter.unusedVariables false
attribute [local go_sem ↓] Go.wp_at_zero Go.wp_at_succ
set_option maxHeartbeats 1000000 in
theorem rRoom_nil (w : World) : Calls Tryd.prog 21 #[.pointer none] w fun e w' => e = .returned (.tuple #[.int .i64 0, .int .i64 0]) ∧ w' = w := by
  go_enter Tryd.func21, Tryd.ntmps21
  go_wp2_with fail
  go_ret2
  exact ⟨rfl, rfl⟩
set_option maxHeartbeats 1000000 in
theorem made_nil (w : World) : Calls Tryd.prog 44 #[.pointer none] w fun e w' => e = .returned (.bool false) ∧ w' = w := by
  go_enter Tryd.func44, Tryd.ntmps44
  go_wp2_with fail
  go_ret
  exact ⟨rfl, rfl⟩
set_option maxHeartbeats 1000000 in
theorem Room_nil (w : World) : Calls Tryd.prog 20 #[.pointer none] w fun e w' => e = .returned (.tuple #[.int .i64 0, .int .i64 0]) ∧ w' = w := by
  have HM := mkHid (made_nil w)
  go_enter Tryd.func20, Tryd.ntmps20
  go_wp2_with (go_at_call 44; refine Calls.mono HM.out ?_; rintro e w' ⟨rfl, hw'⟩; rw [hw']; clear hw' w')
  go_ret2
  exact ⟨rfl, rfl⟩
set_option maxHeartbeats 1000000 in
theorem rState_nil (w : World) : Calls Tryd.prog 24 #[.pointer none] w fun e w' => e = .returned (.agg #[.int .i64 0, .int .i64 0, .int .i64 0, .slice none 0 0]) ∧ Fr [] w w' := by
  go_enter Tryd.func24, Tryd.ntmps24
  go_wp2_with fail
  have hB0 : (w.alloc (.cells #[.int .i64 0, .int .i64 0, .int .i64 0, .slice none 0 0] 38)).heap[w.heap.size]? = some (.cells #[.int .i64 0, .int .i64 0, .int .i64 0, .slice none 0 0] 38 (0, 0)) := heap_alloc_new _ _
  have F0 : Fr [] w (w.alloc (.cells #[.int .i64 0, .int .i64 0, .int .i64 0, .slice none 0 0] 38)) := Fr.alloc [] _ _
  generalize w.alloc (.cells #[.int .i64 0, .int .i64 0, .int .i64 0, .slice none 0 0] 38) = V at *
  have x0 : V.cell? ⟨w.heap.size, 0, none⟩ = some (.int .i64 0) := by rw [cell_in hB0]; rfl
  have x1 : V.cell? ⟨w.heap.size, 1, none⟩ = some (.int .i64 0) := by rw [cell_in hB0]; rfl
  have x2 : V.cell? ⟨w.heap.size, 2, none⟩ = some (.int .i64 0) := by rw [cell_in hB0]; rfl
  have x3 : V.cell? ⟨w.heap.size, 3, none⟩ = some (.slice none 0 0) := by rw [cell_in hB0]; rfl
  refine bodyPost_ret (v := .agg #[.int .i64 0, .int .i64 0, .int .i64 0, .slice none 0 0]) (by simp [results, Tryd.results24, go_sem, x0, x1, x2, x3]) rfl ?_
  exact ⟨rfl, F0⟩
set_option maxHeartbeats 1000000 in
theorem State_nil (w : World) : Calls Tryd.prog 23 #[.pointer none] w fun e w' => e = .returned (.agg #[.int .i64 0, .int .i64 0, .int .i64 0, .slice none 0 0]) ∧ Fr [] w w' := by
  have HM := mkHid fun V => made_nil V
  go_enter Tryd.func23, Tryd.ntmps23
  go_wp2_with (go_at_call 44; refine Calls.mono (HM.out _) ?_; rintro e w' ⟨rfl, hw'⟩; rw [hw']; clear hw' w')
  have hB0 : (w.alloc (.cells #[.int .i64 0, .int .i64 0, .int .i64 0, .slice none 0 0] 38)).heap[w.heap.size]? = some (.cells #[.int .i64 0, .int .i64 0, .int .i64 0, .slice none 0 0] 38 (0, 0)) := heap_alloc_new _ _
  have F0 : Fr [] w (w.alloc (.cells #[.int .i64 0, .int .i64 0, .int .i64 0, .slice none 0 0] 38)) := Fr.alloc [] _ _
  generalize w.alloc (.cells #[.int .i64 0, .int .i64 0, .int .i64 0, .slice none 0 0] 38) = V at *
  have x0 : V.cell? ⟨w.heap.size, 0, none⟩ = some (.int .i64 0) := by rw [cell_in hB0]; rfl
  have x1 : V.cell? ⟨w.heap.size, 1, none⟩ = some (.int .i64 0) := by rw [cell_in hB0]; rfl
  have x2 : V.cell? ⟨w.heap.size, 2, none⟩ = some (.int .i64 0) := by rw [cell_in hB0]; rfl
  have x3 : V.cell? ⟨w.heap.size, 3, none⟩ = some (.slice none 0 0) := by rw [cell_in hB0]; rfl
  refine bodyPost_ret (v := .agg #[.int .i64 0, .int .i64 0, .int .i64 0, .slice none 0 0]) (by simp [results, Tryd.results23, go_sem, x0, x1, x2, x3]) rfl ?_
  exact ⟨rfl, F0⟩
/-- numbers that no state has -/
def argBad (x y z : Int) : Prop := x < 0 ∨ 1048576 < x ∨ y < 0 ∨ 65536 < y ∨ z < 0 ∨ 1073741824 < z
set_option maxHeartbeats 2000000 in
theorem rLoad_bad (x y z : Int) (ov : Value) (w : World) (hb : argBad x y z) : Calls Tryd.prog 18 #[.agg #[.int .i64 x, .int .i64 y, .int .i64 z, ov]] w fun e w' => e = .returned (.tuple #[.pointer none, .int .i64 1]) ∧ Fr [] w w' := by
  by_cases a0 : x < 0
  · go_enter Tryd.func18, Tryd.ntmps18
    go_wp2_with fail
    go_ret2
    exact ⟨rfl, Fr.alloc [] _ _⟩
  have a0 : 0 ≤ x := by omega
  by_cases a1 : 1048576 < x
  · go_enter Tryd.func18, Tryd.ntmps18
    go_wp2_with fail
    go_ret2
    exact ⟨rfl, Fr.alloc [] _ _⟩
  have a1 : x ≤ 1048576 := by omega
  by_cases a2 : y < 0
  · go_enter Tryd.func18, Tryd.ntmps18
    go_wp2_with fail
    go_ret2
    exact ⟨rfl, Fr.alloc [] _ _⟩
  have a2 : 0 ≤ y := by omega
  by_cases a3 : 65536 < y
  · go_enter Tryd.func18, Tryd.ntmps18
    go_wp2_with fail
    go_ret2
    exact ⟨rfl, Fr.alloc [] _ _⟩
  have a3 : y ≤ 65536 := by omega
  by_cases a4 : z < 0
  · go_enter Tryd.func18, Tryd.ntmps18
    go_wp2_with fail
    go_ret2
    exact ⟨rfl, Fr.alloc [] _ _⟩
  have a4 : 0 ≤ z := by omega
  have a5 : 1073741824 < z := by unfold argBad at hb; omega
  go_enter Tryd.func18, Tryd.ntmps18
  go_wp2_with fail
  go_ret2
  exact ⟨rfl, Fr.alloc [] _ _⟩
set_option maxHeartbeats 1000000 in
theorem New_bad (x y : Int) (w : World) (hb : x < 0 ∨ 1048576 < x ∨ y < 0 ∨ 65536 < y) : Calls Tryd.prog 10 #[.int .i64 x, .int .i64 y] w fun e w' => e = .returned (.tuple #[.pointer none, .int .i64 1]) ∧ w' = w := by
  by_cases a0 : x < 0
  · go_enter Tryd.func10, Tryd.ntmps10
    go_wp2_with fail
    go_ret2
    exact ⟨rfl, rfl⟩
  have a0 : 0 ≤ x := by omega
  by_cases a1 : 1048576 < x
  · go_enter Tryd.func10, Tryd.ntmps10
    go_wp2_with fail
    go_ret2
    exact ⟨rfl, rfl⟩
  have a1 : x ≤ 1048576 := by omega
  by_cases a2 : y < 0
  · go_enter Tryd.func10, Tryd.ntmps10
    go_wp2_with fail
    go_ret2
    exact ⟨rfl, rfl⟩
  have a2 : 0 ≤ y := by omega
  have a3 : 65536 < y := by omega
  go_enter Tryd.func10, Tryd.ntmps10
  go_wp2_with fail
  go_ret2
  exact ⟨rfl, rfl⟩
set_option maxHeartbeats 2000000 in
theorem Load_bad (x y z : Int) (ov : Value) (w : World) (hb : argBad x y z) : Calls Tryd.prog 17 #[.agg #[.int .i64 x, .int .i64 y, .int .i64 z, ov]] w fun e w' => e = .returned (.tuple #[.pointer none, .int .i64 1]) ∧ Fr [] w w' := by
  obtain ⟨W1, hW1⟩ : ∃ W1, W1 = w.alloc (.cells #[.int .i64 x, .int .i64 y, .int .i64 z, ov] 38) := ⟨_, rfl⟩
  have F1 : Hid (Fr [] w W1) := by rw [hW1]; exact Fr.alloc [] _ _
  have hb1 : W1.heap[w.heap.size]? = some (.cells #[.int .i64 x, .int .i64 y, .int .i64 z, ov] 38 (0, 0)) := by rw [hW1]; exact heap_alloc_new _ _
  by_cases hn : x < 0 ∨ 1048576 < x ∨ y < 0 ∨ 65536 < y
  · have HN := mkHid (New_bad x y W1 hn)
    clear hn hb hb1
    go_enter Tryd.func17, Tryd.ntmps17
    go_wp2_with fail
    rw [← hW1]
    clear hW1
    refine Calls.mono HN.out ?_
    rintro e w2 ⟨rfl, rfl⟩
    go_wp2_with fail
    go_ret2
    exact ⟨rfl, F1.out⟩
  · obtain ⟨xn, rfl⟩ : ∃ n : Nat, x = (n : Int) := ⟨x.toNat, by omega⟩
    obtain ⟨yn, rfl⟩ : ∃ n : Nat, y = (n : Int) := ⟨y.toNat, by omega⟩
    have hN := New_in xn yn W1 (by omega) (by omega)
    have HN := mkHid hN
    have HB1 := mkHid hb1
    have hmk := fun V => isMark_any z V
    rw [show isM z = false from by unfold isM; unfold argBad at hb; simp; omega] at hmk
    have HMk := mkHid hmk
    clear hn hb hN hmk hb1
    go_enter Tryd.func17, Tryd.ntmps17
    go_wp2_with fail
    rw [← hW1]
    clear hW1
    refine Calls.mono HN.out ?_
    rintro e w2 ⟨rfl, hr2, hf2, hs2⟩
    have hb2 := (hf2.block _ (lt_of_heap HB1.out) (by simp)).trans HB1.out
    have e2 : w2.cell? ⟨w.heap.size, 2, none⟩ = some (.int .i64 z) := by rw [cell_in hb2]; rfl
    have F2 : Hid (Fr [] w w2) := F1.out.trans hf2 (by simp)
    clear hr2 hf2 hs2 HN HB1 hb2
    go_wp2_with (go_at_call 45; refine Calls.mono (HMk.out _) ?_; rintro e w' ⟨rfl, hw'⟩; rw [hw']; clear hw' w')
    go_ret2
    exact ⟨rfl, F2.out⟩
end Go.Proofs.YtcoddjdicodmhaaDoor
namespace Go.Proofs.YtcoddjdicodmhaaDoor
open Go.RowKit
set_option linter.unusedVariables false
attribute [local go_sem ↓] Go.wp_at_zero Go.wp_at_succ
set_option maxRecDepth 20000 in
set_option maxHeartbeats 1000000 in
theorem rRoom_ok (B r : Nat) (R : RS) (w : World) (h : RRep w B r R) (ho : ROk R) (hw : (R.words : Int) ≤ 1048576) (hoo : (R.oops : Int) ≤ 65536) (he : (rEnd R.objs : Int) ≤ 1048576) :
    Calls Tryd.prog 21 #[.pointer (some ⟨r, 0, none⟩)] w fun e w' => e = .returned (.tuple #[.int .i64 ((R.words : Int) - (rEnd R.objs : Int)), .int .i64 ((R.oops : Int) - (R.objs.length : Int))]) ∧ Fr [] w w' := by
  obtain ⟨p, c, hov⟩ := h.ovIs
  have hl := ho.len
  have HR := mkHid h
  have KS : Hid (∀ W, Hid (Fr [] w W) → W.cell? ⟨r, 0, none⟩ = some (.int .i64 (R.words : Int)) ∧ W.cell? ⟨r, 1, none⟩ = some (.int .i64 (R.oops : Int)) ∧ W.cell? ⟨r, 5, none⟩ = some (.slice p R.objs.length c) ∧ Hid (Fr [] w W)) := by
    intro W hW
    have h2 := HR.out.idle hW.out
    exact ⟨by rw [h2.c]; rfl, by rw [h2.c]; rfl, by rw [h2.c, ← hov]; rfl, hW⟩
  have HEnd : Hid (∀ W, Hid (Fr [] w W) → Calls Tryd.prog 58 #[.pointer (some ⟨r, 0, none⟩)] W fun e w' => e = .returned (.int .i64 (rEnd R.objs : Nat)) ∧ Hid (Fr [] w w')) := by
    intro W hW
    refine Calls.mono (rend_any _ _ R W (HR.out.idle hW.out) ho) ?_
    rintro e w' ⟨rfl, hf⟩
    exact ⟨rfl, hW.out.trans hf (by simp)⟩
  have F0 : Hid (Fr [] w w) := Fr.refl _ _
  obtain ⟨c0, c1, c5, -⟩ := KS.out w F0
  generalize rEnd R.objs = EN at *
  have z1 : IntKind.i64.wrap ((R.words : Int) - (EN : Int)) = (R.words : Int) - (EN : Int) := by rw [iwrap]; unfold wrap64; omega
  have z2 : IntKind.i64.wrap ((R.oops : Int) - (R.objs.length : Int)) = (R.oops : Int) - (R.objs.length : Int) := by rw [iwrap]; unfold wrap64; omega
  clear h ho hov
  go_enter Tryd.func21, Tryd.ntmps21
  go_wp2_with fail
  go_region_held3 (fun w' => w'.cell? ⟨r, 0, none⟩ = some (.int .i64 (R.words : Int)) ∧ w'.cell? ⟨r, 1, none⟩ = some (.int .i64 (R.oops : Int)) ∧ w'.cell? ⟨r, 5, none⟩ = some (.slice p R.objs.length c) ∧ Hid (Fr [] w w')) (exact KS.out _ (by first | assumption | exact hid_drew (by assumption) | (go_split_ands; first | assumption | exact hid_drew (by assumption))))
    ((go_at_call 58; refine (HEnd.out _ (by first | assumption | exact hid_drew (by assumption) | (go_split_ands; first | assumption | exact hid_drew (by assumption)))).mono ?_; rintro e w' ⟨rfl, hf'⟩))
  have F3 : Hid (Fr [] w w') := by assumption
  go_wp2_with fail
  go_ret2
  exact ⟨rfl, F3.out⟩
end Go.Proofs.YtcoddjdicodmhaaDoor
