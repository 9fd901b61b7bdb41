import Derived.Test.YtheolmnjedbjmaaGreatDoorGD
import Derived.Test.YtheolmnjedbjmaaGreatDoorSPa
import Derived.Laws.ResultCell
import Derived.Test.YtheolmnjedbjmaaGreatDoorSW2
namespace Go.Proofs.YtheolmnjedbjmaaGreatDoor
open Go.RowKit
set_option linter.unusedVariables false
set_option linter.unusedSimpArgs false
attribute [local go_sem ↓] Go.wp_at_zero Go.wp_at_succ
def stepsC : Array Value := #[.int .i64 1, .string ⟨#[99, 108, 97, 115, 115]⟩, .int .i64 3, .bool true, .func (.func 94) #[] #[], .func (.func 95) #[] #[], .int .i64 2, .string ⟨#[109, 101, 116, 104, 111, 100]⟩, .int .i64 3, .bool false, .func (.func 96) #[] #[], .func (.func 97) #[] #[], .int .i64 3, .string ⟨#[114, 101, 109, 111, 118, 101]⟩, .int .i64 3, .bool false, .func (.func 98) #[] #[], .func (.func 99) #[] #[], .int .i64 4, .string ⟨#[103, 108, 111, 98, 97, 108]⟩, .int .i64 2, .bool false, .func (.func 100) #[] #[], .func (.func 101) #[] #[], .int .i64 5, .string ⟨#[115, 112, 97, 119, 110]⟩, .int .i64 2, .bool false, .func (.func 102) #[] #[], .func (.func 103) #[] #[], .int .i64 6, .string ⟨#[114, 117, 110]⟩, .int .i64 3, .bool false, .func (.func 104) #[] #[], .func (.func 105) #[] #[], .int .i64 7, .string ⟨#[114, 101, 115, 104, 97, 112, 101]⟩, .int .i64 2, .bool true, .func (.func 106) #[] #[], .func (.func 107) #[] #[], .int .i64 8, .string ⟨#[99, 111, 108, 108, 101, 99, 116]⟩, .int .i64 1, .bool false, .func (.func 108) #[] #[], .func (.func 109) #[] #[], .int .i64 9, .string ⟨#[105, 110, 115, 112, 101, 99, 116]⟩, .int .i64 1, .bool false, .func (.func 108) #[] #[], .func (.func 109) #[] #[], .int .i64 10, .string ⟨#[109, 97, 114, 107]⟩, .int .i64 2, .bool false, .func (.func 110) #[] #[], .func (.func 111) #[] #[], .int .i64 11, .string ⟨#[115, 97, 118, 101]⟩, .int .i64 1, .bool false, .func (.func 108) #[] #[], .func (.func 109) #[] #[], .int .i64 12, .string ⟨#[108, 111, 97, 100]⟩, .int .i64 2, .bool false, .func (.func 102) #[] #[], .func (.func 103) #[] #[]]
set_option maxRecDepth 100000 in
set_option maxHeartbeats 4000000 in
theorem steps_ok (W : World) : Calls Tryz.prog 80 #[] W fun e w' => e = .returned (.slice (some ⟨W.heap.size, 0, none⟩) 12 12) ∧ w' = W.alloc (.cells stepsC 92) := by
  go_enter Tryz.func80, Tryz.ntmps80
  go_wp2_with fail
  go_ret
  exact ⟨rfl, rfl⟩
end Go.Proofs.YtheolmnjedbjmaaGreatDoor

namespace Go.Proofs.YtheolmnjedbjmaaGreatDoor
open Go.RowKit
set_option linter.unusedVariables false
set_option linter.unusedSimpArgs false
attribute [local go_sem ↓] Go.wp_at_zero Go.wp_at_succ
theorem results_ct {P : Program} {fn : Func} {p u : Tmp} {ty : TypeId} (h : fn.results = #[.cell p ty, .tmp u]) (tmps : Array Value) (w : World) (g : Nat) (t : TypeId) (cs : Array Value) (fr : Nat × Nat) (d : TypeDesc)
    (hp : tmps.getD p undef = .pointer (some ⟨g, 0, none⟩)) (hg : w.heap[g]? = some (.cells cs t fr))
    (hu : P.underlying ty = some d) (hd : (match d with | .struct _ | .array _ _ => true | _ => false) = true) (hi : (P.info? ty).map (·.size) = some cs.size) :
    (results fn tmps).run P w = .ok (.tuple #[.agg cs, tmps.getD u undef]) w := by
  rw [results_cell_tmp h, hp]
  simp [asAddr, Result.andThen, run_loadVar_row w g t ty cs fr d hg hu hd hi]
theorem results_tc {P : Program} {fn : Func} {p u : Tmp} {ty : TypeId} (h : fn.results = #[.tmp u, .cell p ty]) (tmps : Array Value) (w : World) (g : Nat) (t : TypeId) (cs : Array Value) (fr : Nat × Nat) (d : TypeDesc)
    (hp : tmps.getD p undef = .pointer (some ⟨g, 0, none⟩)) (hg : w.heap[g]? = some (.cells cs t fr))
    (hu : P.underlying ty = some d) (hd : (match d with | .struct _ | .array _ _ => true | _ => false) = true) (hi : (P.info? ty).map (·.size) = some cs.size) :
    (results fn tmps).run P w = .ok (.tuple #[tmps.getD u undef, .agg cs]) w := by
  have hp' : tmps[p]?.getD undef = .pointer (some ⟨g, 0, none⟩) := by simpa using hp
  simp only [results, h]
  simp [Sem.run_bind, Result.andThen, hp', asAddr, run_loadVar_row w g t ty cs fr d hg hu hd hi]
theorem bl_setRow {W w : World} (h : Bl W w) (g : Nat) (cs : Array Value) (hg : W.heap.size ≤ g) : Bl W (w.setRow g cs) := by
  refine ⟨h.os, h.tape, h.output, ?_, fun k hk => ?_⟩
  · have : (w.setRow g cs).heap.size = w.heap.size := by simp [World.setRow]
    rw [this]; exact h.size
  · rw [setRow_other w g k cs (by omega)]
    exact h.block k hk
abbrev step0 : Array Value := #[.int .i64 0, .string ⟨#[]⟩, .int .i64 0, .bool false, .nilFunc, .nilFunc]
def sF : Nat → Nat | 1 => 94 | 2 => 96 | 3 => 98 | 4 => 100 | 5 => 102 | 6 => 104 | 7 => 106 | 8 => 108 | 9 => 108 | 10 => 110 | 11 => 108 | 12 => 102 | _ => 0
def sC : Nat → Int | 1 => 3 | 2 => 3 | 3 => 3 | 4 => 2 | 5 => 2 | 6 => 3 | 7 => 2 | 8 => 1 | 9 => 1 | 10 => 2 | 11 => 1 | 12 => 2 | _ => 0
def sM : Nat → Bool | 1 => true | 7 => true | _ => false
def stepA (k : Int) (s : ByteArray) (c : Int) (m : Bool) (f g : Nat) : Array Value := #[.int .i64 k, .string s, .int .i64 c, .bool m, .func (.func f) #[] #[], .func (.func g) #[] #[]]
theorem step_all (k : Int) (s : ByteArray) (c : Int) (m : Bool) (f g : Nat) : (stepA k s c m f g).all (·.oneCell') = true := by
  unfold stepA
  simp [Value.oneCell']
theorem step0_all : step0.all (·.oneCell') = true := by
  unfold step0
  simp [Value.oneCell']
def stepV (k : Nat) : Array Value := stepA (k : Int) (ba (wdK k)) (sC k) (sM k) (sF k) (sF k + 1)
theorem step_at : ∀ j, j < 12 → stepsC[j * 6]? = some (.int .i64 ((j : Int) + 1)) ∧ stepsC[j * 6 + 1]? = some (.string (ba (wdK (j + 1)))) ∧ stepsC[j * 6 + 2]? = some (.int .i64 (sC (j + 1))) ∧ stepsC[j * 6 + 3]? = some (.bool (sM (j + 1))) ∧ stepsC[j * 6 + 4]? = some (.func (.func (sF (j + 1))) #[] #[]) ∧ stepsC[j * 6 + 5]? = some (.func (.func (sF (j + 1) + 1)) #[] #[]) := by
  intro j hj
  have h : j = 0 ∨ j = 1 ∨ j = 2 ∨ j = 3 ∨ j = 4 ∨ j = 5 ∨ j = 6 ∨ j = 7 ∨ j = 8 ∨ j = 9 ∨ j = 10 ∨ j = 11 := by omega
  rcases h with rfl | rfl | rfl | rfl | rfl | rfl | rfl | rfl | rfl | rfl | rfl | rfl
  all_goals exact ⟨rfl, rfl, rfl, rfl, rfl, rfl⟩
set_option maxRecDepth 100000 in
set_option maxHeartbeats 2000000 in
theorem step1_ok (W : World) (kb : Nat) (k k1 : Int) (s : ByteArray) (c : Int) (m : Bool) (f g : Nat) (hk : W.cell? ⟨kb, 0, none⟩ = some (.int .i64 k)) (hkb : kb < W.heap.size) : Calls Tryz.prog 66 #[.agg (stepA k1 s c m f g), .pointer (some ⟨kb, 0, none⟩)] W fun e w' => e = .returned (.bool (decide (k1 = k))) ∧ Bl W w' := by
  unfold stepA
  have HB : Hid (Bl W (W.alloc (.cells #[.int .i64 k1, .string s, .int .i64 c, .bool m, .func (.func f) #[] #[], .func (.func g) #[] #[]] 92))) := Bl.alloc W _
  have hk2 : (W.alloc (.cells #[.int .i64 k1, .string s, .int .i64 c, .bool m, .func (.func f) #[] #[], .func (.func g) #[] #[]] 92)).cell? ⟨kb, 0, none⟩ = some (.int .i64 k) := by rw [World.cell?_of_block (w := W) (HB.out.block kb hkb)]; exact hk
  by_cases h : k1 = k
  · subst h
    go_enter Tryz.func66, Tryz.ntmps66
    go_wp2_with fail
    go_ret
    exact ⟨by simp, HB.out⟩
  · go_enter Tryz.func66, Tryz.ntmps66
    go_wp2_with fail
    go_ret
    exact ⟨by simp [h], HB.out⟩
/-- the world ahead of the search -/
structure Fs (W w1 : World) : Prop where
  bl : Bl W w1
  res : w1.heap[W.heap.size]? = some (.cells step0 92 (0, 0))
  all : w1.heap[W.heap.size + 1]? = some (.cells stepsC 92 (0, 0))
structure Bx5 (wr W3 : World) (cs : Array Value) : Prop where
  bl : Bl wr W3
  box : W3.heap[wr.heap.size]? = some (.cells cs 92 (0, 0))
set_option maxRecDepth 100000 in
set_option maxHeartbeats 4000000 in
theorem first_ok (W : World) (kb : Nat) (k : Int) (hk : W.cell? ⟨kb, 0, none⟩ = some (.int .i64 k)) (hkb : kb < W.heap.size) : Calls Tryz.prog 65 #[.func (.func 66) #[] #[.pointer (some ⟨kb, 0, none⟩)]] W fun e w' => (∃ cs, e = .returned (.tuple #[.agg cs, .bool (decide (1 ≤ k ∧ k ≤ 12))]) ∧ cs.size = 6 ∧ cs.all (·.oneCell') = true ∧ (1 ≤ k ∧ k ≤ 12 → cs = stepV k.toNat)) ∧ Bl W w' := by
  have HST : Hid (Calls Tryz.prog 80 #[] (W.alloc (.cells step0 92)) fun e w' => e = .returned (.slice (some ⟨W.heap.size + 1, 0, none⟩) 12 12) ∧ Hid (Fs W w')) := (steps_ok (W.alloc (.cells step0 92))).mono (by
    rintro e w' ⟨rfl, rfl⟩
    have hz : (W.alloc (.cells step0 92)).heap.size = W.heap.size + 1 := by simp
    refine ⟨by rw [hz], (Bl.alloc W _).trans (Bl.alloc _ _), (Below.heap_alloc _ _ _ (by simp)).trans (heap_alloc_new W _), ?_⟩
    rw [← hz]
    exact heap_alloc_new _ _)
  go_enter Tryz.func65, Tryz.ntmps65
  go_wp2_with (go_at_call 80; refine HST.out.mono ?_; rintro e w1 ⟨rfl, hS⟩)
  clear HST
  go_loopw [8] (fun x wr => ∃ j : Nat, j ≤ 12 ∧ x = .int .i64 (j : Int) ∧ Hid ((∀ i : Nat, i < j → k ≠ ((i : Int) + 1)) ∧ Bl w1 wr)) (fun x _ => 12 - (intOf x).toNat)
  case atStart => exact ⟨0, Nat.zero_le _, rfl, fun i hi => by omega, Bl.refl _⟩
  case round =>
    obtain ⟨j, hj, rfl, hst⟩ := hrel
    have j0 : (0 : Int) ≤ (j : Int) := by omega
    by_cases hlt : j < 12
    · have j1 : (j : Int) < 12 := by omega
      have hall := (hst.out.2.block _ (lt_of_heap hS.out.all)).trans hS.out.all
      obtain ⟨q0, q1, q2, q3, q4, q5⟩ := step_at j hlt
      have c0 := lit_in hall _ _ q0
      have c1 := lit_in hall _ _ q1
      have c2 := lit_in hall _ _ q2
      have c3 := lit_in hall _ _ q3
      have c4 := lit_in hall _ _ q4
      have c5 := lit_in hall _ _ q5
      obtain ⟨W3, hW3⟩ : ∃ X, (wr.alloc (.cells step0 92)).setRow wr.heap.size (stepA ((j : Int) + 1) (ba (wdK (j + 1))) (sC (j + 1)) (sM (j + 1)) (sF (j + 1)) (sF (j + 1) + 1)) = X := ⟨_, rfl⟩
      have HB3 : Hid (Bx5 wr W3 (stepV (j + 1))) := by
        subst hW3
        exact ⟨bl_setRow (Bl.alloc wr _) _ _ (Nat.le_refl _), setRow_heap _ _ _ _ _ _ (heap_alloc_new wr _)⟩
      have hk3 : W3.cell? ⟨kb, 0, none⟩ = some (.int .i64 k) := by
        rw [World.cell?_of_block (w := W) (((hS.out.bl.trans hst.out.2).trans HB3.out.bl).block kb hkb)]
        exact hk
      have HC := mkHid (step1_ok W3 kb k ((j : Int) + 1) (ba (wdK (j + 1))) (sC (j + 1)) (sM (j + 1)) (sF (j + 1)) (sF (j + 1) + 1) hk3 (by
        have h1 := hS.out.bl.size
        have h2 := hst.out.2.size
        have h3 := HB3.out.bl.size
        omega))
      have b0 := cell_in HB3.out.box 0
      have b1 := cell_in HB3.out.box 1
      have b2 := cell_in HB3.out.box 2
      have b3 := cell_in HB3.out.box 3
      have b4 := cell_in HB3.out.box 4
      have b5 := cell_in HB3.out.box 5
      simp [stepV, stepA] at b0 b1 b2 b3 b4 b5
      clear q0 q1 q2 q3 q4 q5 hall
      have HX : Hid (∀ V, Bl W3 V → V.cell? ⟨wr.heap.size, 0, none⟩ = some (.int .i64 ((j : Int) + 1)) ∧ V.cell? ⟨wr.heap.size, 1, none⟩ = some (.string (ba (wdK (j + 1)))) ∧ V.cell? ⟨wr.heap.size, 2, none⟩ = some (.int .i64 (sC (j + 1))) ∧ V.cell? ⟨wr.heap.size, 3, none⟩ = some (.bool (sM (j + 1))) ∧ V.cell? ⟨wr.heap.size, 4, none⟩ = some (.func (.func (sF (j + 1))) #[] #[]) ∧ V.cell? ⟨wr.heap.size, 5, none⟩ = some (.func (.func (sF (j + 1) + 1)) #[] #[]) ∧ Hid (V.heap[W.heap.size]? = some (.cells step0 92 (0, 0))) ∧ ∃ W6, V.setRow W.heap.size (stepA ((j : Int) + 1) (ba (wdK (j + 1))) (sC (j + 1)) (sM (j + 1)) (sF (j + 1)) (sF (j + 1) + 1)) = W6 ∧ Hid (W6.heap[W.heap.size]? = some (.cells (stepA ((j : Int) + 1) (ba (wdK (j + 1))) (sC (j + 1)) (sM (j + 1)) (sF (j + 1)) (sF (j + 1) + 1)) 92 (0, 0)) ∧ Bl W W6)) := fun V hV => by
        have hb := (hV.block _ (lt_of_heap HB3.out.box)).trans HB3.out.box
        have hr := (((hst.out.2.trans HB3.out.bl).trans hV).block _ (lt_of_heap hS.out.res)).trans hS.out.res
        exact ⟨lit_in hb 0 _ rfl, lit_in hb 1 _ rfl, lit_in hb 2 _ rfl, lit_in hb 3 _ rfl, lit_in hb 4 _ rfl, lit_in hb 5 _ rfl, hr, _, rfl, setRow_heap _ _ _ _ _ _ hr, bl_setRow (((hS.out.bl.trans hst.out.2).trans HB3.out.bl).trans hV) _ _ (Nat.le_refl _)⟩
      have HN := mkHid hst.out.1
      have HBW := mkHid (hst.out.2.trans HB3.out.bl)
      clear hst HB3 hk3
      by_cases hkj : ((j : Int) + 1) = k
      · have HD : Hid (decide (((j : Int) + 1) = k) = true) := decide_eq_true hkj
        rw [HD.out] at HC
        have HE : Hid (∃ cs : Array Value, (Ending.returned (.tuple #[.agg (stepA ((j : Int) + 1) (ba (wdK (j + 1))) (sC (j + 1)) (sM (j + 1)) (sF (j + 1)) (sF (j + 1) + 1)), .bool true])) = .returned (.tuple #[.agg cs, .bool (decide (1 ≤ k ∧ k ≤ 12))]) ∧ cs.size = 6 ∧ cs.all (·.oneCell') = true ∧ (1 ≤ k ∧ k ≤ 12 → cs = stepV k.toNat)) := by
          have hin : 1 ≤ k ∧ k ≤ 12 := by omega
          have hnat : k.toNat = j + 1 := by omega
          exact ⟨_, by rw [decide_eq_true hin], rfl, step_all _ _ _ _ _ _, fun _ => by rw [hnat]; rfl⟩
        clear hkj
        go_wp2_with (first
          | (refine wpList_store_row rfl 92 _ _ rfl wr.heap.size (stepA ((j : Int) + 1) (ba (wdK (j + 1))) (sC (j + 1)) (sM (j + 1)) (sF (j + 1)) (sF (j + 1) + 1)) rfl rfl 92 _ (heap_alloc_new wr _) (by kernel_rfl) rfl (step_all _ _ _ _ _ _) ?_; rw [hW3])
          | (go_at_call 66; refine HC.out.mono ?_; rintro e w5 ⟨rfl, hb5⟩; obtain ⟨a0, a1, a2, a3, a4, a5, hr5, W6, hW6, H6⟩ := HX.out _ hb5; clear hb5 b0 b1 b2 b3 b4 b5)
          | (refine wpList_store_row rfl 92 _ _ rfl W.heap.size (stepA ((j : Int) + 1) (ba (wdK (j + 1))) (sC (j + 1)) (sM (j + 1)) (sF (j + 1)) (sF (j + 1) + 1)) rfl rfl 92 _ hr5.out (by kernel_rfl) rfl (step_all _ _ _ _ _ _) ?_; rw [hW6]))
        refine bodyPost_ret (v := .tuple #[.agg (stepA ((j : Int) + 1) (ba (wdK (j + 1))) (sC (j + 1)) (sM (j + 1)) (sF (j + 1)) (sF (j + 1) + 1)), .bool true]) (results_ct Tryz.results65 _ _ W.heap.size 92 _ (0, 0) _ rfl H6.out.1 Tryz.underlying92 rfl (by kernel_rfl)) rfl ?_
        exact ⟨HE.out, H6.out.2⟩
      · have HD : Hid (decide (((j : Int) + 1) = k) = false) := decide_eq_false hkj
        rw [HD.out] at HC
        have HN2 : Hid (∀ i : Nat, i < j + 1 → k ≠ ((i : Int) + 1)) := fun i hi => by
          rcases Nat.lt_or_ge i j with h | h
          · exact HN.out i h
          · have : i = j := by omega
            subst this
            exact fun e => hkj e.symm
        clear hkj HX
        go_wp2_with (first
          | (refine wpList_store_row rfl 92 _ _ rfl wr.heap.size (stepA ((j : Int) + 1) (ba (wdK (j + 1))) (sC (j + 1)) (sM (j + 1)) (sF (j + 1)) (sF (j + 1) + 1)) rfl rfl 92 _ (heap_alloc_new wr _) (by kernel_rfl) rfl (step_all _ _ _ _ _ _) ?_; rw [hW3])
          | (go_at_call 66; refine HC.out.mono ?_; rintro e w5 ⟨rfl, hb5⟩; have HB5 := mkHid (HBW.out.trans hb5); clear hb5))
        go_roundw
        case rel => exact ⟨j + 1, by omega, by go_num, HN2.out, HB5.out⟩
        case measure => simp [intOf]; omega
    · have hie : j = 12 := by omega
      subst hie
      have hr := (hst.out.2.block _ (lt_of_heap hS.out.res)).trans hS.out.res
      obtain ⟨W6, hW6⟩ : ∃ X, wr.setRow W.heap.size step0 = X := ⟨_, rfl⟩
      have H6 : Hid (W6.heap[W.heap.size]? = some (.cells step0 92 (0, 0)) ∧ Bl W W6) := by
        subst hW6
        exact ⟨setRow_heap _ _ _ _ _ _ hr, bl_setRow (hS.out.bl.trans hst.out.2) _ _ (Nat.le_refl _)⟩
      have HR := mkHid hr
      have HE : Hid (∃ cs : Array Value, (Ending.returned (.tuple #[.agg step0, .bool false])) = .returned (.tuple #[.agg cs, .bool (decide (1 ≤ k ∧ k ≤ 12))]) ∧ cs.size = 6 ∧ cs.all (·.oneCell') = true ∧ (1 ≤ k ∧ k ≤ 12 → cs = stepV k.toNat)) := by
        have hin : ¬ (1 ≤ k ∧ k ≤ 12) := fun h => hst.out.1 (k.toNat - 1) (by omega) (by omega)
        exact ⟨_, by rw [decide_eq_false hin], rfl, step0_all, fun h => absurd h hin⟩
      clear hr hst
      go_wp2_with (refine wpList_store_row rfl 92 _ _ rfl W.heap.size step0 rfl rfl 92 _ HR.out (by kernel_rfl) rfl step0_all ?_; rw [hW6])
      refine bodyPost_ret (v := .tuple #[.agg step0, .bool false]) (results_ct Tryz.results65 _ _ W.heap.size 92 _ (0, 0) _ rfl H6.out.1 Tryz.underlying92 rfl (by kernel_rfl)) rfl ?_
      exact ⟨HE.out, H6.out.2⟩
end Go.Proofs.YtheolmnjedbjmaaGreatDoor

namespace Go.Proofs.YtheolmnjedbjmaaGreatDoor
open Go.RowKit
set_option linter.unusedVariables false
set_option linter.unusedSimpArgs false
attribute [local go_sem ↓] Go.wp_at_zero Go.wp_at_succ
theorem size65 : (Tryz.prog.info? 92).map (·.size) = some 6 := by kernel_rfl
set_option maxRecDepth 100000 in
set_option maxHeartbeats 4000000 in
theorem stepOf_ok (W : World) (k : Int) : Calls Tryz.prog 43 #[.int .i64 k] W fun e w' => (∃ cs, e = .returned (.tuple #[.agg cs, .bool (decide (1 ≤ k ∧ k ≤ 12))]) ∧ cs.size = 6 ∧ cs.all (·.oneCell') = true ∧ (1 ≤ k ∧ k ≤ 12 → cs = stepV k.toNat)) ∧ Bl W w' := by
  have hmf : ∀ (fn : Fn) (first cap : Array Value) (w : World), (Instr.makeFunc fn first cap).run Tryz.prog w = .ok (.func fn first cap) w := fun _ _ _ _ => rfl
  have hz : (W.alloc (.cells #[.int .i64 k] 3)).heap.size = W.heap.size + 1 := by simp
  have HF : Hid (Calls Tryz.prog 65 #[.func (.func 66) #[] #[.pointer (some ⟨W.heap.size, 0, none⟩)]] ((W.alloc (.cells #[.int .i64 k] 3)).alloc (.cells step0 92)) fun e w' => ∃ cs, e = .returned (.tuple #[.agg cs, .bool (decide (1 ≤ k ∧ k ≤ 12))]) ∧ Hid (cs.size = 6 ∧ cs.all (·.oneCell') = true ∧ (1 ≤ k ∧ k ≤ 12 → cs = stepV k.toNat)) ∧ Hid (w'.heap[W.heap.size + 1]? = some (.cells step0 92 (0, 0))) ∧ ∃ W6, w'.setRow (W.heap.size + 1) cs = W6 ∧ Hid (W6.heap[W.heap.size + 1]? = some (.cells cs 92 (0, 0)) ∧ Bl W W6)) := by
    have h0 : ((W.alloc (.cells #[.int .i64 k] 3)).alloc (.cells step0 92)).heap[W.heap.size]? = some (.cells #[.int .i64 k] 3 (0, 0)) := (Below.heap_alloc _ _ _ (by simp)).trans (heap_alloc_new W _)
    have h1 : ((W.alloc (.cells #[.int .i64 k] 3)).alloc (.cells step0 92)).heap[W.heap.size + 1]? = some (.cells step0 92 (0, 0)) := by
      rw [← hz]
      exact heap_alloc_new _ _
    refine (first_ok _ W.heap.size k (cell_in h0 0) (lt_of_heap h0)).mono ?_
    rintro e w' ⟨⟨cs, he, hc⟩, hb⟩
    have h2 := (hb.block _ (lt_of_heap h1)).trans h1
    exact ⟨cs, he, hc, h2, _, rfl, setRow_heap _ _ _ _ _ _ h2, bl_setRow (((Bl.alloc W _).trans (Bl.alloc _ _)).trans hb) _ _ (by omega)⟩
  generalize decide (1 ≤ k ∧ k ≤ 12) = b at *
  go_enter Tryz.func43, Tryz.ntmps43
  go_wp2_with (first
    | (go_at_call 65; refine HF.out.mono ?_; rintro e w5 ⟨cs, rfl, hcs, hr5, W6, hW6, H6⟩)
    | (refine wpList_store_row rfl 92 _ _ rfl (W.heap.size + 1) cs rfl rfl 92 _ hr5.out (by rw [hcs.out.1]; exact size65) (by rw [hcs.out.1]; rfl) hcs.out.2.1 ?_; rw [hW6]))
  refine bodyPost_ret (v := .tuple #[.agg cs, .bool b]) (results_ct Tryz.results43 _ _ (W.heap.size + 1) 92 _ (0, 0) _ rfl H6.out.1 Tryz.underlying92 rfl (by rw [hcs.out.1]; exact size65)) rfl ?_
  exact ⟨⟨cs, rfl, hcs.out⟩, H6.out.2⟩
end Go.Proofs.YtheolmnjedbjmaaGreatDoor

namespace Go.Proofs.YtheolmnjedbjmaaGreatDoor
open Go.RowKit
set_option linter.unusedVariables false
set_option linter.unusedSimpArgs false
attribute [local go_sem ↓] Go.wp_at_zero Go.wp_at_succ
/-- an act's cells -/
def akC (a : AK) (p : Option Addr) (c : Nat) : Array Value := #[.int .i64 a.kind, .string a.name, .string a.other, .slice p a.names.length c, .string a.text, .int .i64 a.num, .int .i64 a.fuel]
/-- sizes of an act's fields -/
structure Ak1 (a : AK) : Prop where
  name : a.name.size ≤ 2305843009213693952
  other : a.other.size ≤ 2305843009213693952
  text : a.text.size ≤ 2305843009213693952
  names : ∀ s ∈ a.names, s.size ≤ 2305843009213693952
  len : a.names.length ≤ 2305843009213693952
  num : -9223372036854775808 ≤ a.num ∧ a.num ≤ 9223372036854775807
  fuel : -9223372036854775808 ≤ a.fuel ∧ a.fuel ≤ 9223372036854775807
theorem sF_enters (k : Int) (h : 1 ≤ k ∧ k ≤ 12) : ∀ args w, (callFunc (sF k.toNat) args).run Tryz.prog w = .ok (.enter (sF k.toNat) args) w := by
  rcases kinds h with rfl | rfl | rfl | rfl | rfl | rfl | rfl | rfl | rfl | rfl | rfl | rfl
  · exact enters_of Tryz.func94 (by kernel_rfl) rfl
  · exact enters_of Tryz.func96 (by kernel_rfl) rfl
  · exact enters_of Tryz.func98 (by kernel_rfl) rfl
  · exact enters_of Tryz.func100 (by kernel_rfl) rfl
  · exact enters_of Tryz.func102 (by kernel_rfl) rfl
  · exact enters_of Tryz.func104 (by kernel_rfl) rfl
  · exact enters_of Tryz.func106 (by kernel_rfl) rfl
  · exact enters_of Tryz.func108 (by kernel_rfl) rfl
  · exact enters_of Tryz.func108 (by kernel_rfl) rfl
  · exact enters_of Tryz.func110 (by kernel_rfl) rfl
  · exact enters_of Tryz.func108 (by kernel_rfl) rfl
  · exact enters_of Tryz.func102 (by kernel_rfl) rfl
theorem write_ok {W w1 : World} {B wb fb : Nat} {p : Option Addr} {c : Nat} (a : AK) (hk : 1 ≤ a.kind ∧ a.kind ≤ 12) (ha : Ak1 a) (h : Sj W w1 B wb fb (akC a p c) 40 (false, wdK a.kind.toNat)) (hBw : B ≤ wb) (hBf : B ≤ fb) (hne : wb ≠ fb) (hc : ∀ U, Wf B [wb, fb] W U → Rs U p a.names) :
    Calls Tryz.prog (sF a.kind.toNat) #[.pointer (some ⟨wb, 0, none⟩), .pointer (some ⟨fb, 0, none⟩)] w1 fun e w' => (∃ u, e = .returned u) ∧ ∃ p' c', Sj W w' B wb fb (akC (restK a) p' c') 40 (stK a) := by
  have hcs : ∀ k, (wdK k).length ≤ 1000000 := fun k => by
    unfold wdK
    split <;> simp
  obtain ⟨k, n, o, l, t, x, y⟩ := a
  obtain ⟨h1, h2, h3, h4, h5, h6, h7⟩ := ha
  simp only [akC] at *
  rcases kinds hk with rfl | rfl | rfl | rfl | rfl | rfl | rfl | rfl | rfl | rfl | rfl | rfl
  · refine (classW_ok h hBw hBf hne (Nat.le_trans (hcs 1) (by omega)) n rfl h1 o rfl h2 l p c rfl h5 h4 hc).mono ?_
    rintro e w' ⟨he, hS⟩
    exact ⟨he, none, 0, hS⟩
  · refine (methodW_ok h hBw hBf hne (Nat.le_trans (hcs 2) (by omega)) n rfl h1 t rfl h3).mono ?_
    rintro e w' ⟨he, hS⟩
    exact ⟨he, p, c, hS⟩
  · refine (removeW_ok h hBw hBf hne (Nat.le_trans (hcs 3) (by omega)) n rfl h1 o rfl h2).mono ?_
    rintro e w' ⟨he, hS⟩
    exact ⟨he, p, c, hS⟩
  · refine (nameW_ok h hBw hBf hne (Nat.le_trans (hcs 4) (by omega)) n rfl h1).mono ?_
    rintro e w' ⟨he, hS⟩
    exact ⟨he, p, c, hS⟩
  · refine (textW_ok h hBw hBf hne (Nat.le_trans (hcs 5) (by omega)) t rfl h3).mono ?_
    rintro e w' ⟨he, hS⟩
    exact ⟨he, p, c, hS⟩
  · refine (runW_ok h hBw hBf hne (Nat.le_trans (hcs 6) (by omega)) x rfl h6 y rfl h7).mono ?_
    rintro e w' ⟨he, hS⟩
    exact ⟨he, p, c, hS⟩
  · refine (reshapeW_ok h hBw hBf hne (Nat.le_trans (hcs 7) (by omega)) n rfl h1 l p c rfl h5 h4 hc).mono ?_
    rintro e w' ⟨he, hS⟩
    exact ⟨he, none, 0, hS⟩
  · refine (noW_ok w1 _ _).mono ?_
    rintro e w' ⟨he, rfl⟩
    exact ⟨he, p, c, h⟩
  · refine (noW_ok w1 _ _).mono ?_
    rintro e w' ⟨he, rfl⟩
    exact ⟨he, p, c, h⟩
  · refine (numW_ok h hBw hBf hne (Nat.le_trans (hcs 10) (by omega)) x rfl h6).mono ?_
    rintro e w' ⟨he, hS⟩
    exact ⟨he, p, c, hS⟩
  · refine (noW_ok w1 _ _).mono ?_
    rintro e w' ⟨he, rfl⟩
    exact ⟨he, p, c, h⟩
  · refine (textW_ok h hBw hBf hne (Nat.le_trans (hcs 12) (by omega)) t rfl h3).mono ?_
    rintro e w' ⟨he, hS⟩
    exact ⟨he, p, c, hS⟩
end Go.Proofs.YtheolmnjedbjmaaGreatDoor

