import Derived.Test.YtklfnjlenbgmoaaDoorPG37HPs3
set_option linter.unusedSimpArgs false
set_option linter.unusedVariables false
namespace Go.Proofs.YtklfnjlenbgmoaaDoor
open Go.RowKit Go.Maps
attribute [local go_sem ↓] Go.wp_at_zero Go.wp_at_succ
set_option maxRecDepth 20000 in
set_option maxHeartbeats 4000000 in
theorem lw_mark (O A B C X : Int) (ls : Value) (n t : Nat) (x : Wl) (w : World) (h : WOk w n t x) (ht : t ≤ 1) (hn : n ≤ 10000000) :
  Calls Tryd.prog 39 #[.pointer (some ⟨x.b, 0, none⟩), stepV 2 O A B C X ls] w fun e w' => e = .returned (.bool true) ∧ StepTo w n x w' := by
 obtain ⟨r, s, a, e1, e2, e3, ha, e4, e5⟩ := hand_num O
 obtain ⟨y, hyb, hy, hgo⟩ := take_hand h ht a ha
 have HSt : Hid (∀ w', StepTo w n y w' → StepTo w n x w') := fun w' ⟨x', t', q1, q2, q3, q4⟩ => ⟨x', t', q1, q2.trans hyb, q3, hgo.trans q4⟩
 rw [← hyb]
 have F0 : Fr [] w (w.alloc (.cells #[.int .i64 2, .int .i64 O, .int .i64 A, .int .i64 B, .int .i64 C, .int .i64 X, ls] 58)) := Fr.alloc [] _ _
 have HF0 := mkHid F0
 have HY : Hid (WOk (w.alloc (.cells #[.int .i64 2, .int .i64 O, .int .i64 A, .int .i64 B, .int .i64 C, .int .i64 X, ls] 58)) n a y) := hy.idle F0
 have HBl : Hid (∀ V Y, Fr Y (w.alloc (.cells #[.int .i64 2, .int .i64 O, .int .i64 A, .int .i64 B, .int .i64 C, .int .i64 X, ls] 58)) V → (∀ g ∈ Y, g < w.heap.size) → V.heap[w.heap.size]? = some (.cells #[.int .i64 2, .int .i64 O, .int .i64 A, .int .i64 B, .int .i64 C, .int .i64 X, ls] 58 (0, 0))) := fun V Y hV hX => (hV.block w.heap.size (by simp) (fun hm => by have := hX _ hm; omega)).trans (heap_alloc_new w _)
 have HLt : Hid (∀ g, Liv y g → g < w.heap.size) := fun g hg => hy.lt hg
 obtain ⟨c0, c1⟩ := cells_of HY.out ha a ha
 have eA : y.at a a = y.dA := if_pos rfl
 rw [eA] at c0 c1
 have a1 : (0 : Int) ≤ (a : Int) := by omega
 have a2 : (a : Int) < 2 := by omega
 clear h hy hgo hyb F0
 unfold stepV
 go_enter Tryd.func39, Tryd.ntmps39
 go_wp2_with fail
 generalize w.alloc (.cells #[.int .i64 2, .int .i64 O, .int .i64 A, .int .i64 B, .int .i64 C, .int .i64 X, ls] 58) = W0 at *
 obtain ⟨s0, hs0⟩ : ∃ s0, s0 = w.heap.size := ⟨_, rfl⟩
 rw [← hs0] at HBl HLt
 rw [← hs0]
 clear hs0
 obtain ⟨z, Q, hz, hBo⟩ := both_mark W0 n y.dA A HY.out.okA HY.out.tb
 have HBo := mkHid hBo
 have HCl : Hid (∀ V p q, Hid (Q p q V) → V.cell? ⟨s0, 2, none⟩ = some (.int .i64 A)) := fun V p q hq => by
  have hb := HBl.out V _ (HBo.out.frm hq.out) fun g hg => HLt.out g (liv4 hg)
  exact by rw [cell_in hb]; rfl
 have HP : Hid (∀ V q, Hid (Q false q V) → Calls Tryd.prog 12 #[vO y.dA, .int .i64 A] V fun e w'' => e = .returned (.int .i64 z) ∧ Hid (Q true q w'')) := fun V q hq => HBo.out.prog hq.out
 have HR : Hid (∀ V p, Hid (Q p false V) → Calls Tryd.prog 78 #[vR y.dA, .int .i64 A] V fun e w'' => e = .returned (.int .i64 z) ∧ Hid (Q p true w'')) := fun V p hq => HBo.out.docu hq.out
 have HZ : Hid (∀ V, Hid (Q true true V) → StepTo w n x V) := fun V hq => by
  obtain ⟨D', hp⟩ := HBo.out.done hq.out
  exact HSt.out V ⟨{ y with dA := D' }, a, ha, rfl, (HY.out.pair (n' := n + 1) (by omega) hp).more (by omega), (Go1.idle y HF0.out).trans (go_pair hp)⟩
 have q0 : Hid (Q false false W0.drew) := HBo.out.idle HBo.out.start (Fr.drew [] W0)
 clear hBo HBo HY HBl HLt HF0 HSt
 generalize vO y.dA = vo at *
 generalize vR y.dA = vr at *
 go_region_held3 (fun V => V.cell? ⟨s0, 2, none⟩ = some (.int .i64 A))
  (first
   | exact HCl.out _ _ _ q2
   | exact HCl.out _ _ _ q1
   | exact HCl.out _ _ _ q0)
  (first
   | (go_at_call 12; refine (HP.out _ _ q0).mono ?_; rintro e w1 ⟨rfl, q1⟩)
   | (go_at_call 11; refine (num_any _ _ (by omega) (by omega)).mono ?_; rintro e w' ⟨rfl, hw'⟩; subst hw')
   | (go_at_call 78; refine (HR.out _ _ q1).mono ?_; rintro e w2 ⟨rfl, q2⟩))
 all_goals go_wp2_with fail
 all_goals
  go_ret
  exact ⟨rfl, HZ.out _ q2⟩
set_option maxRecDepth 20000 in
set_option maxHeartbeats 4000000 in
theorem lw_free (O A B C X : Int) (ls : Value) (n t : Nat) (x : Wl) (w : World) (h : WOk w n t x) (ht : t ≤ 1) (hn : n ≤ 10000000) :
  Calls Tryd.prog 39 #[.pointer (some ⟨x.b, 0, none⟩), stepV 3 O A B C X ls] w fun e w' => e = .returned (.bool true) ∧ StepTo w n x w' := by
 obtain ⟨r, s, a, e1, e2, e3, ha, e4, e5⟩ := hand_num O
 obtain ⟨y, hyb, hy, hgo⟩ := take_hand h ht a ha
 have HSt : Hid (∀ w', StepTo w n y w' → StepTo w n x w') := fun w' ⟨x', t', q1, q2, q3, q4⟩ => ⟨x', t', q1, q2.trans hyb, q3, hgo.trans q4⟩
 rw [← hyb]
 have F0 : Fr [] w (w.alloc (.cells #[.int .i64 3, .int .i64 O, .int .i64 A, .int .i64 B, .int .i64 C, .int .i64 X, ls] 58)) := Fr.alloc [] _ _
 have HF0 := mkHid F0
 have HY : Hid (WOk (w.alloc (.cells #[.int .i64 3, .int .i64 O, .int .i64 A, .int .i64 B, .int .i64 C, .int .i64 X, ls] 58)) n a y) := hy.idle F0
 have HBl : Hid (∀ V Y, Fr Y (w.alloc (.cells #[.int .i64 3, .int .i64 O, .int .i64 A, .int .i64 B, .int .i64 C, .int .i64 X, ls] 58)) V → (∀ g ∈ Y, g < w.heap.size) → V.heap[w.heap.size]? = some (.cells #[.int .i64 3, .int .i64 O, .int .i64 A, .int .i64 B, .int .i64 C, .int .i64 X, ls] 58 (0, 0))) := fun V Y hV hX => (hV.block w.heap.size (by simp) (fun hm => by have := hX _ hm; omega)).trans (heap_alloc_new w _)
 have HLt : Hid (∀ g, Liv y g → g < w.heap.size) := fun g hg => hy.lt hg
 obtain ⟨c0, c1⟩ := cells_of HY.out ha a ha
 have eA : y.at a a = y.dA := if_pos rfl
 rw [eA] at c0 c1
 have a1 : (0 : Int) ≤ (a : Int) := by omega
 have a2 : (a : Int) < 2 := by omega
 clear h hy hgo hyb F0
 unfold stepV
 go_enter Tryd.func39, Tryd.ntmps39
 go_wp2_with fail
 generalize w.alloc (.cells #[.int .i64 3, .int .i64 O, .int .i64 A, .int .i64 B, .int .i64 C, .int .i64 X, ls] 58) = W0 at *
 obtain ⟨s0, hs0⟩ : ∃ s0, s0 = w.heap.size := ⟨_, rfl⟩
 rw [← hs0] at HBl HLt
 rw [← hs0]
 clear hs0
 obtain ⟨z, Q, hz, hBo⟩ := both_free W0 n y.dA A HY.out.okA HY.out.tb (by omega)
 have HBo := mkHid hBo
 have HCl : Hid (∀ V p q, Hid (Q p q V) → V.cell? ⟨s0, 2, none⟩ = some (.int .i64 A)) := fun V p q hq => by
  have hb := HBl.out V _ (HBo.out.frm hq.out) fun g hg => HLt.out g (liv4 hg)
  exact by rw [cell_in hb]; rfl
 have HP : Hid (∀ V q, Hid (Q false q V) → Calls Tryd.prog 64 #[vO y.dA, .int .i64 A] V fun e w'' => e = .returned (.int .i64 z) ∧ Hid (Q true q w'')) := fun V q hq => HBo.out.prog hq.out
 have HR : Hid (∀ V p, Hid (Q p false V) → Calls Tryd.prog 79 #[vR y.dA, .int .i64 A] V fun e w'' => e = .returned (.int .i64 z) ∧ Hid (Q p true w'')) := fun V p hq => HBo.out.docu hq.out
 have HZ : Hid (∀ V, Hid (Q true true V) → StepTo w n x V) := fun V hq => by
  obtain ⟨D', hp⟩ := HBo.out.done hq.out
  exact HSt.out V ⟨{ y with dA := D' }, a, ha, rfl, (HY.out.pair (n' := n + 1) (by omega) hp).more (by omega), (Go1.idle y HF0.out).trans (go_pair hp)⟩
 have q0 : Hid (Q false false W0.drew) := HBo.out.idle HBo.out.start (Fr.drew [] W0)
 clear hBo HBo HY HBl HLt HF0 HSt
 generalize vO y.dA = vo at *
 generalize vR y.dA = vr at *
 go_region_held3 (fun V => V.cell? ⟨s0, 2, none⟩ = some (.int .i64 A))
  (first
   | exact HCl.out _ _ _ q2
   | exact HCl.out _ _ _ q1
   | exact HCl.out _ _ _ q0)
  (first
   | (go_at_call 64; refine (HP.out _ _ q0).mono ?_; rintro e w1 ⟨rfl, q1⟩)
   | (go_at_call 11; refine (num_any _ _ (by omega) (by omega)).mono ?_; rintro e w' ⟨rfl, hw'⟩; subst hw')
   | (go_at_call 79; refine (HR.out _ _ q1).mono ?_; rintro e w2 ⟨rfl, q2⟩))
 all_goals go_wp2_with fail
 all_goals
  go_ret
  exact ⟨rfl, HZ.out _ q2⟩
set_option maxRecDepth 20000 in
set_option maxHeartbeats 4000000 in
theorem lw_cls (O A B C X : Int) (ls : Value) (n t : Nat) (x : Wl) (w : World) (h : WOk w n t x) (ht : t ≤ 1) (hn : n ≤ 10000000) :
  Calls Tryd.prog 39 #[.pointer (some ⟨x.b, 0, none⟩), stepV 5 O A B C X ls] w fun e w' => e = .returned (.bool true) ∧ StepTo w n x w' := by
 obtain ⟨r, s, a, e1, e2, e3, ha, e4, e5⟩ := hand_num O
 obtain ⟨y, hyb, hy, hgo⟩ := take_hand h ht a ha
 have HSt : Hid (∀ w', StepTo w n y w' → StepTo w n x w') := fun w' ⟨x', t', q1, q2, q3, q4⟩ => ⟨x', t', q1, q2.trans hyb, q3, hgo.trans q4⟩
 rw [← hyb]
 have F0 : Fr [] w (w.alloc (.cells #[.int .i64 5, .int .i64 O, .int .i64 A, .int .i64 B, .int .i64 C, .int .i64 X, ls] 58)) := Fr.alloc [] _ _
 have HF0 := mkHid F0
 have HY : Hid (WOk (w.alloc (.cells #[.int .i64 5, .int .i64 O, .int .i64 A, .int .i64 B, .int .i64 C, .int .i64 X, ls] 58)) n a y) := hy.idle F0
 have HBl : Hid (∀ V Y, Fr Y (w.alloc (.cells #[.int .i64 5, .int .i64 O, .int .i64 A, .int .i64 B, .int .i64 C, .int .i64 X, ls] 58)) V → (∀ g ∈ Y, g < w.heap.size) → V.heap[w.heap.size]? = some (.cells #[.int .i64 5, .int .i64 O, .int .i64 A, .int .i64 B, .int .i64 C, .int .i64 X, ls] 58 (0, 0))) := fun V Y hV hX => (hV.block w.heap.size (by simp) (fun hm => by have := hX _ hm; omega)).trans (heap_alloc_new w _)
 have HLt : Hid (∀ g, Liv y g → g < w.heap.size) := fun g hg => hy.lt hg
 obtain ⟨c0, c1⟩ := cells_of HY.out ha a ha
 have eA : y.at a a = y.dA := if_pos rfl
 rw [eA] at c0 c1
 have a1 : (0 : Int) ≤ (a : Int) := by omega
 have a2 : (a : Int) < 2 := by omega
 clear h hy hgo hyb F0
 unfold stepV
 go_enter Tryd.func39, Tryd.ntmps39
 go_wp2_with fail
 generalize w.alloc (.cells #[.int .i64 5, .int .i64 O, .int .i64 A, .int .i64 B, .int .i64 C, .int .i64 X, ls] 58) = W0 at *
 obtain ⟨s0, hs0⟩ : ∃ s0, s0 = w.heap.size := ⟨_, rfl⟩
 rw [← hs0] at HBl HLt
 rw [← hs0]
 clear hs0
 obtain ⟨z, Q, hz, hBo⟩ := both_cls W0 n y.dA A X HY.out.okA HY.out.tb
 have HBo := mkHid hBo
 have HCl : Hid (∀ V p q, Hid (Q p q V) → V.cell? ⟨s0, 2, none⟩ = some (.int .i64 A) ∧ V.cell? ⟨s0, 5, none⟩ = some (.int .i64 X)) := fun V p q hq => by
  have hb := HBl.out V _ (HBo.out.frm hq.out) fun g hg => HLt.out g (liv4 hg)
  exact ⟨by rw [cell_in hb]; rfl, by rw [cell_in hb]; rfl⟩
 have HP : Hid (∀ V q, Hid (Q false q V) → Calls Tryd.prog 30 #[vO y.dA, .int .i64 A, .int .i64 X] V fun e w'' => e = .returned (.int .i64 z) ∧ Hid (Q true q w'')) := fun V q hq => HBo.out.prog hq.out
 have HR : Hid (∀ V p, Hid (Q p false V) → Calls Tryd.prog 83 #[vR y.dA, .int .i64 A, .int .i64 X] V fun e w'' => e = .returned (.int .i64 z) ∧ Hid (Q p true w'')) := fun V p hq => HBo.out.docu hq.out
 have HZ : Hid (∀ V, Hid (Q true true V) → StepTo w n x V) := fun V hq => by
  obtain ⟨D', hp⟩ := HBo.out.done hq.out
  exact HSt.out V ⟨{ y with dA := D' }, a, ha, rfl, (HY.out.pair (n' := n + 1) (by omega) hp).more (by omega), (Go1.idle y HF0.out).trans (go_pair hp)⟩
 have q0 : Hid (Q false false W0.drew) := HBo.out.idle HBo.out.start (Fr.drew [] W0)
 clear hBo HBo HY HBl HLt HF0 HSt
 generalize vO y.dA = vo at *
 generalize vR y.dA = vr at *
 go_region_held3 (fun V => V.cell? ⟨s0, 2, none⟩ = some (.int .i64 A) ∧ V.cell? ⟨s0, 5, none⟩ = some (.int .i64 X))
  (first
   | exact HCl.out _ _ _ q2
   | exact HCl.out _ _ _ q1
   | exact HCl.out _ _ _ q0)
  (first
   | (go_at_call 30; refine (HP.out _ _ q0).mono ?_; rintro e w1 ⟨rfl, q1⟩)
   | (go_at_call 11; refine (num_any _ _ (by omega) (by omega)).mono ?_; rintro e w' ⟨rfl, hw'⟩; subst hw')
   | (go_at_call 83; refine (HR.out _ _ q1).mono ?_; rintro e w2 ⟨rfl, q2⟩))
 all_goals go_wp2_with fail
 all_goals
  go_ret
  exact ⟨rfl, HZ.out _ q2⟩
set_option maxRecDepth 20000 in
set_option maxHeartbeats 4000000 in
theorem lw_put (O A B C X : Int) (ls : Value) (n t : Nat) (x : Wl) (w : World) (h : WOk w n t x) (ht : t ≤ 1) (hn : n ≤ 10000000) :
  Calls Tryd.prog 39 #[.pointer (some ⟨x.b, 0, none⟩), stepV 7 O A B C X ls] w fun e w' => e = .returned (.bool true) ∧ StepTo w n x w' := by
 obtain ⟨r, s, a, e1, e2, e3, ha, e4, e5⟩ := hand_num O
 obtain ⟨y, hyb, hy, hgo⟩ := take_hand h ht a ha
 have HSt : Hid (∀ w', StepTo w n y w' → StepTo w n x w') := fun w' ⟨x', t', q1, q2, q3, q4⟩ => ⟨x', t', q1, q2.trans hyb, q3, hgo.trans q4⟩
 rw [← hyb]
 have F0 : Fr [] w (w.alloc (.cells #[.int .i64 7, .int .i64 O, .int .i64 A, .int .i64 B, .int .i64 C, .int .i64 X, ls] 58)) := Fr.alloc [] _ _
 have HF0 := mkHid F0
 have HY : Hid (WOk (w.alloc (.cells #[.int .i64 7, .int .i64 O, .int .i64 A, .int .i64 B, .int .i64 C, .int .i64 X, ls] 58)) n a y) := hy.idle F0
 have HBl : Hid (∀ V Y, Fr Y (w.alloc (.cells #[.int .i64 7, .int .i64 O, .int .i64 A, .int .i64 B, .int .i64 C, .int .i64 X, ls] 58)) V → (∀ g ∈ Y, g < w.heap.size) → V.heap[w.heap.size]? = some (.cells #[.int .i64 7, .int .i64 O, .int .i64 A, .int .i64 B, .int .i64 C, .int .i64 X, ls] 58 (0, 0))) := fun V Y hV hX => (hV.block w.heap.size (by simp) (fun hm => by have := hX _ hm; omega)).trans (heap_alloc_new w _)
 have HLt : Hid (∀ g, Liv y g → g < w.heap.size) := fun g hg => hy.lt hg
 obtain ⟨c0, c1⟩ := cells_of HY.out ha a ha
 have eA : y.at a a = y.dA := if_pos rfl
 rw [eA] at c0 c1
 have a1 : (0 : Int) ≤ (a : Int) := by omega
 have a2 : (a : Int) < 2 := by omega
 clear h hy hgo hyb F0
 unfold stepV
 go_enter Tryd.func39, Tryd.ntmps39
 go_wp2_with fail
 generalize w.alloc (.cells #[.int .i64 7, .int .i64 O, .int .i64 A, .int .i64 B, .int .i64 C, .int .i64 X, ls] 58) = W0 at *
 obtain ⟨s0, hs0⟩ : ∃ s0, s0 = w.heap.size := ⟨_, rfl⟩
 rw [← hs0] at HBl HLt
 rw [← hs0]
 clear hs0
 obtain ⟨z, Q, hz, hBo⟩ := both_put W0 n y.dA A B X HY.out.okA HY.out.tb
 have HBo := mkHid hBo
 have HCl : Hid (∀ V p q, Hid (Q p q V) → V.cell? ⟨s0, 2, none⟩ = some (.int .i64 A) ∧ V.cell? ⟨s0, 3, none⟩ = some (.int .i64 B) ∧ V.cell? ⟨s0, 5, none⟩ = some (.int .i64 X)) := fun V p q hq => by
  have hb := HBl.out V _ (HBo.out.frm hq.out) fun g hg => HLt.out g (liv4 hg)
  exact ⟨by rw [cell_in hb]; rfl, by rw [cell_in hb]; rfl, by rw [cell_in hb]; rfl⟩
 have HP : Hid (∀ V q, Hid (Q false q V) → Calls Tryd.prog 29 #[vO y.dA, .int .i64 A, .int .i64 B, .int .i64 X] V fun e w'' => e = .returned (.int .i64 z) ∧ Hid (Q true q w'')) := fun V q hq => HBo.out.prog hq.out
 have HR : Hid (∀ V p, Hid (Q p false V) → Calls Tryd.prog 85 #[vR y.dA, .int .i64 A, .int .i64 B, .int .i64 X] V fun e w'' => e = .returned (.int .i64 z) ∧ Hid (Q p true w'')) := fun V p hq => HBo.out.docu hq.out
 have HZ : Hid (∀ V, Hid (Q true true V) → StepTo w n x V) := fun V hq => by
  obtain ⟨D', hp⟩ := HBo.out.done hq.out
  exact HSt.out V ⟨{ y with dA := D' }, a, ha, rfl, (HY.out.pair (n' := n + 1) (by omega) hp).more (by omega), (Go1.idle y HF0.out).trans (go_pair hp)⟩
 have q0 : Hid (Q false false W0.drew) := HBo.out.idle HBo.out.start (Fr.drew [] W0)
 clear hBo HBo HY HBl HLt HF0 HSt
 generalize vO y.dA = vo at *
 generalize vR y.dA = vr at *
 go_region_held3 (fun V => V.cell? ⟨s0, 2, none⟩ = some (.int .i64 A) ∧ V.cell? ⟨s0, 3, none⟩ = some (.int .i64 B) ∧ V.cell? ⟨s0, 5, none⟩ = some (.int .i64 X))
  (first
   | exact HCl.out _ _ _ q2
   | exact HCl.out _ _ _ q1
   | exact HCl.out _ _ _ q0)
  (first
   | (go_at_call 29; refine (HP.out _ _ q0).mono ?_; rintro e w1 ⟨rfl, q1⟩)
   | (go_at_call 11; refine (num_any _ _ (by omega) (by omega)).mono ?_; rintro e w' ⟨rfl, hw'⟩; subst hw')
   | (go_at_call 85; refine (HR.out _ _ q1).mono ?_; rintro e w2 ⟨rfl, q2⟩))
 all_goals go_wp2_with fail
 all_goals
  go_ret
  exact ⟨rfl, HZ.out _ q2⟩
set_option maxRecDepth 20000 in
set_option maxHeartbeats 4000000 in
theorem lw_exch (O A B C X : Int) (ls : Value) (n t : Nat) (x : Wl) (w : World) (h : WOk w n t x) (ht : t ≤ 1) (hn : n ≤ 10000000) :
  Calls Tryd.prog 39 #[.pointer (some ⟨x.b, 0, none⟩), stepV 8 O A B C X ls] w fun e w' => e = .returned (.bool true) ∧ StepTo w n x w' := by
 obtain ⟨r, s, a, e1, e2, e3, ha, e4, e5⟩ := hand_num O
 obtain ⟨y, hyb, hy, hgo⟩ := take_hand h ht a ha
 have HSt : Hid (∀ w', StepTo w n y w' → StepTo w n x w') := fun w' ⟨x', t', q1, q2, q3, q4⟩ => ⟨x', t', q1, q2.trans hyb, q3, hgo.trans q4⟩
 rw [← hyb]
 have F0 : Fr [] w (w.alloc (.cells #[.int .i64 8, .int .i64 O, .int .i64 A, .int .i64 B, .int .i64 C, .int .i64 X, ls] 58)) := Fr.alloc [] _ _
 have HF0 := mkHid F0
 have HY : Hid (WOk (w.alloc (.cells #[.int .i64 8, .int .i64 O, .int .i64 A, .int .i64 B, .int .i64 C, .int .i64 X, ls] 58)) n a y) := hy.idle F0
 have HBl : Hid (∀ V Y, Fr Y (w.alloc (.cells #[.int .i64 8, .int .i64 O, .int .i64 A, .int .i64 B, .int .i64 C, .int .i64 X, ls] 58)) V → (∀ g ∈ Y, g < w.heap.size) → V.heap[w.heap.size]? = some (.cells #[.int .i64 8, .int .i64 O, .int .i64 A, .int .i64 B, .int .i64 C, .int .i64 X, ls] 58 (0, 0))) := fun V Y hV hX => (hV.block w.heap.size (by simp) (fun hm => by have := hX _ hm; omega)).trans (heap_alloc_new w _)
 have HLt : Hid (∀ g, Liv y g → g < w.heap.size) := fun g hg => hy.lt hg
 obtain ⟨c0, c1⟩ := cells_of HY.out ha a ha
 have eA : y.at a a = y.dA := if_pos rfl
 rw [eA] at c0 c1
 have a1 : (0 : Int) ≤ (a : Int) := by omega
 have a2 : (a : Int) < 2 := by omega
 clear h hy hgo hyb F0
 unfold stepV
 go_enter Tryd.func39, Tryd.ntmps39
 go_wp2_with fail
 generalize w.alloc (.cells #[.int .i64 8, .int .i64 O, .int .i64 A, .int .i64 B, .int .i64 C, .int .i64 X, ls] 58) = W0 at *
 obtain ⟨s0, hs0⟩ : ∃ s0, s0 = w.heap.size := ⟨_, rfl⟩
 rw [← hs0] at HBl HLt
 rw [← hs0]
 clear hs0
 obtain ⟨z, Q, hz, hBo⟩ := both_exch W0 n y.dA A B HY.out.okA HY.out.tb (by omega)
 have HBo := mkHid hBo
 have HCl : Hid (∀ V p q, Hid (Q p q V) → V.cell? ⟨s0, 2, none⟩ = some (.int .i64 A) ∧ V.cell? ⟨s0, 3, none⟩ = some (.int .i64 B)) := fun V p q hq => by
  have hb := HBl.out V _ (HBo.out.frm hq.out) fun g hg => HLt.out g (liv4 hg)
  exact ⟨by rw [cell_in hb]; rfl, by rw [cell_in hb]; rfl⟩
 have HP : Hid (∀ V q, Hid (Q false q V) → Calls Tryd.prog 46 #[vO y.dA, .int .i64 A, .int .i64 B] V fun e w'' => e = .returned (.int .i64 z) ∧ Hid (Q true q w'')) := fun V q hq => HBo.out.prog hq.out
 have HR : Hid (∀ V p, Hid (Q p false V) → Calls Tryd.prog 86 #[vR y.dA, .int .i64 A, .int .i64 B] V fun e w'' => e = .returned (.int .i64 z) ∧ Hid (Q p true w'')) := fun V p hq => HBo.out.docu hq.out
 have HZ : Hid (∀ V, Hid (Q true true V) → StepTo w n x V) := fun V hq => by
  obtain ⟨D', hp⟩ := HBo.out.done hq.out
  exact HSt.out V ⟨{ y with dA := D' }, a, ha, rfl, (HY.out.pair (n' := n + 1) (by omega) hp).more (by omega), (Go1.idle y HF0.out).trans (go_pair hp)⟩
 have q0 : Hid (Q false false W0.drew) := HBo.out.idle HBo.out.start (Fr.drew [] W0)
 clear hBo HBo HY HBl HLt HF0 HSt
 generalize vO y.dA = vo at *
 generalize vR y.dA = vr at *
 go_region_held3 (fun V => V.cell? ⟨s0, 2, none⟩ = some (.int .i64 A) ∧ V.cell? ⟨s0, 3, none⟩ = some (.int .i64 B))
  (first
   | exact HCl.out _ _ _ q2
   | exact HCl.out _ _ _ q1
   | exact HCl.out _ _ _ q0)
  (first
   | (go_at_call 46; refine (HP.out _ _ q0).mono ?_; rintro e w1 ⟨rfl, q1⟩)
   | (go_at_call 11; refine (num_any _ _ (by omega) (by omega)).mono ?_; rintro e w' ⟨rfl, hw'⟩; subst hw')
   | (go_at_call 86; refine (HR.out _ _ q1).mono ?_; rintro e w2 ⟨rfl, q2⟩))
 all_goals go_wp2_with fail
 all_goals
  go_ret
  exact ⟨rfl, HZ.out _ q2⟩
end Go.Proofs.YtklfnjlenbgmoaaDoor
