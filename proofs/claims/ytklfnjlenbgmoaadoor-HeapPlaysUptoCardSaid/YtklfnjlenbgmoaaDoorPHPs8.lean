import Derived.Test.YtklfnjlenbgmoaaDoorPG39HPs6
import Derived.Test.YtklfnjlenbgmoaaDoorPG25RKeep
set_option linter.unusedSimpArgs false
set_option linter.unusedVariables false
namespace Go.Proofs.YtklfnjlenbgmoaaDoor
open Go.RowKit Go.Maps
attribute [local go_sem ↓] Go.wp_at_zero Go.wp_at_succ
set_option maxRecDepth 20000 in
set_option maxHeartbeats 4000000 in
theorem lw_point (O A B C X : Int) (ls : Value) (n t : Nat) (x : Wl) (w : World) (h : WOk w n t x) (ht : t ≤ 1) (hn : n ≤ 10000000) :
  Calls Tryd.prog 39 #[.pointer (some ⟨x.b, 0, none⟩), stepV 9 O A B C X ls] w fun e w' => e = .returned (.bool true) ∧ StepTo w n x w' := by
 obtain ⟨r, s, a, e1, e2, e3, ha, e4, e5⟩ := hand_num O
 obtain ⟨y, hyb, hy, hgo⟩ := take_hand h ht a ha
 have HSt : Hid (∀ w', StepTo w n y w' → StepTo w n x w') := fun w' ⟨x', t', q1, q2, q3, q4⟩ => ⟨x', t', q1, q2.trans hyb, q3, hgo.trans q4⟩
 rw [← hyb]
 have F0 : Fr [] w (w.alloc (.cells #[.int .i64 9, .int .i64 O, .int .i64 A, .int .i64 B, .int .i64 C, .int .i64 X, ls] 58)) := Fr.alloc [] _ _
 have HF0 := mkHid F0
 have HY : Hid (WOk (w.alloc (.cells #[.int .i64 9, .int .i64 O, .int .i64 A, .int .i64 B, .int .i64 C, .int .i64 X, ls] 58)) n a y) := hy.idle F0
 have HBl : Hid (∀ V Y, Fr Y (w.alloc (.cells #[.int .i64 9, .int .i64 O, .int .i64 A, .int .i64 B, .int .i64 C, .int .i64 X, ls] 58)) V → (∀ g ∈ Y, g < w.heap.size) → V.heap[w.heap.size]? = some (.cells #[.int .i64 9, .int .i64 O, .int .i64 A, .int .i64 B, .int .i64 C, .int .i64 X, ls] 58 (0, 0))) := fun V Y hV hX => (hV.block w.heap.size (by simp) (fun hm => by have := hX _ hm; omega)).trans (heap_alloc_new w _)
 have HLt : Hid (∀ g, Liv y g → g < w.heap.size) := fun g hg => hy.lt hg
 obtain ⟨c0, c1⟩ := cells_of HY.out ha a ha
 have eA : y.at a a = y.dA := if_pos rfl
 rw [eA] at c0 c1
 have a1 : (0 : Int) ≤ (a : Int) := by omega
 have a2 : (a : Int) < 2 := by omega
 clear h hy hgo hyb F0
 have c4 : (w.alloc (.cells #[.int .i64 9, .int .i64 O, .int .i64 A, .int .i64 B, .int .i64 C, .int .i64 X, ls] 58)).cell? ⟨y.b, 4, none⟩ = some (.slice y.ps.p y.pts.length y.ps.c) := by
  rw [cell_in (top_of HY.out), ← HY.out.np]; rfl
 have hLn := HY.out.c0
 unfold stepV
 go_enter Tryd.func39, Tryd.ntmps39
 go_wp2_with fail
 generalize w.alloc (.cells #[.int .i64 9, .int .i64 O, .int .i64 A, .int .i64 B, .int .i64 C, .int .i64 X, ls] 58) = W0 at *
 obtain ⟨s0, hs0⟩ : ∃ s0, s0 = w.heap.size := ⟨_, rfl⟩
 rw [← hs0] at HBl HLt
 rw [← hs0]
 clear hs0
 obtain ⟨p, hp, h27, h87⟩ := ro_point W0 n y.dA HY.out.okA
 have HA : Hid (∀ V, Hid (Fr [] W0 V) → V.cell? ⟨y.b, 4, none⟩ = some (.slice y.ps.p y.pts.length y.ps.c) ∧ (V.alloc (.cells #[.pointer p.u, .int .i64 (p.ag : Int), .int .i64 (p.n : Int)] 62)).cell? ⟨y.b, 4, none⟩ = some (.slice y.ps.p y.pts.length y.ps.c) ∧
   ∃ p1 c1 w1, Hid ((Builtin.append_ #[76, 76] 76 #[.slice y.ps.p y.pts.length y.ps.c, .slice (some ⟨V.heap.size, 0, none⟩) 1 1]).run Tryd.prog (V.alloc (.cells #[.pointer p.u, .int .i64 (p.ag : Int), .int .i64 (p.n : Int)] 62)) = .ok (.slice p1 (y.pts.length + 1) c1) w1) ∧
   w1.cell? ⟨y.b, 4, none⟩ = some (.slice y.ps.p y.pts.length y.ps.c) ∧ w1.frozen? ⟨y.b, 4, none⟩ = false ∧
   ∃ W2, w1.setCell ⟨y.b, 4, none⟩ (.slice p1 (y.pts.length + 1) c1) = W2 ∧ W2.cell? ⟨y.b, 5, none⟩ = some (.slice y.ms.p y.pts.length y.ms.c) ∧ Hid (PrOk W2 n y.dA) ∧
   Hid (∀ V2, Hid (Fr [] W2 V2) → V2.cell? ⟨y.b, 5, none⟩ = some (.slice y.ms.p y.pts.length y.ms.c) ∧ (V2.alloc (.cells #[.pointer p.v, .int .i64 (p.pb : Int), .int .i64 (p.tn : Int)] 139)).cell? ⟨y.b, 5, none⟩ = some (.slice y.ms.p y.pts.length y.ms.c) ∧
    ∃ p4 c4 w4, Hid ((Builtin.append_ #[77, 77] 77 #[.slice y.ms.p y.pts.length y.ms.c, .slice (some ⟨V2.heap.size, 0, none⟩) 1 1]).run Tryd.prog (V2.alloc (.cells #[.pointer p.v, .int .i64 (p.pb : Int), .int .i64 (p.tn : Int)] 139)) = .ok (.slice p4 (y.pts.length + 1) c4) w4) ∧
    w4.cell? ⟨y.b, 5, none⟩ = some (.slice y.ms.p y.pts.length y.ms.c) ∧ w4.frozen? ⟨y.b, 5, none⟩ = false ∧ Hid (StepTo w n x (w4.setCell ⟨y.b, 5, none⟩ (.slice p4 (y.pts.length + 1) c4))))) := fun V hV => by
  obtain ⟨p1, c1, w1, r1, q1, q2, q3, q4, q5, q6⟩ := HY.out.point hn p hp hV.out
  have c4' := (hV.out.cell (p := ⟨y.b, 4, none⟩) (HY.out.lt (liv0 (x := y))) (by simp)).trans c4
  refine ⟨c4', (World.cell?_alloc_lt V _ ⟨y.b, 4, none⟩ (by have := HY.out.lt (liv0 (x := y)); have := hV.out.size; show y.b < _; omega)).trans c4', p1, c1, w1, r1, q1, q2, _, rfl, q3, q4, fun V2 hV2 => ?_⟩
  obtain ⟨u1, p4, c4, w4, r4, u2, u3, u4, u5⟩ := q6 V2 hV2.out
  exact ⟨u1, (World.cell?_alloc_lt V2 _ ⟨y.b, 5, none⟩ (Nat.lt_of_lt_of_le q5 hV2.out.size)).trans u1, p4, c4, w4, r4, u2, u3, HSt.out _ ⟨{ y with ps := ⟨p1, y.pts.length + 1, c1⟩, ms := ⟨p4, y.pts.length + 1, c4⟩, pts := y.pts ++ [p] }, a, ha, rfl, u4.more (by omega), (Go1.idle y HF0.out).trans u5⟩⟩
 have H27 : Hid (∀ V, Hid (Fr [] W0 V) → Calls Tryd.prog 27 #[vO y.dA] V fun e w'' => e = .returned (.agg #[.pointer p.u, .int .i64 (p.ag : Int), .int .i64 (p.n : Int)]) ∧ Hid (Fr [] V w'')) := fun V hV => h27 V (HY.out.okA.idle hV.out)
 have H87 : Hid (∀ V, Hid (PrOk V n y.dA) → Calls Tryd.prog 87 #[vR y.dA] V fun e w'' => e = .returned (.agg #[.pointer p.v, .int .i64 (p.pb : Int), .int .i64 (p.tn : Int)]) ∧ Hid (Fr [] V w'')) := fun V hV => h87 V hV.out
 have q0 : Hid (Fr [] W0 W0.drew) := Fr.drew [] W0
 have H27d : Hid (Calls Tryd.prog 27 #[vO y.dA] W0.drew fun e w'' => ∃ v, e = .returned v ∧ (v = .agg #[.pointer p.u, .int .i64 (p.ag : Int), .int .i64 (p.n : Int)] ∧ Hid (Fr [] W0.drew w''))) := (H27.out _ q0).mono fun e w'' ⟨h1, h2⟩ => ⟨_, h1, rfl, h2⟩
 have HPd : Hid (∀ V, Hid (PrOk V n y.dA) → Hid (PrOk V.drew n y.dA)) := fun V hV => hV.out.idle (Fr.drew [] V)
 clear HY HBl HLt HF0 HSt h27 h87 hp
 generalize y.pts.length = L at *
 generalize y.ps.p = pp at *
 generalize y.ps.c = cp at *
 generalize y.ms.p = pm at *
 generalize y.ms.c = cm at *
 generalize hvo : vO y.dA = vo at *
 generalize hvr : vR y.dA = vr at *
 go_region_law
  (first
   | (refine step_append_run rfl (.tmp 251) (.tmp 254) 76 76 rfl _ _ rfl rfl _ _ R1.out ?_)
   | (refine step_call rfl 27 Tryd.f27 Tryd.func27 (by kernel_rfl) (by kernel_rfl) _ _ rfl _ (by simp [Act.eval, Act.put]) _ H27d.out ?_; rintro _ w1 ⟨rfl, f1⟩; obtain ⟨z1, z2, p1, c1, w2, R1, z3, z4, W2, hW2, z5, PW2, HA2⟩ := HA.out w1 (hid_tr q0 f1.out)))
 all_goals go_wp2_with fail
 all_goals
  have H87d : Hid (Calls Tryd.prog 87 #[vr] W2.drew fun e w'' => ∃ v, e = .returned v ∧ (v = .agg #[.pointer p.v, .int .i64 (p.pb : Int), .int .i64 (p.tn : Int)] ∧ Hid (Fr [] W2.drew w''))) := (H87.out _ (HPd.out _ PW2)).mono fun e w'' ⟨h1, h2⟩ => ⟨_, h1, rfl, h2⟩
  have q2 : Hid (Fr [] W2 W2.drew) := Fr.drew [] W2
  clear HA R1 HPd PW2 H27 H27d H87
  go_region_law
   (first
    | (refine step_append_run rfl (.tmp 262) (.tmp 265) 77 77 rfl _ _ rfl rfl _ _ R4.out ?_)
    | (refine step_call rfl 87 Tryd.f87 Tryd.func87 (by kernel_rfl) (by kernel_rfl) _ _ rfl _ (by simp [Act.eval, Act.put]) _ H87d.out ?_; rintro _ w3 ⟨rfl, f3⟩; obtain ⟨y1, y2, p4, c4', w4, R4, y3, y4, HZ⟩ := HA2.out w3 (hid_tr q2 f3.out)))
  all_goals go_wp2_with fail
  all_goals
   go_ret
   exact ⟨rfl, HZ.out⟩
end Go.Proofs.YtklfnjlenbgmoaaDoor
