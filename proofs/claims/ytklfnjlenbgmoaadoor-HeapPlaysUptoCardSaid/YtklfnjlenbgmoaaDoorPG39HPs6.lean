import Derived.Test.YtklfnjlenbgmoaaDoorPG37HPs3
set_option linter.unusedSimpArgs false
set_option linter.unusedVariables false
namespace Go.Proofs.YtklfnjlenbgmoaaDoor
open Go.RowKit Go.Maps
attribute [local go_sem ↓] Go.wp_at_zero Go.wp_at_succ
set_option maxRecDepth 20000 in
set_option maxHeartbeats 4000000 in
theorem lw_alloc (O A B C X : Int) (ls : Value) (n t : Nat) (x : Wl) (w : World) (h : WOk w n t x) (ht : t ≤ 1) (hn : n ≤ 10000000) :
  Calls Tryd.prog 39 #[.pointer (some ⟨x.b, 0, none⟩), stepV 1 O A B C X ls] w fun e w' => e = .returned (.bool true) ∧ StepTo w n x w' := by
 obtain ⟨r, s, a, e1, e2, e3, ha, e4, e5⟩ := hand_num O
 obtain ⟨y, hyb, hy, hgo⟩ := take_hand h ht a ha
 have HSt : Hid (∀ w', StepTo w n y w' → StepTo w n x w') := fun w' ⟨x', t', q1, q2, q3, q4⟩ => ⟨x', t', q1, q2.trans hyb, q3, hgo.trans q4⟩
 rw [← hyb]
 have F0 : Fr [] w (w.alloc (.cells #[.int .i64 1, .int .i64 O, .int .i64 A, .int .i64 B, .int .i64 C, .int .i64 X, ls] 58)) := Fr.alloc [] _ _
 have HF0 := mkHid F0
 have HY : Hid (WOk (w.alloc (.cells #[.int .i64 1, .int .i64 O, .int .i64 A, .int .i64 B, .int .i64 C, .int .i64 X, ls] 58)) n a y) := hy.idle F0
 have HBl : Hid (∀ V Y, Fr Y (w.alloc (.cells #[.int .i64 1, .int .i64 O, .int .i64 A, .int .i64 B, .int .i64 C, .int .i64 X, ls] 58)) V → (∀ g ∈ Y, g < w.heap.size) → V.heap[w.heap.size]? = some (.cells #[.int .i64 1, .int .i64 O, .int .i64 A, .int .i64 B, .int .i64 C, .int .i64 X, ls] 58 (0, 0))) := fun V Y hV hX => (hV.block w.heap.size (by simp) (fun hm => by have := hX _ hm; omega)).trans (heap_alloc_new w _)
 have HLt : Hid (∀ g, Liv y g → g < w.heap.size) := fun g hg => hy.lt hg
 obtain ⟨c0, c1⟩ := cells_of HY.out ha a ha
 have eA : y.at a a = y.dA := if_pos rfl
 rw [eA] at c0 c1
 have a1 : (0 : Int) ≤ (a : Int) := by omega
 have a2 : (a : Int) < 2 := by omega
 clear h hy hgo hyb F0
 unfold stepV
 go_enter Tryd.func39, Tryd.ntmps39
 go_wp2_with fail
 generalize w.alloc (.cells #[.int .i64 1, .int .i64 O, .int .i64 A, .int .i64 B, .int .i64 C, .int .i64 X, ls] 58) = W0 at *
 obtain ⟨s0, hs0⟩ : ∃ s0, s0 = w.heap.size := ⟨_, rfl⟩
 rw [← hs0] at HBl HLt
 rw [← hs0]
 clear hs0
 obtain ⟨z1, z, Q, hz, hBo⟩ := both_alloc W0 n y.dA X A B HY.out.okA HY.out.tb (by omega)
 have HBo := mkHid hBo
 have HCl : Hid (∀ V p q, Hid (Q p q V) → V.cell? ⟨s0, 2, none⟩ = some (.int .i64 A) ∧ V.cell? ⟨s0, 3, none⟩ = some (.int .i64 B) ∧ V.cell? ⟨s0, 5, none⟩ = some (.int .i64 X)) := fun V p q hq => by
  have hb := HBl.out V _ (HBo.out.frm hq.out) fun g hg => HLt.out g (liv4 hg)
  exact ⟨by rw [cell_in hb]; rfl, by rw [cell_in hb]; rfl, by rw [cell_in hb]; rfl⟩
 have HP : Hid (∀ V q, Hid (Q false q V) → Calls Tryd.prog 14 #[vO y.dA, .int .i64 X, .int .i64 A, .int .i64 B] V fun e w'' => e = .returned (.tuple #[.int .i64 z1, .int .i64 z]) ∧ Hid (Q true q w'')) := fun V q hq => HBo.out.prog hq.out
 have HR : Hid (∀ V p, Hid (Q p false V) → Calls Tryd.prog 77 #[vR y.dA, .int .i64 X, .int .i64 A, .int .i64 B] V fun e w'' => e = .returned (.tuple #[.int .i64 z1, .int .i64 z]) ∧ Hid (Q p true w'')) := fun V p hq => HBo.out.docu hq.out
 have HZ : Hid (∀ V, Hid (Q true true V) → StepTo w n x V) := fun V hq => by
  obtain ⟨D', hp⟩ := HBo.out.done hq.out
  exact HSt.out V ⟨{ y with dA := D' }, a, ha, rfl, (HY.out.pair (n' := n + 1) (by omega) hp).more (by omega), (Go1.idle y HF0.out).trans (go_pair hp)⟩
 have q0 : Hid (Q false false W0) := HBo.out.start
 clear hBo HBo HY HBl HLt HF0 HSt
 generalize vO y.dA = vo at *
 generalize vR y.dA = vr at *
 refine (HP.out W0 _ q0).mono ?_
 rintro e w1 ⟨rfl, q1⟩
 obtain ⟨d2, d3, d5⟩ := HCl.out w1 _ _ q1
 go_wp2_with fail
 refine (HR.out w1 _ q1).mono ?_
 rintro e w2 ⟨rfl, q2⟩
 go_wp2_with (go_at_call 11; refine (num_any _ _ (by omega) (by omega)).mono ?_; rintro e w' ⟨rfl, hw'⟩; rw [hw']; clear hw' w')
 go_ret
 exact ⟨rfl, HZ.out _ q2⟩
set_option maxRecDepth 20000 in
set_option maxHeartbeats 4000000 in
theorem lw_class (O A B C X : Int) (ls : Value) (n t : Nat) (x : Wl) (w : World) (h : WOk w n t x) (ht : t ≤ 1) (hn : n ≤ 10000000) :
  Calls Tryd.prog 39 #[.pointer (some ⟨x.b, 0, none⟩), stepV 4 O A B C X ls] w fun e w' => e = .returned (.bool true) ∧ StepTo w n x w' := by
 obtain ⟨r, s, a, e1, e2, e3, ha, e4, e5⟩ := hand_num O
 obtain ⟨y, hyb, hy, hgo⟩ := take_hand h ht a ha
 have HSt : Hid (∀ w', StepTo w n y w' → StepTo w n x w') := fun w' ⟨x', t', q1, q2, q3, q4⟩ => ⟨x', t', q1, q2.trans hyb, q3, hgo.trans q4⟩
 rw [← hyb]
 have F0 : Fr [] w (w.alloc (.cells #[.int .i64 4, .int .i64 O, .int .i64 A, .int .i64 B, .int .i64 C, .int .i64 X, ls] 58)) := Fr.alloc [] _ _
 have HF0 := mkHid F0
 have HY : Hid (WOk (w.alloc (.cells #[.int .i64 4, .int .i64 O, .int .i64 A, .int .i64 B, .int .i64 C, .int .i64 X, ls] 58)) n a y) := hy.idle F0
 have HBl : Hid (∀ V Y, Fr Y (w.alloc (.cells #[.int .i64 4, .int .i64 O, .int .i64 A, .int .i64 B, .int .i64 C, .int .i64 X, ls] 58)) V → (∀ g ∈ Y, g < w.heap.size) → V.heap[w.heap.size]? = some (.cells #[.int .i64 4, .int .i64 O, .int .i64 A, .int .i64 B, .int .i64 C, .int .i64 X, ls] 58 (0, 0))) := fun V Y hV hX => (hV.block w.heap.size (by simp) (fun hm => by have := hX _ hm; omega)).trans (heap_alloc_new w _)
 have HLt : Hid (∀ g, Liv y g → g < w.heap.size) := fun g hg => hy.lt hg
 obtain ⟨c0, c1⟩ := cells_of HY.out ha a ha
 have eA : y.at a a = y.dA := if_pos rfl
 rw [eA] at c0 c1
 have a1 : (0 : Int) ≤ (a : Int) := by omega
 have a2 : (a : Int) < 2 := by omega
 clear h hy hgo hyb F0
 unfold stepV
 go_enter Tryd.func39, Tryd.ntmps39
 go_wp2_with fail
 generalize w.alloc (.cells #[.int .i64 4, .int .i64 O, .int .i64 A, .int .i64 B, .int .i64 C, .int .i64 X, ls] 58) = W0 at *
 obtain ⟨s0, hs0⟩ : ∃ s0, s0 = w.heap.size := ⟨_, rfl⟩
 rw [← hs0] at HBl HLt
 rw [← hs0]
 clear hs0
 have HZ : Hid (∀ V, Hid (Fr [] W0 V) → StepTo w n x V) := fun V hq => HSt.out V ⟨y, a, ha, rfl, (HY.out.idle hq.out).more (by omega), Go1.idle y (HF0.out.trans hq.out (by simp))⟩
 have HCl : Hid (∀ V, Hid (Fr [] W0 V) → V.cell? ⟨s0, 2, none⟩ = some (.int .i64 A) ∧ V.cell? ⟨s0, 3, none⟩ = some (.int .i64 B)) := fun V hq => by
  have hb := HBl.out V _ hq.out (by simp)
  exact ⟨by rw [cell_in hb]; rfl, by rw [cell_in hb]; rfl⟩
 obtain ⟨z1, z2, hz0, hp0, hr0⟩ := ro_class W0 n y.dA A HY.out.okA
 have HP0 := mkHid hp0
 have HR0 := mkHid hr0
 obtain ⟨u1, u2, u3, hz1, hp1, hr1⟩ := ro_size W0 n y.dA A HY.out.okA
 have HP1 := mkHid hp1
 have HR1 := mkHid hr1
 have q0 : Hid (Fr [] W0 W0) := Fr.refl _ _
 clear HY HBl HLt HF0 HSt hp0 hr0 hp1 hr1
 generalize vO y.dA = vo at *
 generalize vR y.dA = vr at *
 refine (HP0.out W0 q0).mono ?_
 rintro e w1 ⟨rfl, q1⟩
 obtain ⟨d2, d3⟩ := HCl.out w1 q1
 clear q0
 go_wp2_with (go_at_call 11; refine (num_any _ _ (by omega) (by omega)).mono ?_; rintro e w' ⟨rfl, hw'⟩; rw [hw']; clear hw' w')
 refine (HR0.out w1 q1).mono ?_
 rintro e w2 ⟨rfl, q2⟩
 obtain ⟨d2, d3⟩ := HCl.out w2 q2
 clear q1
 go_wp2_with (go_at_call 11; refine (num_any _ _ (by omega) (by omega)).mono ?_; rintro e w' ⟨rfl, hw'⟩; rw [hw']; clear hw' w')
 refine (HP1.out w2 q2).mono ?_
 rintro e w3 ⟨rfl, q3⟩
 obtain ⟨d2, d3⟩ := HCl.out w3 q3
 clear q2
 go_wp2_with (go_at_call 11; refine (num_any _ _ (by omega) (by omega)).mono ?_; rintro e w' ⟨rfl, hw'⟩; rw [hw']; clear hw' w')
 refine (HR1.out w3 q3).mono ?_
 rintro e w4 ⟨rfl, q4⟩
 obtain ⟨d2, d3⟩ := HCl.out w4 q4
 clear q3
 go_wp2_with (go_at_call 11; refine (num_any _ _ (by omega) (by omega)).mono ?_; rintro e w' ⟨rfl, hw'⟩; rw [hw']; clear hw' w')
 go_ret
 exact ⟨rfl, HZ.out _ q4⟩
set_option maxRecDepth 20000 in
set_option maxHeartbeats 4000000 in
theorem lw_at (O A B C X : Int) (ls : Value) (n t : Nat) (x : Wl) (w : World) (h : WOk w n t x) (ht : t ≤ 1) (hn : n ≤ 10000000) :
  Calls Tryd.prog 39 #[.pointer (some ⟨x.b, 0, none⟩), stepV 6 O A B C X ls] w fun e w' => e = .returned (.bool true) ∧ StepTo w n x w' := by
 obtain ⟨r, s, a, e1, e2, e3, ha, e4, e5⟩ := hand_num O
 obtain ⟨y, hyb, hy, hgo⟩ := take_hand h ht a ha
 have HSt : Hid (∀ w', StepTo w n y w' → StepTo w n x w') := fun w' ⟨x', t', q1, q2, q3, q4⟩ => ⟨x', t', q1, q2.trans hyb, q3, hgo.trans q4⟩
 rw [← hyb]
 have F0 : Fr [] w (w.alloc (.cells #[.int .i64 6, .int .i64 O, .int .i64 A, .int .i64 B, .int .i64 C, .int .i64 X, ls] 58)) := Fr.alloc [] _ _
 have HF0 := mkHid F0
 have HY : Hid (WOk (w.alloc (.cells #[.int .i64 6, .int .i64 O, .int .i64 A, .int .i64 B, .int .i64 C, .int .i64 X, ls] 58)) n a y) := hy.idle F0
 have HBl : Hid (∀ V Y, Fr Y (w.alloc (.cells #[.int .i64 6, .int .i64 O, .int .i64 A, .int .i64 B, .int .i64 C, .int .i64 X, ls] 58)) V → (∀ g ∈ Y, g < w.heap.size) → V.heap[w.heap.size]? = some (.cells #[.int .i64 6, .int .i64 O, .int .i64 A, .int .i64 B, .int .i64 C, .int .i64 X, ls] 58 (0, 0))) := fun V Y hV hX => (hV.block w.heap.size (by simp) (fun hm => by have := hX _ hm; omega)).trans (heap_alloc_new w _)
 have HLt : Hid (∀ g, Liv y g → g < w.heap.size) := fun g hg => hy.lt hg
 obtain ⟨c0, c1⟩ := cells_of HY.out ha a ha
 have eA : y.at a a = y.dA := if_pos rfl
 rw [eA] at c0 c1
 have a1 : (0 : Int) ≤ (a : Int) := by omega
 have a2 : (a : Int) < 2 := by omega
 clear h hy hgo hyb F0
 unfold stepV
 go_enter Tryd.func39, Tryd.ntmps39
 go_wp2_with fail
 generalize w.alloc (.cells #[.int .i64 6, .int .i64 O, .int .i64 A, .int .i64 B, .int .i64 C, .int .i64 X, ls] 58) = W0 at *
 obtain ⟨s0, hs0⟩ : ∃ s0, s0 = w.heap.size := ⟨_, rfl⟩
 rw [← hs0] at HBl HLt
 rw [← hs0]
 clear hs0
 have HZ : Hid (∀ V, Hid (Fr [] W0 V) → StepTo w n x V) := fun V hq => HSt.out V ⟨y, a, ha, rfl, (HY.out.idle hq.out).more (by omega), Go1.idle y (HF0.out.trans hq.out (by simp))⟩
 have HCl : Hid (∀ V, Hid (Fr [] W0 V) → V.cell? ⟨s0, 2, none⟩ = some (.int .i64 A) ∧ V.cell? ⟨s0, 3, none⟩ = some (.int .i64 B)) := fun V hq => by
  have hb := HBl.out V _ hq.out (by simp)
  exact ⟨by rw [cell_in hb]; rfl, by rw [cell_in hb]; rfl⟩
 obtain ⟨z1, z2, hz0, hp0, hr0⟩ := ro_at W0 n y.dA A B HY.out.okA
 have HP0 := mkHid hp0
 have HR0 := mkHid hr0
 have q0 : Hid (Fr [] W0 W0) := Fr.refl _ _
 clear HY HBl HLt HF0 HSt hp0 hr0
 generalize vO y.dA = vo at *
 generalize vR y.dA = vr at *
 refine (HP0.out W0 q0).mono ?_
 rintro e w1 ⟨rfl, q1⟩
 obtain ⟨d2, d3⟩ := HCl.out w1 q1
 clear q0
 go_wp2_with (go_at_call 11; refine (num_any _ _ (by omega) (by omega)).mono ?_; rintro e w' ⟨rfl, hw'⟩; rw [hw']; clear hw' w')
 refine (HR0.out w1 q1).mono ?_
 rintro e w2 ⟨rfl, q2⟩
 obtain ⟨d2, d3⟩ := HCl.out w2 q2
 clear q1
 go_wp2_with (go_at_call 11; refine (num_any _ _ (by omega) (by omega)).mono ?_; rintro e w' ⟨rfl, hw'⟩; rw [hw']; clear hw' w')
 go_ret
 exact ⟨rfl, HZ.out _ q2⟩
end Go.Proofs.YtklfnjlenbgmoaaDoor
namespace Go.Proofs.YtklfnjlenbgmoaaDoor
open Go.RowKit Go.Maps
theorem info62 : (Tryd.prog.info? 62).map (fun i => (i.zero, i.size, i.bytes)) = some (some (.agg #[.pointer none, .int .i64 0, .int .i64 0]), 3, 24) := by kernel_rfl
theorem info139 : (Tryd.prog.info? 139).map (fun i => (i.zero, i.size, i.bytes)) = some (some (.agg #[.pointer none, .int .i64 0, .int .i64 0]), 3, 24) := by kernel_rfl
section
variable {w : World} {n t : Nat} {x : Wl}
theorem top_of (h : WOk w n t x) : w.heap[x.b]? = some (.cells #[(x.hd t).o0, (x.hd t).o1, (x.hd t).r0, (x.hd t).r1, x.ps.v, x.ms.v, x.S1.vI.v, x.S1.vM.v, x.S1.vK.v, x.S2.vI.v, x.S2.vM.v, x.S2.vK.v, x.S3.vI.v, x.S3.vM.v, x.S3.vK.v] 85 (0, 0)) := by
 have := h.bok.top
 have e1 : (x.hd t).ps = x.ps.v := by unfold Wl.hd; split <;> rfl
 have e2 : (x.hd t).ms = x.ms.v := by unfold Wl.hd; split <;> rfl
 rw [e1, e2] at this
 exact this
theorem pt_at (h : WOk w n t x) {k : Nat} (hk : k < x.pts.length) : ∃ p ∈ x.pts, (∃ g, x.ps.p = some ⟨g, 0, none⟩ ∧ g ∈ blk x.ps.p ∧ g < w.heap.size ∧ w.cell? ⟨g, k * 3, none⟩ = some (.pointer p.u) ∧ w.cell? ⟨g, k * 3 + 1, none⟩ = some (.int .i64 (p.ag : Int)) ∧ w.cell? ⟨g, k * 3 + 2, none⟩ = some (.int .i64 (p.n : Int))) ∧
  ∃ g, x.ms.p = some ⟨g, 0, none⟩ ∧ g ∈ blk x.ms.p ∧ g < w.heap.size ∧ w.cell? ⟨g, k * 3, none⟩ = some (.pointer p.v) ∧ w.cell? ⟨g, k * 3 + 1, none⟩ = some (.int .i64 (p.pb : Int)) ∧ w.cell? ⟨g, k * 3 + 2, none⟩ = some (.int .i64 (p.tn : Int)) := by
 have gen : ∀ (f : Pt → List Value), (∀ q, (f q).length = 3) → ∀ (l : List Pt) (k r : Nat) (hk : k < l.length), r < 3 → (l.flatMap f)[k * 3 + r]? = (f l[k])[r]? := by
  intro f hf l
  induction l with
  | nil => intro k r hk; simp at hk
  | cons a l ih =>
   intro k r hk hr
   rw [List.flatMap_cons]
   cases k with
   | zero => rw [Nat.zero_mul, Nat.zero_add, List.getElem?_append_left (by rw [hf]; exact hr)]; rfl
   | succ k =>
    rw [List.getElem?_append_right (by rw [hf]; omega), hf, show (k + 1) * 3 + r - 3 = k * 3 + r from by omega]
    exact ih k r (by simpa using hk) hr
 have row : ∀ {e : TypeId} {v : Le} (f : Pt → List Value), (∀ q, (f q).length = 3) → v.n = x.pts.length → w.ownsRow 0 e 3 v.v v.n (x.pts.flatMap f) → ∃ g, v.p = some ⟨g, 0, none⟩ ∧ g ∈ blk v.p ∧ g < w.heap.size ∧ ∀ r, r < 3 → w.cell? ⟨g, k * 3 + r, none⟩ = (f x.pts[k])[r]? := by
  intro e v f hf hn hr
  rcases hr.2 with ⟨h2, h3⟩ | ⟨g, cap, cur, h2, h3⟩
  ·omega
  ·have e : v.p = some ⟨g, 0, none⟩ := by
    obtain ⟨p, k, c⟩ := v
    have h2' : Value.slice p k c = _ := h2
    injection h2' with h2'
   refine ⟨g, e, by rw [e]; simp [blk], lt_of_heap h3.2.1, fun r hr3 => ?_⟩
   rw [h2] at hr
   rw [hr.cellAt (k * 3 + r) (by omega)]
   exact gen f hf x.pts k r hk hr3
 obtain ⟨g, g1, g2, g3, g4⟩ := row Pt.cP (fun _ => rfl) h.np h.rp
 obtain ⟨m, m1, m2, m3, m4⟩ := row Pt.cR (fun _ => rfl) h.nm h.rm
 exact ⟨x.pts[k], List.getElem_mem hk, ⟨g, g1, g2, g3, g4 0 (by omega), g4 1 (by omega), g4 2 (by omega)⟩, m, m1, m2, m3, m4 0 (by omega), m4 1 (by omega), m4 2 (by omega)⟩
theorem WOk.point (h : WOk w n t x) (hn : n ≤ 10000000) (p : Pt) (hp : p.u = none ∧ p.v = none ∨ ∃ d, x.dA = some d ∧ PtMine d p) {V : World} (hV : Fr [] w V) :
  ∃ p1 c1 w1, (Builtin.append_ #[76, 76] 76 #[.slice x.ps.p x.pts.length x.ps.c, .slice (some ⟨V.heap.size, 0, none⟩) 1 1]).run Tryd.prog (V.alloc (.cells #[.pointer p.u, .int .i64 (p.ag : Int), .int .i64 (p.n : Int)] 62)) = .ok (.slice p1 (x.pts.length + 1) c1) w1 ∧
   w1.cell? ⟨x.b, 4, none⟩ = some (.slice x.ps.p x.pts.length x.ps.c) ∧ w1.frozen? ⟨x.b, 4, none⟩ = false ∧
   (w1.setCell ⟨x.b, 4, none⟩ (.slice p1 (x.pts.length + 1) c1)).cell? ⟨x.b, 5, none⟩ = some (.slice x.ms.p x.pts.length x.ms.c) ∧ PrOk (w1.setCell ⟨x.b, 4, none⟩ (.slice p1 (x.pts.length + 1) c1)) n x.dA ∧ x.b < (w1.setCell ⟨x.b, 4, none⟩ (.slice p1 (x.pts.length + 1) c1)).heap.size ∧
   ∀ V2, Fr [] (w1.setCell ⟨x.b, 4, none⟩ (.slice p1 (x.pts.length + 1) c1)) V2 → V2.cell? ⟨x.b, 5, none⟩ = some (.slice x.ms.p x.pts.length x.ms.c) ∧
    ∃ p4 c4 w4, (Builtin.append_ #[77, 77] 77 #[.slice x.ms.p x.pts.length x.ms.c, .slice (some ⟨V2.heap.size, 0, none⟩) 1 1]).run Tryd.prog (V2.alloc (.cells #[.pointer p.v, .int .i64 (p.pb : Int), .int .i64 (p.tn : Int)] 139)) = .ok (.slice p4 (x.pts.length + 1) c4) w4 ∧
    w4.cell? ⟨x.b, 5, none⟩ = some (.slice x.ms.p x.pts.length x.ms.c) ∧ w4.frozen? ⟨x.b, 5, none⟩ = false ∧
    WOk (w4.setCell ⟨x.b, 5, none⟩ (.slice p4 (x.pts.length + 1) c4)) (n + 1) t { x with ps := ⟨p1, x.pts.length + 1, c1⟩, ms := ⟨p4, x.pts.length + 1, c4⟩, pts := x.pts ++ [p] } ∧
    Go1 w (w4.setCell ⟨x.b, 5, none⟩ (.slice p4 (x.pts.length + 1) c4)) x { x with ps := ⟨p1, x.pts.length + 1, c1⟩, ms := ⟨p4, x.pts.length + 1, c4⟩, pts := x.pts ++ [p] } := by
 have c0 := h.c0
 have hv := h.idle hV
 have sV := hV.size
 have hbl := h.lt (liv0 (x := x))
 have eP : x.ps.v = .slice x.ps.p x.pts.length x.ps.c := by rw [← h.np]; rfl
 have eM : x.ms.v = .slice x.ms.p x.pts.length x.ms.c := by rw [← h.nm]; rfl
 obtain ⟨i1, j1, j2, j3, j4⟩ := info_parts info62
 obtain ⟨i2, l1, l2, l3, l4⟩ := info_parts info139
 have rp : V.ownsRow 0 62 3 (.slice x.ps.p x.pts.length x.ps.c) x.pts.length (x.pts.flatMap Pt.cP) := by rw [← eP, ← h.np]; exact hv.rp
 obtain ⟨p1, c1, w1, r1, o1, mv1⟩ := pushW Tryd.underlying76 j1 j2 j3 j4 rfl (by decide) V 0 x.pts.length x.ps.p x.ps.c (x.pts.flatMap Pt.cP) p.cP rp rfl (by intro u hu; simp [Pt.cP] at hu; rcases hu with rfl | rfl | rfl <;> rfl) (by unfold maxLen; omega) (by omega) (Nat.zero_le _)
 have fr1 : Fr (blk x.ps.p) V w1 := by
  rcases mv1 with ⟨-, -, e3⟩ | ⟨e1, -⟩
  ·exact e3
  ·exact e1.mono (by simp)
 have mem1 : ∀ g ∈ blk p1, g ∈ blk x.ps.p ∨ w.heap.size ≤ g := fun g hg => by
  rcases mv1 with ⟨e1, -, -⟩ | ⟨-, e2⟩
  ·exact .inl (e1 ▸ hg)
  ·exact .inr (by have := e2 g hg; omega)
 have t0 := top_of hv
 have b2 : x.b ∉ blk x.ps.p := h.dj (i := 0) (j := 2) rfl rfl (by decide) (List.mem_singleton.2 rfl)
 have b3 : x.b ∉ blk x.ms.p := h.dj (i := 0) (j := 3) rfl rfl (by decide) (List.mem_singleton.2 rfl)
 have t1 := (fr1.block x.b (by omega) b2).trans t0
 have s1 := fr1.size
 have F2 : Fr [x.b] w1 (w1.setCell ⟨x.b, 4, none⟩ (.slice p1 (x.pts.length + 1) c1)) := Fr.setCell (S := [x.b]) w1 ⟨x.b, 4, none⟩ _ (by simp)
 have FF : Fr (x.b :: blk x.ps.p) w (w1.setCell ⟨x.b, 4, none⟩ (.slice p1 (x.pts.length + 1) c1)) := ((hV.mono (by simp)).trans fr1 fun g hg => .inl (List.mem_cons.2 (.inr hg))).trans F2 fun g hg => .inl (List.mem_cons.2 (.inl (List.mem_singleton.1 hg)))
 have t2 : (w1.setCell ⟨x.b, 4, none⟩ (.slice p1 (x.pts.length + 1) c1)).heap[x.b]? = some (.cells #[(x.hd t).o0, (x.hd t).o1, (x.hd t).r0, (x.hd t).r1, .slice p1 (x.pts.length + 1) c1, x.ms.v, x.S1.vI.v, x.S1.vM.v, x.S1.vK.v, x.S2.vI.v, x.S2.vM.v, x.S2.vK.v, x.S3.vI.v, x.S3.vM.v, x.S3.vK.v] 85 (0, 0)) := by rw [set_in t1 4 _]; rfl
 have out : ∀ {j : Nat} {B : List Nat}, x.L[j]? = some B → 1 ≤ j → j ≠ 2 → ∀ g ∈ B, g ∉ x.b :: blk x.ps.p := fun {j B} hj h2 h3 g hg hm => by
  rcases List.mem_cons.1 hm with e | e
  ·exact h.dj (i := 0) rfl hj (by omega) (List.mem_singleton.2 e) hg
  ·exact h.dj (i := 2) rfl hj (by omega) e hg
 refine ⟨p1, c1, w1, r1, by rw [cell_in t1, ← eP]; rfl, frozen_in t1 4, by rw [cell_in t2, ← eM]; rfl, h.okA.keep FF (out (j := 4) rfl (by decide) (by decide)), lt_of_heap t2, fun V2 hV2 => ?_⟩
 have t3 := (hV2.block x.b (lt_of_heap t2) (by simp)).trans t2
 have sF := FF.size
 have s2 := hV2.size
 have rm : V2.ownsRow 0 139 3 (.slice x.ms.p x.pts.length x.ms.c) x.pts.length (x.pts.flatMap Pt.cR) := by
  rw [← eM, ← h.nm]
  exact ow_keep (ow_keep h.rm FF (out (j := 3) rfl (by decide) (by decide))) hV2 (by simp)
 obtain ⟨p4, c4, w4, r4, o4, mv4⟩ := pushW Tryd.underlying77 l1 l2 l3 l4 rfl (by decide) V2 0 x.pts.length x.ms.p x.ms.c (x.pts.flatMap Pt.cR) p.cR rm rfl (by intro u hu; simp [Pt.cR] at hu; rcases hu with rfl | rfl | rfl <;> rfl) (by unfold maxLen; omega) (by omega) (Nat.zero_le _)
 have fr4 : Fr (blk x.ms.p) V2 w4 := by
  rcases mv4 with ⟨-, -, e3⟩ | ⟨e1, -⟩
  ·exact e3
  ·exact e1.mono (by simp)
 have mem4 : ∀ g ∈ blk p4, g ∈ blk x.ms.p ∨ V2.heap.size ≤ g := fun g hg => by
  rcases mv4 with ⟨e1, -, -⟩ | ⟨-, e2⟩
  ·exact .inl (e1 ▸ hg)
  ·exact .inr (e2 g hg)
 have t4 := (fr4.block x.b (lt_of_heap t3) b3).trans t3
 have F5 : Fr [x.b] w4 (w4.setCell ⟨x.b, 5, none⟩ (.slice p4 (x.pts.length + 1) c4)) := Fr.setCell (S := [x.b]) w4 ⟨x.b, 5, none⟩ _ (by simp)
 have t5 : (w4.setCell ⟨x.b, 5, none⟩ (.slice p4 (x.pts.length + 1) c4)).heap[x.b]? = some (.cells #[(x.hd t).o0, (x.hd t).o1, (x.hd t).r0, (x.hd t).r1, .slice p1 (x.pts.length + 1) c1, .slice p4 (x.pts.length + 1) c4, x.S1.vI.v, x.S1.vM.v, x.S1.vK.v, x.S2.vI.v, x.S2.vM.v, x.S2.vK.v, x.S3.vI.v, x.S3.vM.v, x.S3.vK.v] 85 (0, 0)) := by rw [set_in t4 5 _]; rfl
 have G4 : Fr (x.b :: blk x.ms.p) V2 (w4.setCell ⟨x.b, 5, none⟩ (.slice p4 (x.pts.length + 1) c4)) := (fr4.mono fun g hg => .inl (List.mem_cons.2 (.inr hg))).trans F5 fun g hg => .inl (List.mem_cons.2 (.inl (List.mem_singleton.1 hg)))
 have G : Fr (x.b :: (blk x.ps.p ++ blk x.ms.p)) w (w4.setCell ⟨x.b, 5, none⟩ (.slice p4 (x.pts.length + 1) c4)) := by
  refine ((FF.mono fun g hg => .inl ?_).trans hV2 (by simp)).trans G4 fun g hg => .inl ?_
  ·rcases List.mem_cons.1 hg with e | e
   ·exact List.mem_cons.2 (.inl e)
   ·exact List.mem_cons.2 (.inr (List.mem_append.2 (.inl e)))
  ·rcases List.mem_cons.1 hg with e | e
   ·exact List.mem_cons.2 (.inl e)
   ·exact List.mem_cons.2 (.inr (List.mem_append.2 (.inr e)))
 have outG : ∀ {j : Nat} {B : List Nat}, x.L[j]? = some B → 1 ≤ j → j ≠ 2 → j ≠ 3 → ∀ g ∈ B, g ∉ x.b :: (blk x.ps.p ++ blk x.ms.p) := fun {j B} hj h2 h3 h4 g hg hm => by
  rcases List.mem_cons.1 hm with e | e
  ·exact h.dj (i := 0) rfl hj (by omega) (List.mem_singleton.2 e) hg
  ·rcases List.mem_append.1 e with e | e
   ·exact h.dj (i := 2) rfl hj (by omega) e hg
   ·exact h.dj (i := 3) rfl hj (by omega) e hg
 have hX : ∀ g ∈ x.b :: (blk x.ps.p ++ blk x.ms.p), Liv x g ∨ w.heap.size ≤ g := fun g hg => by
  rcases List.mem_cons.1 hg with e | e
  ·exact .inl (e ▸ liv0)
  ·rcases List.mem_append.1 e with e | e
   ·exact .inl (liv2 e)
   ·exact .inl (liv3 e)
 have hL : ∀ g, Liv { x with ps := ⟨p1, x.pts.length + 1, c1⟩, ms := ⟨p4, x.pts.length + 1, c4⟩, pts := x.pts ++ [p] } g → Liv x g ∨ w.heap.size ≤ g := fun g hg => by
  rcases liv_of hg with e | e | e | e | e | e
  ·exact .inl (e ▸ liv0)
  ·exact .inl (liv1 e)
  ·rcases mem1 g e with q | q
   ·exact .inl (liv2 q)
   ·exact .inr q
  ·rcases mem4 g e with q | q
   ·exact .inl (liv3 q)
   ·exact .inr (by omega)
  ·exact .inl (liv4 e)
  ·exact .inl (liv5 e)
 have hh : Wl.hd t { x with ps := ⟨p1, x.pts.length + 1, c1⟩, ms := ⟨p4, x.pts.length + 1, c4⟩, pts := x.pts ++ [p] } = ⟨(x.hd t).o0, (x.hd t).o1, (x.hd t).r0, (x.hd t).r1, .slice p1 (x.pts.length + 1) c1, .slice p4 (x.pts.length + 1) c4⟩ := by unfold Wl.hd; split <;> rfl
 have p1lt : ∀ g ∈ blk p1, g < (w1.setCell ⟨x.b, 4, none⟩ (.slice p1 (x.pts.length + 1) c1)).heap.size := fun g hg => by
  obtain ⟨-, cur, hc⟩ := le_own (x := ⟨p1, x.pts.length + 1, c1⟩) o1 hg
  have := lt_of_heap hc
  have := F2.size
  omega
 have ap1 : Apt (Wl.L { x with ps := ⟨p1, x.pts.length + 1, c1⟩ }) := h.ap.of h.ltL 2 (blk p1) (fun g hg => by
  rcases mem1 g hg with q | q
  ·exact .inl ⟨_, rfl, q⟩
  ·exact .inr q) rfl
 have ap2 : Apt (Wl.L { x with ps := ⟨p1, x.pts.length + 1, c1⟩, ms := ⟨p4, x.pts.length + 1, c4⟩, pts := x.pts ++ [p] }) := ap1.of (N := (w1.setCell ⟨x.b, 4, none⟩ (.slice p1 (x.pts.length + 1) c1)).heap.size) (fun A hA g hg => by
  have hg' : Liv { x with ps := ⟨p1, x.pts.length + 1, c1⟩ } g := ⟨A, hA, hg⟩
  rcases liv_of hg' with e | e | e | e | e | e
  ·rw [e]; exact lt_of_heap t2
  ·have := h.lt (liv1 e); omega
  ·exact p1lt g e
  ·have := h.lt (liv3 e); omega
  ·have := h.lt (liv4 e); omega
  ·have := h.lt (liv5 e); omega) 3 (blk p4) (fun g hg => by
  rcases mem4 g hg with q | q
  ·exact .inl ⟨_, rfl, q⟩
  ·exact .inr (by omega)) rfl
 have d13 : ∀ g ∈ blk p1, g ∉ x.b :: blk x.ms.p := fun g hg hm => by
  rcases List.mem_cons.1 hm with e | e
  ·rcases mem1 g hg with q | q
   ·exact b2 (e ▸ q)
   ·omega
  ·rcases mem1 g hg with q | q
   ·exact h.dj (i := 2) (j := 3) rfl rfl (by decide) q e
   ·have := h.lt (liv3 e); omega
 have d4b : ∀ g ∈ blk p4, g ∉ [x.b] := fun g hg hm => by
  have e := List.mem_singleton.1 hm
  rcases mem4 g hg with q | q
  ·exact b3 (e ▸ q)
  ·have := lt_of_heap t3; omega
 have kb : Bok (w4.setCell ⟨x.b, 5, none⟩ (.slice p4 (x.pts.length + 1) c4)) x.b ⟨(x.hd t).o0, (x.hd t).o1, (x.hd t).r0, (x.hd t).r1, .slice p1 (x.pts.length + 1) c1, .slice p4 (x.pts.length + 1) c4⟩ x.S1 x.S2 x.S3 := by
  have ob := outG (j := 1) rfl (by decide) (by decide) (by decide)
  exact ⟨t5, h.bok.ok1.keep G fun g hg => ob g (bokF1 hg), h.bok.ok2.keep G fun g hg => ob g (bokF2 hg), h.bok.ok3.keep G fun g hg => ob g (bokF3 hg), h.bok.b1, h.bok.b2, h.bok.b3, h.bok.d12, h.bok.d13, h.bok.d23⟩
 have fl : ∀ (f : Pt → List Value), x.pts.flatMap f ++ f p = (x.pts ++ [p]).flatMap f := fun f => by rw [List.flatMap_append]; simp
 refine ⟨by rw [cell_in t3, ← eM]; rfl, p4, c4, w4, r4, by rw [cell_in t4, ← eM]; rfl, frozen_in t4 5, ⟨by rw [hh]; exact kb, (h.okA.keep G (outG (j := 4) rfl (by decide) (by decide) (by decide))).more (by omega), (h.okB.keep G (outG (j := 5) rfl (by decide) (by decide) (by decide))).more (by omega), h.tb.keep G fun g hg => ?_, by show x.pts.length + 1 = (x.pts ++ [p]).length; simp, by show x.pts.length + 1 = (x.pts ++ [p]).length; simp, ?_, ?_, ap2, fun g hg => ?_, fun q hq => ?_, by show (x.pts ++ [p]).length ≤ _; simp; omega, Nat.le_trans h.c1 (Nat.mul_le_mul_left _ (by omega)), Nat.le_trans h.c2 (Nat.mul_le_mul_left _ (by omega)), Nat.le_trans h.c3 (Nat.mul_le_mul_left _ (by omega))⟩, ⟨_, G, hX⟩, hL⟩
 ·rcases hX g hg with q | q
  ·exact h.lo g q
  ·have := h.tb.s; omega
 ·rw [fl] at o1
  exact ow_keep (x := ⟨p1, x.pts.length + 1, c1⟩) (ow_keep (x := ⟨p1, x.pts.length + 1, c1⟩) (ow_keep (x := ⟨p1, x.pts.length + 1, c1⟩) o1 F2 (fun g hg hm => d13 g hg (List.mem_cons.2 (.inl (List.mem_singleton.1 hm))))) hV2 (by simp)) G4 d13
 ·rw [fl] at o4
  exact ow_keep (x := ⟨p4, x.pts.length + 1, c4⟩) o4 F5 d4b
 ·rcases hL g hg with q | q
  ·exact h.lo g q
  ·have := h.tb.s; omega
 ·rcases List.mem_append.1 hq with hq | hq
  ·exact (h.pc q hq).keep G hX hL (fun d hd => ⟨d, hd, id⟩) rfl
  ·have e : q = p := by simpa using hq
   rw [e]
   rcases hp with hp | hp
   ·exact .inl hp
   ·exact .inr (.inl hp)
end
end Go.Proofs.YtklfnjlenbgmoaaDoor
