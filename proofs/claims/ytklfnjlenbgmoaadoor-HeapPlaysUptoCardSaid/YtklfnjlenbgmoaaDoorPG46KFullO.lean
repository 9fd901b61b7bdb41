import Derived.Test.YtklfnjlenbgmoaaDoorPHPs4
import Derived.Test.YtklfnjlenbgmoaaDoorPG39HPs6
import Derived.Test.YtklfnjlenbgmoaaDoorPHPs7
import Derived.Test.YtklfnjlenbgmoaaDoorPHPs8
import Derived.Test.YtklfnjlenbgmoaaDoorPG43HPt5
import Derived.Test.YtklfnjlenbgmoaaDoorPHPu1
import Derived.Test.YtklfnjlenbgmoaaDoorPG33KSecA
import Derived.WalkKit
import Derived.OpenShut
import Derived.LaidMore
import Derived.SizedLaws
import Derived.Deep.Slices
import Derived.ChangeSlices
import Derived.Test.YtklfnjlenbgmoaaDoorRows
import Derived.Test.YtklfnjlenbgmoaaDoorPG15HLoadW
import Derived.BigQuiet
set_option linter.unusedSimpArgs false
set_option linter.unusedVariables false
namespace Go.Proofs.YtklfnjlenbgmoaaDoor
open Go.RowKit Go.Maps
attribute [local go_sem ↓] Go.wp_at_zero Go.wp_at_succ
theorem more_any (K O A B C X : Int) (zs : List Int) (ao : Option Addr) (cc : Nat) (n a : Nat) (y : Wl) (w : World) (h : WOk w n a y) (ha : a ≤ 1) (hn : n ≤ 4000000) (hzl : zs.length ≤ 1048576) (hL : Rd w (.slice ao zs.length cc) zs) (hNL : 0 < zs.length → ∀ g, (Value.slice ao zs.length cc).ownBlock = some g → ¬ Liv y g) :
  Calls Tryd.prog 89 #[.pointer (some ⟨y.b, 0, none⟩), stepV K O A B C X (.slice ao zs.length cc), .int .i64 (a : Int)] w fun e w' => e = .returned (.bool true) ∧ StepTo w n y w' := by
 by_cases k1 : K = 11
 ·subst k1; exact mr_keep O A B C X zs ao cc n a y w h ha hn hzl hL hNL
 by_cases k2 : K = 12
 ·subst k2; exact mr_all O A B C X _ n a y w h ha hn
 by_cases k3 : K = 13
 ·subst k3; exact mr_state O A B C X _ n a y w h ha hn
 by_cases k4 : K = 14
 ·subst k4; exact mr_load O A B C X _ n a y w h ha hn
 by_cases k5 : K = 15
 ·subst k5; exact mr_nil O A B C X _ n a y w h ha hn
 exact mr_else K O A B C X _ k1 k2 k3 k4 k5 n a y w h ha hn
set_option maxRecDepth 20000 in
set_option maxHeartbeats 4000000 in
theorem lw_more (K O A B C X : Int) (ls : Value) (n t : Nat) (x : Wl) (w : World) (h : WOk w n t x) (ht : t ≤ 1) (hn : n ≤ 10000000) (zs : List Int) (ao : Option Addr) (cc : Nat) (hls : ls = .slice ao zs.length cc) (hn4 : n ≤ 4000000) (hzl : zs.length ≤ 1048576) (hL : Rd w ls zs) (hNL : 0 < zs.length → ∀ g, ls.ownBlock = some g → ¬ Liv x g) (k1 : ¬ K = 1) (k2 : ¬ K = 2) (k3 : ¬ K = 3) (k4 : ¬ K = 4) (k5 : ¬ K = 5) (k6 : ¬ K = 6) (k7 : ¬ K = 7) (k8 : ¬ K = 8) (k9 : ¬ K = 9) (k10 : ¬ K = 10) :
  Calls Tryd.prog 39 #[.pointer (some ⟨x.b, 0, none⟩), stepV K O A B C X ls] w fun e w' => e = .returned (.bool true) ∧ StepTo w n x w' := by
 have HLs := mkHid hls
 clear hls
 obtain ⟨r, s, a, e1, e2, e3, ha, e4, e5⟩ := hand_num O
 obtain ⟨y, hyb, hy, hgo⟩ := take_hand h ht a ha
 have HSt : Hid (∀ w', StepTo w n y w' → StepTo w n x w') := fun w' ⟨x', t', q1, q2, q3, q4⟩ => ⟨x', t', q1, q2.trans hyb, q3, hgo.trans q4⟩
 rw [← hyb]
 have F0 : Fr [] w (w.alloc (.cells #[.int .i64 K, .int .i64 O, .int .i64 A, .int .i64 B, .int .i64 C, .int .i64 X, ls] 58)) := Fr.alloc [] _ _
 have HF0 := mkHid F0
 have HY : Hid (WOk (w.alloc (.cells #[.int .i64 K, .int .i64 O, .int .i64 A, .int .i64 B, .int .i64 C, .int .i64 X, ls] 58)) n a y) := hy.idle F0
 have HBl : Hid (∀ V Y, Fr Y (w.alloc (.cells #[.int .i64 K, .int .i64 O, .int .i64 A, .int .i64 B, .int .i64 C, .int .i64 X, ls] 58)) V → (∀ g ∈ Y, g < w.heap.size) → V.heap[w.heap.size]? = some (.cells #[.int .i64 K, .int .i64 O, .int .i64 A, .int .i64 B, .int .i64 C, .int .i64 X, ls] 58 (0, 0))) := fun V Y hV hX => (hV.block w.heap.size (by simp) (fun hm => by have := hX _ hm; omega)).trans (heap_alloc_new w _)
 have HLt : Hid (∀ g, Liv y g → g < w.heap.size) := fun g hg => hy.lt hg
 obtain ⟨c0, c1⟩ := cells_of HY.out ha a ha
 have eA : y.at a a = y.dA := if_pos rfl
 rw [eA] at c0 c1
 have a1 : (0 : Int) ≤ (a : Int) := by omega
 have a2 : (a : Int) < 2 := by omega
 have HMo : Hid (Calls Tryd.prog 89 #[.pointer (some ⟨y.b, 0, none⟩), .agg #[.int .i64 K, .int .i64 O, .int .i64 A, .int .i64 B, .int .i64 C, .int .i64 X, ls], .int .i64 (a : Int)] (w.alloc (.cells #[.int .i64 K, .int .i64 O, .int .i64 A, .int .i64 B, .int .i64 C, .int .i64 X, ls] 58)) fun e w' => e = .returned (.bool true) ∧ StepTo (w.alloc (.cells #[.int .i64 K, .int .i64 O, .int .i64 A, .int .i64 B, .int .i64 C, .int .i64 X, ls] 58)) n y w') := by
  have hls := HLs.out
  subst hls
  exact more_any K O A B C X zs ao cc n a y _ HY.out ha hn4 hzl (hL.idle F0) fun h0 g hg hm => by
   rcases hgo.liv g hm with q | q
   ·exact hNL h0 g hg q
   ·have := hL.lt h0 g hg; omega
 clear h hy hgo hyb F0 hL hNL
 unfold stepV
 go_enter Tryd.func39, Tryd.ntmps39
 go_wp2_with fail
 generalize w.alloc (.cells #[.int .i64 K, .int .i64 O, .int .i64 A, .int .i64 B, .int .i64 C, .int .i64 X, ls] 58) = W0 at *
 obtain ⟨s0, hs0⟩ : ∃ s0, s0 = w.heap.size := ⟨_, rfl⟩
 rw [← hs0] at HBl HLt
 rw [← hs0]
 clear hs0
 refine HMo.out.mono ?_
 rintro e w1 ⟨rfl, x', t', q1, q2, q3, q4⟩
 have HZ := mkHid (HSt.out w1 ⟨x', t', q1, q2, q3, (Go1.idle y HF0.out).trans q4⟩)
 clear q1 q2 q3 q4 HMo
 go_wp2_with fail
 go_ret
 exact ⟨rfl, HZ.out⟩
theorem law_step (K O A B C X : Int) (zs : List Int) (ao : Option Addr) (cc : Nat) (n t : Nat) (x : Wl) (w : World) (h : WOk w n t x) (ht : t ≤ 1) (hn : n ≤ 4000000) (hzl : zs.length ≤ 1048576) (hL : Rd w (.slice ao zs.length cc) zs) (hNL : 0 < zs.length → ∀ g, (Value.slice ao zs.length cc).ownBlock = some g → ¬ Liv x g) :
  Calls Tryd.prog 39 #[.pointer (some ⟨x.b, 0, none⟩), stepV K O A B C X (.slice ao zs.length cc)] w fun e w' => e = .returned (.bool true) ∧ StepTo w n x w' := by
 have hn' : n ≤ 10000000 := by omega
 by_cases k1 : K = 1
 ·subst k1; exact lw_alloc O A B C X _ n t x w h ht hn'
 by_cases k2 : K = 2
 ·subst k2; exact lw_mark O A B C X _ n t x w h ht hn'
 by_cases k3 : K = 3
 ·subst k3; exact lw_free O A B C X _ n t x w h ht hn'
 by_cases k4 : K = 4
 ·subst k4; exact lw_class O A B C X _ n t x w h ht hn'
 by_cases k5 : K = 5
 ·subst k5; exact lw_cls O A B C X _ n t x w h ht hn'
 by_cases k6 : K = 6
 ·subst k6; exact lw_at O A B C X _ n t x w h ht hn'
 by_cases k7 : K = 7
 ·subst k7; exact lw_put O A B C X _ n t x w h ht hn'
 by_cases k8 : K = 8
 ·subst k8; exact lw_exch O A B C X _ n t x w h ht hn'
 by_cases k9 : K = 9
 ·subst k9; exact lw_point O A B C X _ n t x w h ht hn'
 by_cases k10 : K = 10
 ·subst k10; exact lw_back O A B C X _ n t x w h ht hn'
 exact lw_more K O A B C X _ n t x w h ht hn' zs ao cc rfl hn hzl hL hNL k1 k2 k3 k4 k5 k6 k7 k8 k9 k10
set_option maxRecDepth 20000 in
set_option maxHeartbeats 4000000 in
theorem a2_ok (n t : Nat) (x : Wl) (i : Nat) (w : World) (h : WOk w n t x) (ht : t ≤ 1) (hi : i ≤ 1) {sx sy sz : Nat} {ks : List (Nat × Int × Nat × List Int)} {M' : MS} (hS : StOf w (x.at t i) sx sy sz ks M') : Calls Tryd.prog 42 #[.pointer (some ⟨x.b, 0, none⟩), .int .i64 (i : Int)] w fun e w'' => ∃ ov ls, e = .returned (.agg #[.int .i64 (sx : Int), .int .i64 (sy : Int), .int .i64 (sz : Int), ov]) ∧ SRep w'' w.heap.size ov ls ∧ ls.map osKey = ks ∧ Fr [] w w'' ∧ ApO ls := by
 obtain ⟨c0, c1⟩ := cells_of h ht i hi
 have i1 : (0 : Int) ≤ (i : Int) := by omega
 have i2 : (i : Int) < 2 := by omega
 have HS := mkHid (hS.prog w (Fr.refl _ _))
 have HCl : Hid (∀ V, Hid (Fr [] w V) → V.cell? ⟨x.b, i, none⟩ = some (vO (x.at t i)) ∧ Calls Tryd.prog 23 #[vO (x.at t i)] V fun e w'' => ∃ ov ls, e = .returned (.agg #[.int .i64 (sx : Int), .int .i64 (sy : Int), .int .i64 (sz : Int), ov]) ∧ SRep w'' V.heap.size ov ls ∧ ls.map osKey = ks ∧ Fr [] V w'' ∧ ApO ls) := fun V hV => ⟨(cells_of (h.idle hV.out) ht i hi).1, hS.prog V hV⟩
 clear h hS
 generalize vO (x.at t i) = vo at *
 obtain ⟨d0, h23⟩ := HCl.out (w.alloc (.cells #[.int .i64 0, .int .i64 0, .int .i64 0, .slice none 0 0] 38)) (Fr.alloc [] _ _)
 have H23 := mkHid h23
 clear h23 HS HCl
 go_enter Tryd.func42, Tryd.ntmps42
 go_wp2_with fail
 refine H23.out.mono ?_
 rintro e w1 ⟨ov1, l1, rfl, r1, e1, f1, p1⟩
 obtain ⟨⟨pp1, pn1, pc1⟩, hv1, -, -⟩ := le_of r1.row
 replace hv1 : Value.slice pp1 pn1 pc1 = ov1 := hv1
 subst hv1
 have hres : w1.heap[w.heap.size]? = some (.cells #[.int .i64 0, .int .i64 0, .int .i64 0, .slice none 0 0] 38 (0, 0)) := (f1.block w.heap.size (by simp) (by simp)).trans (heap_alloc_new w _)
 have x0 : w1.cell? ⟨w.heap.size, 0, none⟩ = some (.int .i64 0) := by rw [cell_in hres]; rfl
 have x1 : w1.cell? ⟨w.heap.size, 1, none⟩ = some (.int .i64 0) := by rw [cell_in hres]; rfl
 have x2 : w1.cell? ⟨w.heap.size, 2, none⟩ = some (.int .i64 0) := by rw [cell_in hres]; rfl
 have x3 : w1.cell? ⟨w.heap.size, 3, none⟩ = some (.slice none 0 0) := by rw [cell_in hres]; rfl
 have y0 := frozen_in hres 0
 have y1 := frozen_in hres 1
 have y2 := frozen_in hres 2
 have y3 := frozen_in hres 3
 have HR1 := mkHid (And.intro r1 (And.intro e1 (And.intro f1 p1)))
 have HRes := mkHid hres
 clear r1 e1 f1 p1 hres
 go_wp2_with fail
 obtain ⟨V, hV⟩ : ∃ V, V = (((w1.setCell ⟨w.heap.size, 0, none⟩ (.int .i64 (sx : Int))).setCell ⟨w.heap.size, 1, none⟩ (.int .i64 (sy : Int))).setCell ⟨w.heap.size, 2, none⟩ (.int .i64 (sz : Int))).setCell ⟨w.heap.size, 3, none⟩ (.slice pp1 pn1 pc1) := ⟨_, rfl⟩
 have hVb : V.heap[w.heap.size]? = some (.cells #[.int .i64 (sx : Int), .int .i64 (sy : Int), .int .i64 (sz : Int), .slice pp1 pn1 pc1] 38 (0, 0)) := by
  rw [hV, set_in (set_in (set_in (set_in HRes.out 0 _) 1 _) 2 _) 3 _]
  rfl
 have F : Fr [w.heap.size] w1 V := by
  rw [hV]
  exact (((Fr.setCell (S := [w.heap.size]) w1 ⟨w.heap.size, 0, none⟩ (.int .i64 (sx : Int)) (by simp)).trans (Fr.setCell (S := [w.heap.size]) _ ⟨w.heap.size, 1, none⟩ (.int .i64 (sy : Int)) (by simp)) (fun b hb => .inl hb)).trans (Fr.setCell (S := [w.heap.size]) _ ⟨w.heap.size, 2, none⟩ (.int .i64 (sz : Int)) (by simp)) (fun b hb => .inl hb)).trans (Fr.setCell (S := [w.heap.size]) _ ⟨w.heap.size, 3, none⟩ (.slice pp1 pn1 pc1) (by simp)) (fun b hb => .inl hb)
 rw [← hV]
 clear hV x0 x1 x2 x3
 have x0 : V.cell? ⟨w.heap.size, 0, none⟩ = some (.int .i64 (sx : Int)) := by rw [cell_in hVb]; rfl
 have x1 : V.cell? ⟨w.heap.size, 1, none⟩ = some (.int .i64 (sy : Int)) := by rw [cell_in hVb]; rfl
 have x2 : V.cell? ⟨w.heap.size, 2, none⟩ = some (.int .i64 (sz : Int)) := by rw [cell_in hVb]; rfl
 have x3 : V.cell? ⟨w.heap.size, 3, none⟩ = some (.slice pp1 pn1 pc1) := by rw [cell_in hVb]; rfl
 refine bodyPost_ret (v := .agg #[.int .i64 (sx : Int), .int .i64 (sy : Int), .int .i64 (sz : Int), .slice pp1 pn1 pc1]) (by simp [results, Tryd.results42, go_sem, x0, x1, x2, x3]) rfl ?_
 obtain ⟨r1, e1, f1, p1⟩ := HR1.out
 have sz1 : (w.alloc (.cells #[.int .i64 0, .int .i64 0, .int .i64 0, .slice none 0 0] 38)).heap.size = w.heap.size + 1 := by simp
 have r2 := r1.keepF F fun g hg hm => by
  have := (r1.ge g hg).1
  have := List.mem_singleton.1 hm
  omega
 exact ⟨_, l1, rfl, ⟨own_base r2.row (by omega), fun o ho => own_base (r2.slots o ho) (by omega)⟩, e1, ((Fr.alloc [] w _).trans f1 (by simp)).trans F (fun b hb => .inr (by rw [List.mem_singleton.1 hb]; exact Nat.le_refl _)), p1⟩
end Go.Proofs.YtklfnjlenbgmoaaDoor
namespace Go.Proofs.YtklfnjlenbgmoaaDoor
open Go.RowKit Go.Maps
def GoodN (x y : Int) : Prop := 0 ≤ x ∧ x ≤ 1048576 ∧ 0 ≤ y ∧ y ≤ 65536
def NewP (x y : Int) (p : Option Addr) (c : Int) (w w' : World) : Prop := Fr [] w w' ∧ ((p = none ∧ c = 1 ∧ ¬ GoodN x y) ∨ ∃ xn yn : Nat, x = xn ∧ y = yn ∧ GoodN x y ∧ c = 0 ∧ p = some ⟨w.heap.size, 0, none⟩ ∧ Rep w' w.heap.size nilLay (emptyH xn yn))
def NewR (x y : Int) (p : Option Addr) (c : Int) (w w' : World) : Prop := Fr [] w w' ∧ ((p = none ∧ c = 1 ∧ ¬ GoodN x y) ∨ ∃ xn yn : Nat, x = xn ∧ y = yn ∧ GoodN x y ∧ c = 0 ∧ p = some ⟨w.heap.size, 0, none⟩ ∧ RRep w' 0 w.heap.size ⟨xn, yn, 0, 0, 0, [], .slice none 0 0⟩)
theorem newP (x y : Int) (w : World) : ∃ p c, (0 ≤ c ∧ c ≤ 1000) ∧ Calls Tryd.prog 10 #[.int .i64 x, .int .i64 y] w fun e w' => e = .returned (.tuple #[.pointer p, .int .i64 c]) ∧ Hid (NewP x y p c w w') := by
 by_cases h : GoodN x y
 ·obtain ⟨h1, h2, h3, h4⟩ := h
  obtain ⟨xn, rfl⟩ : ∃ n : Nat, x = n := ⟨x.toNat, by omega⟩
  obtain ⟨yn, rfl⟩ : ∃ n : Nat, y = n := ⟨y.toNat, by omega⟩
  exact ⟨_, _, by omega, (New_in xn yn w h2 h4).mono fun e w' ⟨q1, q2, q3, q4⟩ => ⟨q1, q3, .inr ⟨xn, yn, rfl, rfl, ⟨h1, h2, h3, h4⟩, rfl, rfl, q2⟩⟩⟩
 ·exact ⟨_, _, by omega, (New_bad x y w (by unfold GoodN at h; omega)).mono fun e w' ⟨q1, q2⟩ => ⟨q1, by rw [q2]; exact Fr.refl _ _, .inl ⟨rfl, rfl, h⟩⟩⟩
theorem newR (x y : Int) (w : World) : ∃ p c, (0 ≤ c ∧ c ≤ 1000) ∧ Calls Tryd.prog 38 #[.int .i64 x, .int .i64 y] w fun e w' => e = .returned (.tuple #[.pointer p, .int .i64 c]) ∧ Hid (NewR x y p c w w') := by
 by_cases h : GoodN x y
 ·obtain ⟨h1, h2, h3, h4⟩ := h
  obtain ⟨xn, rfl⟩ : ∃ n : Nat, x = n := ⟨x.toNat, by omega⟩
  obtain ⟨yn, rfl⟩ : ∃ n : Nat, y = n := ⟨y.toNat, by omega⟩
  exact ⟨_, _, by omega, (rNew_in xn yn w h2 h4).mono fun e w' ⟨q1, q2, q3⟩ => ⟨q1, q3, .inr ⟨xn, yn, rfl, rfl, ⟨h1, h2, h3, h4⟩, rfl, rfl, q2⟩⟩⟩
 ·exact ⟨_, _, by omega, (rNew_bad x y w (by unfold GoodN at h; omega)).mono fun e w' ⟨q1, q2⟩ => ⟨q1, by rw [q2]; exact Fr.refl _ _, .inl ⟨rfl, rfl, h⟩⟩⟩
theorem doc_empty (xn yn : Nat) : Doc (emptyM xn yn) ⟨xn, yn, 0, 0, 0, [], .slice none 0 0⟩ :=
 ⟨rfl, rfl, rfl, ⟨[], ⟨List.Pairwise.nil, fun x => by simp [emptyM, noTh]⟩, rfl⟩, List.Pairwise.nil, fun b hb => (by cases hb), List.Pairwise.nil⟩
theorem new_pair {x y : Int} {p r : Option Addr} {c d : Int} {w0 w1 w2 w3 : World} (h1 : NewP x y p c w0 w1) (h12 : Fr [] w1 w2) (h3 : NewR x y r d w2 w3) (hs : 2 ≤ w0.heap.size) :
  c = d ∧ p.isNone = r.isNone ∧ ∃ D, vO D = .pointer p ∧ vR D = .pointer r ∧ PrOk w3 0 D ∧ ∀ g ∈ duF D, (w0.heap.size ≤ g ∧ g < w1.heap.size) ∨ (w2.heap.size ≤ g ∧ g < w3.heap.size) := by
 obtain ⟨f1, a1⟩ := h1
 obtain ⟨f3, a3⟩ := h3
 have s1 := f1.size
 have s2 := h12.size
 have s3 := f3.size
 rcases a1 with ⟨e1, e2, e3⟩ | ⟨xn, yn, e1, e2, e3, e4, e5, e6⟩
 ·rcases a3 with ⟨d1, d2, d3⟩ | ⟨xn, yn, d1, d2, d3, d4, d5, d6⟩
  ·exact ⟨by rw [e2, d2], by rw [e1, d1], none, by rw [e1]; rfl, by rw [d1]; rfl, trivial, fun g hg => by cases hg⟩
  ·exact absurd d3 e3
 ·rcases a3 with ⟨d1, d2, d3⟩ | ⟨xm, ym, d1, d2, d3, d4, d5, d6⟩
  ·exact absurd e3 d3
  ·have q1 : xm = xn := by omega
   have q2 : ym = yn := by omega
   subst q1
   subst q2
   obtain ⟨b1, b2, b3, b4⟩ := e3
   have lt1 := e6.lt _ (show w0.heap.size ∈ foot w0.heap.size nilLay by simp [foot])
   have lt3 := lt_of_heap d6.top
   have ff : ∀ g ∈ Du.f ⟨w0.heap.size, nilLay, emptyH xm ym, w2.heap.size, ⟨xm, ym, 0, 0, 0, [], .slice none 0 0⟩, emptyM xm ym⟩, g = w0.heap.size ∨ g = w2.heap.size := fun g hg => by
    rcases List.mem_append.1 hg with z | z
    ·simp [foot, nilLay, Lay.blocks, blk] at z; exact .inl z
    ·simp [rfoot, Value.ownBlock] at z; exact .inr z
   refine ⟨by rw [e4, d4], by rw [e5, d5]; rfl, some ⟨w0.heap.size, nilLay, emptyH xm ym, w2.heap.size, ⟨xm, ym, 0, 0, 0, [], .slice none 0 0⟩, emptyM xm ym⟩, by rw [e5]; rfl, by rw [d5]; rfl, ?_, fun g hg => ?_⟩
   ·refine ⟨e6.keep (h12.trans f3 (by simp)) (by simp), inv_empty xm ym (by omega) (by omega), good_empty xm ym, d6, doc_empty xm ym, fun g h1 h2 => ?_, fun g hg => ?_, Nat.le_refl _, Nat.le_refl _, Nat.zero_le _⟩
    ·simp [foot, nilLay, Lay.blocks, blk] at h1
     simp [rfoot, Value.ownBlock] at h2
     omega
    ·rcases ff g hg with z | z <;> omega
   ·rcases ff g hg with z | z
    ·exact .inl ⟨by omega, by omega⟩
    ·exact .inr ⟨by omega, by omega⟩
theorem WOk.fresh {w w1 w2 w3 w4 V : World} {dA dB : Option Du} (hT : Tbs w) (f1 : Fr [] w w1) (f2 : Fr [] w1 w2) (f3 : Fr [] w2 w3) (f4 : Fr [] w3 w4) (oA : PrOk w3 0 dA) (oB : PrOk w4 0 dB)
  (gA : ∀ g ∈ duF dA, (w.heap.size ≤ g ∧ g < w1.heap.size) ∨ (w2.heap.size ≤ g ∧ g < w3.heap.size)) (gB : ∀ g ∈ duF dB, (w1.heap.size ≤ g ∧ g < w2.heap.size) ∨ (w3.heap.size ≤ g ∧ g < w4.heap.size)) (hV : Fr [] w4 V)
  (ht : V.heap[w4.heap.size]? = some (.cells #[vO dA, vO dB, vR dA, vR dB, .slice none 0 0, .slice none 0 0, .slice none 0 0, .slice none 0 0, .slice none 0 0, .slice none 0 0, .slice none 0 0, .slice none 0 0, .slice none 0 0, .slice none 0 0, .slice none 0 0] 85 (0, 0))) :
  WOk V 0 0 ⟨w4.heap.size, dA, dB, noSc, noSc, noSc, noLe, noLe, []⟩ ∧ ∀ g, Liv ⟨w4.heap.size, dA, dB, noSc, noSc, noSc, noLe, noLe, []⟩ g → w.heap.size ≤ g := by
 have s1 := f1.size
 have s2 := f2.size
 have s3 := f3.size
 have s4 := f4.size
 have hs := hT.s
 have lv : ∀ g, Liv ⟨w4.heap.size, dA, dB, noSc, noSc, noSc, noLe, noLe, []⟩ g → w.heap.size ≤ g := fun g hg => by
  rcases liv_of hg with e | e | e | e | e | e
  ·have e : g = w4.heap.size := e
   omega
  ·cases e
  ·cases e
  ·cases e
  ·rcases gA g e with q | q <;> omega
  ·rcases gB g e with q | q <;> omega
 refine ⟨⟨⟨ht, noSc_ok _ _, noSc_ok _ _, noSc_ok _ _, by simp [noSc_all], by simp [noSc_all], by simp [noSc_all], by simp [noSc_all], by simp [noSc_all], by simp [noSc_all]⟩, oA.idle (f4.trans hV (by simp)), oB.idle hV, hT.keep ((((f1.trans f2 (by simp)).trans f3 (by simp)).trans f4 (by simp)).trans hV (by simp)) (by simp), rfl, rfl, World.ownsRow_nil .., World.ownsRow_nil .., ?_, fun g hg => by have := lv g hg; omega, fun p hp => (by cases hp), Nat.zero_le _, Nat.zero_le _, Nat.zero_le _, Nat.zero_le _⟩, lv⟩
 show List.Pairwise _ [_, _, _, _, _, _]
 refine .cons (fun B hB g hg => ?_) (.cons (fun B hB g hg => by cases hg) (.cons (fun B hB g hg => by cases hg) (.cons (fun B hB g hg => by cases hg) (.cons (fun B hB g hg => ?_) (.cons (fun B hB g hg => by cases hB) .nil)))))
 ·have e : g = w4.heap.size := by simpa using hg
  simp only [List.mem_cons, List.not_mem_nil, or_false] at hB
  rcases hB with rfl | rfl | rfl | rfl | rfl
  ·exact fun hm => by cases hm
  ·exact fun hm => by cases hm
  ·exact fun hm => by cases hm
  ·exact fun hm => by have := oA.lt g hm; omega
  ·exact fun hm => by have := oB.lt g hm; omega
 ·simp only [List.mem_cons, List.not_mem_nil, or_false] at hB
  rw [hB]
  intro hm
  rcases gA g hg with q | q <;> rcases gB g hm with z | z <;> omega
theorem info137p : (Tryd.prog.info? 111).isSome = true := by kernel_rfl
theorem eql_nil {tp te : TypeId} {j : TypeInfo} (V : World) (p : Option Addr) (hp : Tryd.prog.underlying tp = some (.pointer te)) (hte : Tryd.prog.info? te = some j) :
  (binOp .eql tp (.pointer p) (.pointer none)).run Tryd.prog V = .ok (.bool p.isNone) V := by
 have h : ∀ d : Nat, (Op.equalIn (d + 1) tp (.pointer p) (.pointer none)).run Tryd.prog V = .ok p.isNone V := fun d => by
  cases p <;> simp [Op.equalIn, run_underlying hp, sizeOf, typeInfo, hte]
 simp only [binOp]
 simp [Op.equal, Op.maxDepth, h 9999]
theorem Go1.base {w wr wr' : World} {x x' : Wl} (h : Go1 wr wr' x x') (hf : Fr [] w wr) (hl : ∀ g, Liv x g → w.heap.size ≤ g) : Fr [] w wr' ∧ ∀ g, Liv x' g → w.heap.size ≤ g := by
 obtain ⟨X, h1, h2⟩ := h.fr
 have hs := hf.size
 refine ⟨hf.trans h1 fun g hg => .inr ?_, fun g hg => ?_⟩
 ·rcases h2 g hg with q | q
  ·exact hl g q
  ·omega
 ·rcases h.liv g hg with q | q
  ·exact hl g q
  ·omega
theorem LsAt.rd {w : World} {ao : Option Addr} {c : Nat} {zs : List Int} (h : LsAt w ao c zs) (hz : zs.length ≤ 1048576) : Rd w (.slice ao zs.length c) zs := by
 refine ⟨⟨ao, c, rfl, fun h0 => ?_⟩, fun c' hc' => ?_, by omega⟩
 ·obtain ⟨b, off, h1, h2, h3⟩ := h.row (by intro e; rw [e] at h0; simp at h0)
  exact ⟨b, off, h1, h2, h3⟩
 ·injection hc' with e1 _ e3
  rw [← e3]
  exact (h.nil e1).2
end Go.Proofs.YtklfnjlenbgmoaaDoor
namespace Go.Proofs.YtklfnjlenbgmoaaDoor
open Go.ChangeShapes Go.WideShapes Go.RowKit
theorem weightsAll_mem {H : Type} {P : Program} {e : TypeId} {d : DataW H} : ∀ {ds : List (DataW H)}, d ∈ ds → ∀ n ∈ d.weights P e, n ∈ DataW.weightsAll P e ds := by
 intro ds
 induction ds with
 | nil => intro h; simp at h
 | cons x ds ih =>
  intro h n hn
  unfold DataW.weightsAll
  rcases List.mem_cons.1 h with rfl | h
  ·exact List.mem_append_left _ hn
  ·exact List.mem_append_right _ (ih h n hn)
theorem c58 : Tryd.prog.cellsOf 58 = 7 := by kernel_rfl
theorem c3 : Tryd.prog.cellsOf 3 = 1 := by kernel_rfl
theorem c33 : Tryd.prog.cellsOf 33 = 1 := by kernel_rfl
theorem c22 : Tryd.prog.cellsOf 22 = 1 := by kernel_rfl
theorem b3 : Tryd.prog.bytesOf 3 = 8 := by kernel_rfl
section
variable {H : Type} {enc : TypeId × Value → H} {w : World} {spare : Nat → Bool} {held : Bool}
end
theorem bulk_pos {H : Type} : ∀ d : DataW H, 1 ≤ Rows.uptoBulk d
 | .lit l => by cases l <;> simp [Rows.uptoBulk]
 | .nil => by simp [Rows.uptoBulk]
 | .ptr d => by simp [Rows.uptoBulk]
 | .slice a b => by simp [Rows.uptoBulk]
 | .agg a => by simp [Rows.uptoBulk]
 | .iface _ d => by simp [Rows.uptoBulk]
 | .map a => by simp [Rows.uptoBulk]
 | .held _ => by simp [Rows.uptoBulk]
theorem bulk_len {H : Type} : ∀ l : List (DataW H), l.length ≤ Rows.uptoBulkAll l
 | [] => by simp [Rows.uptoBulkAll]
 | d :: l => by
  have := bulk_len l
  have := bulk_pos d
  simp [Rows.uptoBulkAll]
  omega
theorem bulk_mem {H : Type} {d : DataW H} : ∀ {l : List (DataW H)}, d ∈ l → Rows.uptoBulk d ≤ Rows.uptoBulkAll l
 | [], h => by cases h
 | e :: l, h => by
  simp only [Rows.uptoBulkAll]
  rcases List.mem_cons.1 h with rfl | h
  ·omega
  ·have := bulk_mem h; omega
theorem bulk_lits {H : Type} (k : IntKind) : ∀ l : List Int, Rows.uptoBulkAll (lits (H := H) k l) = l.length
 | [] => by simp [lits, Rows.uptoBulkAll]
 | a :: l => by
  have := bulk_lits (H := H) k l
  have e : lits (H := H) k (a :: l) = .lit (.int k a) :: lits k l := rfl
  rw [e, Rows.uptoBulkAll, this]
  simp [Rows.uptoBulk]
  omega
def StepB (w0 : World) (b off i N : Nat) : Prop := ∃ (K O A B C X : Int) (ao : Option Addr) (c : Nat) (zs : List Int),
 w0.cell? ⟨b, off + i * 7, none⟩ = some (.int .i64 K) ∧ w0.cell? ⟨b, off + i * 7 + 1, none⟩ = some (.int .i64 O) ∧ w0.cell? ⟨b, off + i * 7 + 2, none⟩ = some (.int .i64 A) ∧ w0.cell? ⟨b, off + i * 7 + 3, none⟩ = some (.int .i64 B) ∧
 w0.cell? ⟨b, off + i * 7 + 4, none⟩ = some (.int .i64 C) ∧ w0.cell? ⟨b, off + i * 7 + 5, none⟩ = some (.int .i64 X) ∧ w0.cell? ⟨b, off + i * 7 + 6, none⟩ = some (.slice ao zs.length c) ∧ LsAt w0 ao c zs ∧ zs.length ≤ N
theorem StepB.mono {w : World} {b off i N N' : Nat} (h : StepB w b off i N) (hN : N ≤ N') : StepB w b off i N' := by
 obtain ⟨K, O, A, B, C, X, ao, c, zs, m0, m1, m2, m3, m4, m5, m6, m7, m8⟩ := h
 exact ⟨K, O, A, B, C, X, ao, c, zs, m0, m1, m2, m3, m4, m5, m6, m7, by omega⟩
section
variable {H : Type} {enc : TypeId × Value → H} {w : World} {spare : Nat → Bool} {held : Bool}
theorem open_lsB {fuel : Nat} {u : Value} {y : DataW H × List MemPlace} (h : DataW.trod enc Tryd.prog w 0 spare held fuel 22 [u] = some y) (hz : ∀ n ∈ y.1.weights Tryd.prog 22, n ≤ reachBytes) :
  ∃ (ao : Option Addr) (c : Nat) (zs : List Int), u = .slice ao zs.length c ∧ LsAt w ao c zs ∧ zs.length ≤ Rows.uptoBulk y.1 := by
 rcases open_ints Tryd.underlying22 Tryd.underlying3 c3 h with ⟨hcs, _⟩ | ⟨a, len, cap, zs, hcs, _, hl, hm, hzl, hx, hc, _⟩
 ·simp at hcs
  exact ⟨none, 0, [], hcs, ⟨fun _ => ⟨rfl, rfl⟩, fun h => absurd rfl h, by simp⟩, Nat.zero_le _⟩
 ·simp at hcs
  have hlz : len ≤ zs.length := by rw [hzl]; split <;> omega
  have htl : (zs.take len).length = len := by simp; omega
  refine ⟨some a, cap, zs.take len, by rw [htl]; exact hcs, ⟨fun h => (by cases h), fun hne => ?_, ?_⟩, by rw [hx, Rows.uptoBulk, bulk_lits]; omega⟩
  ·have hpos : 0 < len := by
    rcases Nat.eq_zero_or_pos len with h0 | h0
    ·rw [h0] at hne; simp at hne
    ·exact h0
   obtain ⟨b, off, spot⟩ := a
   have hspot : spot = none := by simpa [Addr.add] using World.cell?_spot (hc 0 (by omega))
   subst hspot
   have hcell : ∀ j, j < len → w.cell? ⟨b, off + j, none⟩ = some (.int .i64 (zs.getD j 0)) := fun j hj => by
    have := hc j (by omega)
    rwa [Addr.add_mid] at this
   refine ⟨b, off, rfl, World.block_lt_of_cell? w ⟨b, off + 0, none⟩ (hcell 0 hpos), fun j hj => ?_⟩
   rw [htl] at hj
   rw [hcell j hj, List.getD_eq_getElem?_getD, List.getD_eq_getElem?_getD, List.getElem?_take, if_pos hj]
  ·rw [htl]
   have hw := hz (((lits (H := H) .i64 (zs.take len)).length + (lits (H := H) .i64 (zs.drop len)).length) * Tryd.prog.bytesOf 3) (by rw [hx]; simp [DataW.weights, Tryd.underlying22])
   have e1 : (lits (H := H) .i64 (zs.take len)).length = len := by simp [lits]; omega
   rw [e1, b3] at hw
   have : reachBytes < 2 ^ 47 := reachBytes_lt
   omega
set_option maxRecDepth 20000 in
theorem open_stepsB {fuel : Nat} {cs : List Value} {x : DataW H × List MemPlace} (h : DataW.trod enc Tryd.prog w 0 spare held fuel 51 cs = some x) (hz : ∀ n ∈ x.1.weights Tryd.prog 51, n ≤ reachBytes) :
  ∃ (ao : Option Addr) (sz c b off : Nat), cs = [.slice ao sz c] ∧ (0 < sz → ao = some ⟨b, off, none⟩ ∧ b < w.heap.size) ∧ sz ≤ Rows.uptoBulk x.1 ∧ ∀ i, i < sz → StepB w b off i (Rows.uptoBulk x.1) := by
 rcases Go.Deep.open_slice Tryd.underlying51 h with ⟨rfl, rfl⟩ | ⟨a, len, cap, m, n, D, Pl, rfl, _, hl, hm, hmm, rfl, hx⟩
 ·exact ⟨none, 0, 0, 0, 0, rfl, fun h => by omega, Nat.zero_le _, fun i hi => by omega⟩
 ·by_cases h0 : len = 0
  ·subst h0
   exact ⟨some a, 0, cap, 0, 0, rfl, fun h => by omega, Nat.zero_le _, fun i hi => by omega⟩
  ·have hlm : len ≤ m := by rw [hmm]; split <;> omega
   rw [c58] at hx
   obtain ⟨b, off, spot⟩ := a
   have hspot : spot = none := by
    obtain ⟨cs', h1, h2⟩ := hx 0 (by omega)
    obtain ⟨_, hlen, hcell⟩ := World.cells?_some h1
    have := hcell 0 (by omega)
    rw [Go.Deep.add_add] at this
    match cs', hlen with
    | u :: _, _ => simpa [Addr.add] using World.cell?_spot this
   subst hspot
   have hstep : ∀ i, i < len → StepB w b off i (Rows.uptoBulkAll ((List.range len).map D)) := fun i hi => by
    obtain ⟨cs', h1, h2⟩ := hx i (by omega)
    obtain ⟨_, hlen, hcell⟩ := World.cells?_some h1
    obtain ⟨xs, k, hk, hxy, _, hxl, hf⟩ := DataW.trod_struct Tryd.underlying58 h2
    match xs, hxl, cs', hlen with
    | [y0, y1, y2, y3, y4, y5, y6], _, [t0, t1, t2, t3, t4, t5, t6], _ =>
     have g0 := hf 0 _ rfl
     have g1 := hf 1 _ rfl
     have g2 := hf 2 _ rfl
     have g3 := hf 3 _ rfl
     have g4 := hf 4 _ rfl
     have g5 := hf 5 _ rfl
     have g6 := hf 6 _ rfl
     simp [c3, c33, c22] at g0 g1 g2 g3 g4 g5 g6
     obtain ⟨K, e0, -, -⟩ := DataW.trod_int Tryd.underlying3 g0
     obtain ⟨O, e1, -, -⟩ := DataW.trod_int Tryd.underlying3 g1
     obtain ⟨A, e2, -, -⟩ := DataW.trod_int Tryd.underlying3 g2
     obtain ⟨B, e3, -, -⟩ := DataW.trod_int Tryd.underlying3 g3
     obtain ⟨C, e4, -, -⟩ := DataW.trod_int Tryd.underlying3 g4
     obtain ⟨X, e5, -, -⟩ := DataW.trod_int Tryd.underlying33 g5
     simp at e0 e1 e2 e3 e4 e5
     obtain ⟨lo, lc, zs, e6, hls, hbz⟩ := open_lsB g6 (fun n hn => by
      refine hz n ?_
      have hd : D i = .agg [y0.1, y1.1, y2.1, y3.1, y4.1, y5.1, y6.1] := by simpa using congrArg Prod.fst hxy
      have h3 : n ∈ (D i).weights Tryd.prog 58 := by
       rw [hd]
       simp only [DataW.weights, Tryd.underlying58]
       exact DataW.weights_mem_each (j := 6) (t := 22) (d := y6.1) rfl rfl n hn
      simp only [DataW.weights, Tryd.underlying51]
      refine List.mem_cons_of_mem _ (List.mem_append_left _ (weightsAll_mem (d := D i) ?_ n h3))
      exact List.mem_map.2 ⟨i, List.mem_range.2 hi, rfl⟩)
     have m0 := hcell 0 (by omega)
     have m1 := hcell 1 (by omega)
     have m2 := hcell 2 (by omega)
     have m3 := hcell 3 (by omega)
     have m4 := hcell 4 (by omega)
     have m5 := hcell 5 (by omega)
     have m6 := hcell 6 (by omega)
     rw [Addr.add_mid, Addr.add_mid] at m0 m1 m2 m3 m4 m5 m6
     simp at m0 m1 m2 m3 m4 m5 m6
     subst e0 e1 e2 e3 e4 e5 e6
     have hbd : Rows.uptoBulk (D i) ≤ Rows.uptoBulkAll ((List.range len).map D) := bulk_mem (List.mem_map.2 ⟨i, List.mem_range.2 hi, rfl⟩)
     have hd : D i = .agg [y0.1, y1.1, y2.1, y3.1, y4.1, y5.1, y6.1] := by simpa using congrArg Prod.fst hxy
     have hy6 : Rows.uptoBulk y6.1 ≤ Rows.uptoBulk (D i) := by
      rw [hd]
      simp only [Rows.uptoBulk, Rows.uptoBulkAll]
      omega
     exact ⟨K, O, A, B, C, X, lo, lc, zs, m0, m1, m2, m3, m4, m5, m6, hls, by omega⟩
   obtain ⟨K, _, _, _, _, _, _, _, _, m0, _⟩ := hstep 0 (by omega)
   exact ⟨some ⟨b, off, none⟩, len, cap, b, off, rfl, fun _ => ⟨rfl, World.block_lt_of_cell? w _ m0⟩, by have := bulk_len ((List.range len).map D); simp at this; simp only [Rows.uptoBulk]; omega, fun i hi => (hstep i hi).mono (by simp only [Rows.uptoBulk]; omega)⟩
end
end Go.Proofs.YtklfnjlenbgmoaaDoor
namespace Go.Proofs.YtklfnjlenbgmoaaDoor
open Go.RowKit
attribute [local go_sem ↓] Go.wp_at_zero Go.wp_at_succ
set_option maxRecDepth 20000 in
set_option maxHeartbeats 1000000 in
theorem fullInts_ok (n : Nat) (m : Int) (v : Value) (w : World) (h : Rd w v (List.replicate n m)) :
  Calls Tryd.prog 94 #[v, .int .i64 m] w fun e w' => e = .returned (.bool true) ∧ w' = w := by
 obtain ⟨p, c, rfl, hp⟩ := h.at_
 have hs := h.short
 rw [List.length_replicate] at hp hs ⊢
 have HP := mkHid hp
 clear h hp
 go_enter Tryd.func94, Tryd.ntmps94
 go_wp2_with fail
 go_loopw [5] (fun q wr => ∃ i : Nat, i ≤ n ∧ q = .int .i64 i ∧ Hid (wr = w)) (fun q _ => n - (intOf q).toNat)
 case atStart => exact ⟨0, Nat.zero_le _, rfl, mkHid rfl⟩
 case round =>
  obtain ⟨i, hin, rfl, hw0⟩ := hrel
  rw [hw0.out]
  clear hw0
  have i1 : (0 : Int) ≤ (i : Int) := by omega
  by_cases hi : i < n
  ·have i2 : (i : Int) < (n : Int) := by omega
   obtain ⟨g, off, rfl, hg, hc⟩ := HP.out (by omega)
   have x1 := hc i hi
   have e : (List.replicate n m).getD i 0 = m := by rw [List.getD_eq_getElem?_getD, List.getElem?_replicate, if_pos hi]; rfl
   rw [e] at x1
   clear hc e
   go_wp2_with fail
   go_roundw
   case rel => exact ⟨i + 1, by omega, by go_num, by first | exact mkHid rfl | exact mkHid trivial⟩
   case measure => simp [intOf]; omega
  ·have hie : i = n := by omega
   subst hie
   go_wp2_with fail
   go_ret
   exact ⟨rfl, rfl⟩
set_option maxRecDepth 20000 in
set_option maxHeartbeats 1000000 in
theorem fullWords_ok (n : Nat) (m : Int) (v : Value) (w : World) (h : Rd w v (List.replicate n m)) :
  Calls Tryd.prog 95 #[v, .int .i64 m] w fun e w' => e = .returned (.bool true) ∧ w' = w := by
 obtain ⟨p, c, rfl, hp⟩ := h.at_
 have hs := h.short
 rw [List.length_replicate] at hp hs ⊢
 have HP := mkHid hp
 clear h hp
 go_enter Tryd.func95, Tryd.ntmps95
 go_wp2_with fail
 go_loopw [5] (fun q wr => ∃ i : Nat, i ≤ n ∧ q = .int .i64 i ∧ Hid (wr = w)) (fun q _ => n - (intOf q).toNat)
 case atStart => exact ⟨0, Nat.zero_le _, rfl, mkHid rfl⟩
 case round =>
  obtain ⟨i, hin, rfl, hw0⟩ := hrel
  rw [hw0.out]
  clear hw0
  have i1 : (0 : Int) ≤ (i : Int) := by omega
  by_cases hi : i < n
  ·have i2 : (i : Int) < (n : Int) := by omega
   obtain ⟨g, off, rfl, hg, hc⟩ := HP.out (by omega)
   have x1 := hc i hi
   have e : (List.replicate n m).getD i 0 = m := by rw [List.getD_eq_getElem?_getD, List.getElem?_replicate, if_pos hi]; rfl
   rw [e] at x1
   clear hc e
   go_wp2_with fail
   go_roundw
   case rel => exact ⟨i + 1, by omega, by go_num, by first | exact mkHid rfl | exact mkHid trivial⟩
   case measure => simp [intOf]; omega
  ·have hie : i = n := by omega
   subst hie
   go_wp2_with fail
   go_ret
   exact ⟨rfl, rfl⟩
def mkO (m : Int) : OI := ⟨m, 0, 0, [], .slice none 0 0⟩
set_option maxRecDepth 20000 in
set_option maxHeartbeats 1000000 in
theorem fullObjs_ok (n : Nat) (m : Int) (v : Value) (w : World) (h : SAt w v (List.replicate n (mkO m))) :
  Calls Tryd.prog 96 #[v, .int .i64 m] w fun e w' => e = .returned (.bool true) ∧ w' = w := by
 obtain ⟨p, c, rfl, hp⟩ := h.at_
 have hs := h.short
 rw [List.length_replicate] at hp hs ⊢
 have HP := mkHid hp
 clear h hp
 go_enter Tryd.func96, Tryd.ntmps96
 go_wp2_with fail
 go_loopw [5] (fun q wr => ∃ i : Nat, i ≤ n ∧ q = .int .i64 i ∧ Hid (wr = w)) (fun q _ => n - (intOf q).toNat)
 case atStart => exact ⟨0, Nat.zero_le _, rfl, mkHid rfl⟩
 case round =>
  obtain ⟨i, hin, rfl, hw0⟩ := hrel
  rw [hw0.out]
  clear hw0
  have i1 : (0 : Int) ≤ (i : Int) := by omega
  by_cases hi : i < n
  ·have i2 : (i : Int) < (n : Int) := by omega
   obtain ⟨g, off, rfl, hc⟩ := HP.out (by omega)
   obtain ⟨o, ho, x0, x1, x2, x3⟩ := hc i hi
   rw [List.getElem?_replicate, if_pos hi] at ho
   injection ho with ho
   subst ho
   replace x0 : w.cell? ⟨g, off + i * 4, none⟩ = some (.int .i64 m) := x0
   replace x1 : w.cell? ⟨g, off + i * 4 + 1, none⟩ = some (.int .i64 0) := x1
   replace x2 : w.cell? ⟨g, off + i * 4 + 2, none⟩ = some (.int .i64 0) := x2
   replace x3 : w.cell? ⟨g, off + i * 4 + 3, none⟩ = some (.slice none 0 0) := x3
   clear hc
   go_wp2_with fail
   go_roundw
   case rel => exact ⟨i + 1, by omega, by go_num, by first | exact mkHid rfl | exact mkHid trivial⟩
   case measure => simp [intOf]; omega
  ·have hie : i = n := by omega
   subst hie
   go_wp2_with fail
   go_ret
   exact ⟨rfl, rfl⟩
end Go.Proofs.YtklfnjlenbgmoaaDoor
