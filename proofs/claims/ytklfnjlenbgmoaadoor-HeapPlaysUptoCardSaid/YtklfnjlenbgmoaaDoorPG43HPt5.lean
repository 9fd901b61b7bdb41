import Derived.Test.YtklfnjlenbgmoaaDoorPG37HPs3
import Derived.Test.YtklfnjlenbgmoaaDoorPG42KSt
import Derived.Test.YtklfnjlenbgmoaaDoorPG25RKeep
import Derived.Deep.RegionHeld3
set_option linter.unusedSimpArgs false
set_option linter.unusedVariables false
namespace Go.Proofs.YtklfnjlenbgmoaaDoor
open Go.RowKit Go.Maps
section
variable {w : World} {n t : Nat} {x : Wl}
theorem ow_lt {w : World} {B : Nat} {e : TypeId} {s k : Nat} {l : Le} {xs : List Value} (h : w.ownsRow B e s l.v k xs) {g : Nat} (hg : g ∈ blk l.p) : B ≤ g ∧ g < w.heap.size := by
 obtain ⟨h1, cur, hc⟩ := le_own h hg
 exact ⟨h1, lt_of_heap hc⟩
theorem WOk.ints2 (h : WOk w n t x) (ht : t ≤ 1) (hn : n ≤ 4000000) {V : World} (hV : Fr [] w V) {l1 l2 : Le} {xs ys : List Int} (o1 : V.ownsRow w.heap.size 3 1 l1.v l1.n (xs.map (Value.int .i64))) (o2 : V.ownsRow w.heap.size 3 1 l2.v l2.n (ys.map (Value.int .i64))) (e1 : xs.length = l1.n) (e2 : ys.length = l2.n)
  (ap : ∀ g ∈ blk l1.p, g ∉ blk l2.p) (s1 : l1.n ≤ 1100000) (s2 : l2.n ≤ 1100000) :
  Calls Tryd.prog 112 #[.pointer (some ⟨x.b, 6, none⟩), l1.v] V fun e V1 => e = .returned (.tuple #[]) ∧ ∀ V1', Fr [] V1 V1' → Calls Tryd.prog 112 #[.pointer (some ⟨x.b, 6, none⟩), l2.v] V1' fun e V2 => e = .returned (.tuple #[]) ∧ StepTo w n x V2 := by
 have hv := h.idle hV
 have hbl := h.lt (liv0 (x := x))
 have k1 := h.c1
 have k2 := h.c2
 have k3 := h.c3
 have ax1 : ∀ g ∈ blk l1.p, g ∉ bokF x.S1 x.S2 x.S3 := fun g hg hm => by have := (ow_lt o1 hg).1; have := h.lt (liv1 hm); omega
 have bx1 : x.b ∉ blk l1.p := fun hm => by have := (ow_lt o1 hm).1; omega
 refine (bints_ok x.b (x.hd t) x.S1 x.S2 x.S3 l1 xs V hv.bok e1 (own_base o1 (Nat.zero_le _)) s1 (by omega) ax1 bx1).mono ?_
 rintro e V1 ⟨rfl, A, a1, a2, a3, a4, a5⟩
 refine ⟨rfl, fun V1' hV1 => ?_⟩
 have sV := hV.size
 have sV2 := hV1.size
 have sV1 := a4.size
 have inA : ∀ g ∈ A.all, g ∈ bokF x.S1 x.S2 x.S3 ∨ w.heap.size ≤ g := fun g hg => by
  rcases a5 g hg with q | q | q
  ·exact .inl (bokF1 q)
  ·exact .inr (ow_lt o1 q).1
  ·exact .inr (by omega)
 have dl : ∀ g ∈ blk l2.p, g ∉ blk l1.p ++ x.b :: x.S1.hot := fun g hg hm => by
  rcases List.mem_append.1 hm with q | q
  ·exact ap g q hg
  ·have := (ow_lt o2 hg).1
   rcases List.mem_cons.1 q with q | q
   ·omega
   ·have := h.lt (liv1 (x := x) (bokF1 (hotAll q))); omega
 have o2' := ow_keep (own_base o2 (Nat.zero_le _)) a4 dl
 have ax2 : ∀ g ∈ blk l2.p, g ∉ bokF A x.S2 x.S3 := fun g hg hm => by
  have hgl := ow_lt o2 hg
  rcases mem_bokF hm with q | q | q
  ·rcases a5 g q with z | z | z
   ·have := h.lt (liv1 (x := x) (bokF1 z)); omega
   ·exact ap g z hg
   ·omega
  ·have := h.lt (liv1 (x := x) (bokF2 q)); omega
  ·have := h.lt (liv1 (x := x) (bokF3 q)); omega
 have bx2 : x.b ∉ blk l2.p := fun hm => by have := (ow_lt o2 hm).1; omega
 refine (bints_ok x.b (x.hd t) A x.S2 x.S3 l2 ys V1' (a3.keep hV1 (by simp) (by simp)) e2 (ow_keep o2' hV1 (by simp)) s2 (by rw [a1, a2]; omega) ax2 bx2).mono ?_
 rintro e V2 ⟨rfl, A', c1, c2, c3, c4, c5⟩
 have F : Fr ((blk l1.p ++ x.b :: x.S1.hot) ++ (blk l2.p ++ x.b :: A.hot)) w V2 := (((hV.mono (by simp)).trans a4 fun g hg => .inl (List.mem_append.2 (.inl hg))).trans hV1 (by simp)).trans c4 fun g hg => .inl (List.mem_append.2 (.inr hg))
 have hX : ∀ g ∈ (blk l1.p ++ x.b :: x.S1.hot) ++ (blk l2.p ++ x.b :: A.hot), g = x.b ∨ g ∈ bokF x.S1 x.S2 x.S3 ∨ w.heap.size ≤ g := fun g hg => by
  rcases List.mem_append.1 hg with q | q
  ·rcases List.mem_append.1 q with q | q
   ·exact .inr (.inr (ow_lt o1 q).1)
   ·rcases List.mem_cons.1 q with q | q
    ·exact .inl q
    ·exact .inr (.inl (bokF1 (hotAll q)))
  ·rcases List.mem_append.1 q with q | q
   ·exact .inr (.inr (ow_lt o2 q).1)
   ·rcases List.mem_cons.1 q with q | q
    ·exact .inl q
    ·exact .inr (inA g (hotAll q))
 have hA : ∀ g ∈ bokF A' x.S2 x.S3, g ∈ bokF x.S1 x.S2 x.S3 ∨ w.heap.size ≤ g := fun g hg => by
  rcases mem_bokF hg with q | q | q
  ·rcases c5 g q with z | z | z
   ·exact inA g z
   ·exact .inr (ow_lt o2 z).1
   ·exact .inr (by omega)
  ·exact .inl (bokF2 q)
  ·exact .inl (bokF3 q)
 exact ⟨rfl, { x with S1 := A', S2 := x.S2, S3 := x.S3 }, t, ht, rfl, h.book (n' := n + 2) (by omega) c3 F hX hA (by rw [c1, c2, a1, a2]; omega) (by omega) (by omega), go_book F hX hA⟩
theorem SRep.st0 {w V : World} {S1 S2 S3 : Sc} {b : Nat} {ov : Value} {ls : List OS} (hr : SRep V w.heap.size ov ls) (ha : ApO ls) (hb : b < w.heap.size) (hf : ∀ g ∈ bokF S1 S2 S3, g < w.heap.size) : St0 V b S1 S2 S3 ov ls := by
 have ge : ∀ g ∈ stB ov ls, w.heap.size ≤ g ∧ g < V.heap.size := fun g hg => by
  rcases mem_stB hg with q | ⟨o, ho, q⟩
  ·exact hr.row.lt g q
  ·exact (hr.slots o ho).lt g q
 refine ⟨fun g hg => (ge g hg).2, fun g hg hm => ?_, fun hm => ?_, fun o ho g h1 h2 => ?_, ha⟩
 ·have := (ge g hg).1; have := hf g hm; omega
 ·have := (ge b hm).1; omega
 ·obtain ⟨x1, v1, -, b1⟩ := le_of (hr.slots o ho)
  obtain ⟨x2, v2, -, b2⟩ := le_of hr.row
  obtain ⟨-, k1, d1⟩ := le_own (x := x1) (by rw [v1]; exact hr.slots o ho) ((b1 g).2 h1)
  obtain ⟨-, k2, d2⟩ := le_own (x := x2) (by rw [v2]; exact hr.row) ((b2 g).2 h2)
  exact ty_ne d1 d2 (by decide) rfl
theorem SRep.ge {V : World} {B : Nat} {ov : Value} {ls : List OS} (hr : SRep V B ov ls) : ∀ g ∈ stB ov ls, B ≤ g ∧ g < V.heap.size := fun g hg => by
 rcases mem_stB hg with q | ⟨o, ho, q⟩
 ·exact hr.row.lt g q
 ·exact (hr.slots o ho).lt g q
theorem SRep.keepF {V V' : World} {B : Nat} {ov : Value} {ls : List OS} {X : List Nat} (hr : SRep V B ov ls) (hf : Fr X V V') (hd : ∀ g ∈ stB ov ls, g ∉ X) : SRep V' B ov ls :=
 ⟨own_congr hr.row fun g hg => hf.block g (hr.row.lt g hg).2 (hd g (stB_row hg)), fun o ho => own_congr (hr.slots o ho) fun g hg => hf.block g ((hr.slots o ho).lt g hg).2 (hd g (stB_slot ho hg))⟩
theorem SRep.zero {V : World} {B : Nat} {ov : Value} {ls : List OS} (hr : SRep V B ov ls) : SRep V 0 ov ls := ⟨own_base hr.row (Nat.zero_le _), fun o ho => own_base (hr.slots o ho) (Nat.zero_le _)⟩
theorem WOk.state2 (h : WOk w n t x) (ht : t ≤ 1) (hn : n ≤ 4000000) {V : World} (hV : Fr [] w V) {ov1 ov2 : Value} {l1 l2 : List OS} (r1 : SRep V w.heap.size ov1 l1) (r2 : SRep V w.heap.size ov2 l2) (p1 : ApO l1) (p2 : ApO l2)
  (ap : ∀ g ∈ stB ov1 l1, g ∉ stB ov2 l2) (n1 : l1.length ≤ 1048576) (n2 : l2.length ≤ 1048576) (s1 : ∀ o ∈ l1, o.slots.length ≤ 1100000) (s2 : ∀ o ∈ l2, o.slots.length ≤ 1100000) (a1 a2 a3 b1 b2 b3 : Int) :
  Calls Tryd.prog 43 #[.pointer (some ⟨x.b, 6, none⟩), .agg #[.int .i64 a1, .int .i64 a2, .int .i64 a3, ov1]] V fun e V1 => e = .returned (.tuple #[]) ∧ (∀ g, w.heap.size ≤ g → g ∉ stB ov1 l1 → g < V.heap.size → V1.heap[g]? = V.heap[g]?) ∧ ∀ V1', Fr [] V1 V1' → Calls Tryd.prog 43 #[.pointer (some ⟨x.b, 6, none⟩), .agg #[.int .i64 b1, .int .i64 b2, .int .i64 b3, ov2]] V1' fun e V2 => e = .returned (.tuple #[]) ∧ StepTo w n x V2 := by
 have hv := h.idle hV
 have hbl := h.lt (liv0 (x := x))
 have k1 := h.c1
 have k2 := h.c2
 have k3 := h.c3
 have hbf : ∀ g ∈ bokF x.S1 x.S2 x.S3, g < w.heap.size := fun g hg => h.lt (liv1 hg)
 refine (bstate_ok x.b (x.hd t) x.S1 x.S2 x.S3 ov1 l1 a1 a2 a3 V hv.bok r1.zero (r1.st0 p1 hbl hbf) n1 s1 (by omega) (by omega)).mono ?_
 rintro e V1 ⟨rfl, A2, A3, q1, q2, q3, q4, q5⟩
 refine ⟨rfl, fun g h1 h2 h3 => q4.block g h3 fun hm => ?_, fun V1' hV1 => ?_⟩
 ·rcases List.mem_cons.1 hm with z | z
  ·omega
  ·rcases List.mem_append.1 z with z | z
   ·have := hbf g z; omega
   ·exact h2 z
 have sV := hV.size
 have sV1 := q4.size
 have sV2 := hV1.size
 have no2 : ∀ g ∈ stB ov2 l2, g ∉ x.b :: (bokF x.S1 x.S2 x.S3 ++ stB ov1 l1) := fun g hg hm => by
  have := (r2.ge g hg).1
  rcases List.mem_cons.1 hm with z | z
  ·omega
  ·rcases List.mem_append.1 z with z | z
   ·have := hbf g z; omega
   ·exact ap g z hg
 have r2' : SRep V1' w.heap.size ov2 l2 := (r2.keepF q4 no2).idle hV1
 have st2 : St0 V1' x.b x.S1 A2 A3 ov2 l2 := by
  have z := r2'.st0 (S1 := x.S1) (S2 := x.S2) (S3 := x.S3) p2 hbl hbf
  refine ⟨z.lt, fun g hg hm => ?_, z.nb, z.ne, z.apo⟩
  have hgl := r2.ge g hg
  rcases q5 g hm with u | u | u
  ·have := hbf g u; omega
  ·exact ap g u hg
  ·omega
 refine (bstate_ok x.b (x.hd t) x.S1 A2 A3 ov2 l2 b1 b2 b3 V1' (q3.keep hV1 (by simp) (by simp)) r2'.zero st2 n2 s2 (by omega) (by omega)).mono ?_
 rintro e V2 ⟨rfl, B2, B3, u1, u2, u3, u4, u5⟩
 have F : Fr ((x.b :: (bokF x.S1 x.S2 x.S3 ++ stB ov1 l1)) ++ (x.b :: (bokF x.S1 A2 A3 ++ stB ov2 l2))) w V2 := (((hV.mono (by simp)).trans q4 fun g hg => .inl (List.mem_append.2 (.inl hg))).trans hV1 (by simp)).trans u4 fun g hg => .inl (List.mem_append.2 (.inr hg))
 have inA : ∀ g ∈ bokF x.S1 A2 A3, g ∈ bokF x.S1 x.S2 x.S3 ∨ w.heap.size ≤ g := fun g hg => by
  rcases q5 g hg with z | z | z
  ·exact .inl z
  ·exact .inr (r1.ge g z).1
  ·exact .inr (by omega)
 have hX : ∀ g ∈ (x.b :: (bokF x.S1 x.S2 x.S3 ++ stB ov1 l1)) ++ (x.b :: (bokF x.S1 A2 A3 ++ stB ov2 l2)), g = x.b ∨ g ∈ bokF x.S1 x.S2 x.S3 ∨ w.heap.size ≤ g := fun g hg => by
  rcases List.mem_append.1 hg with z | z
  ·rcases List.mem_cons.1 z with z | z
   ·exact .inl z
   ·rcases List.mem_append.1 z with z | z
    ·exact .inr (.inl z)
    ·exact .inr (.inr (r1.ge g z).1)
  ·rcases List.mem_cons.1 z with z | z
   ·exact .inl z
   ·rcases List.mem_append.1 z with z | z
    ·exact .inr (inA g z)
    ·exact .inr (.inr (r2.ge g z).1)
 have hA : ∀ g ∈ bokF x.S1 B2 B3, g ∈ bokF x.S1 x.S2 x.S3 ∨ w.heap.size ≤ g := fun g hg => by
  rcases u5 g hg with z | z | z
  ·exact inA g z
  ·exact .inr (r2.ge g z).1
  ·exact .inr (by omega)
 exact ⟨rfl, { x with S1 := x.S1, S2 := B2, S3 := B3 }, t, ht, rfl, h.book (n' := n + 2) (by omega) u3 F hX hA (by omega) (by omega) (by omega), go_book F hX hA⟩
end
end Go.Proofs.YtklfnjlenbgmoaaDoor
namespace Go.Proofs.YtklfnjlenbgmoaaDoor
open Go.RowKit Go.Maps
attribute [local go_sem ↓] Go.wp_at_zero Go.wp_at_succ
set_option maxRecDepth 20000 in
set_option maxHeartbeats 4000000 in
theorem mr_all (O A B C X : Int) (ls : Value) (n a : Nat) (y : Wl) (w : World) (h : WOk w n a y) (ha : a ≤ 1) (hn : n ≤ 4000000) :
  Calls Tryd.prog 89 #[.pointer (some ⟨y.b, 0, none⟩), stepV 12 O A B C X ls, .int .i64 (a : Int)] w fun e w' => e = .returned (.bool true) ∧ StepTo w n y w' := by
 have F0 : Fr [] w (w.alloc (.cells #[.int .i64 12, .int .i64 O, .int .i64 A, .int .i64 B, .int .i64 C, .int .i64 X, ls] 58)) := Fr.alloc [] _ _
 have HF0 := mkHid F0
 have HY : Hid (WOk (w.alloc (.cells #[.int .i64 12, .int .i64 O, .int .i64 A, .int .i64 B, .int .i64 C, .int .i64 X, ls] 58)) n a y) := h.idle F0
 have HSt : Hid (∀ w', StepTo (w.alloc (.cells #[.int .i64 12, .int .i64 O, .int .i64 A, .int .i64 B, .int .i64 C, .int .i64 X, ls] 58)) n y w' → StepTo w n y w') := fun w' ⟨x', t', q1, q2, q3, q4⟩ => ⟨x', t', q1, q2, q3, (Go1.idle y F0).trans q4⟩
 have HBl : Hid (∀ V Y, Fr Y (w.alloc (.cells #[.int .i64 12, .int .i64 O, .int .i64 A, .int .i64 B, .int .i64 C, .int .i64 X, ls] 58)) V → (∀ g ∈ Y, g < w.heap.size) → V.heap[w.heap.size]? = some (.cells #[.int .i64 12, .int .i64 O, .int .i64 A, .int .i64 B, .int .i64 C, .int .i64 X, ls] 58 (0, 0))) := fun V Y hV hX => (hV.block w.heap.size (by simp) (fun hm => by have := hX _ hm; omega)).trans (heap_alloc_new w _)
 have HLt : Hid (∀ g, Liv y g → g < w.heap.size) := fun g hg => h.lt hg
 obtain ⟨c0, c1⟩ := cells_of HY.out ha a ha
 have eA : y.at a a = y.dA := if_pos rfl
 rw [eA] at c0 c1
 have a1 : (0 : Int) ≤ (a : Int) := by omega
 have a2 : (a : Int) < 2 := by omega
 have a3 : IntKind.i64.wrap (a : Int) = (a : Int) := by rw [iwrap]; unfold wrap64; omega
 clear h F0
 unfold stepV
 go_enter Tryd.func89, Tryd.ntmps89
 go_wp2_with fail
 generalize w.alloc (.cells #[.int .i64 12, .int .i64 O, .int .i64 A, .int .i64 B, .int .i64 C, .int .i64 X, ls] 58) = W0 at *
 obtain ⟨s0, hs0⟩ : ∃ s0, s0 = w.heap.size := ⟨_, rfl⟩
 rw [← hs0] at HBl HLt
 try rw [← hs0] at hlg
 try rw [← hs0] at b6
 try rw [← hs0]
 clear hs0
 obtain ⟨xs, hxs, h35, h92⟩ := ro_all W0 n y.dA HY.out.okA
 have H35 := mkHid h35
 have H92 := mkHid h92
 have HSm : Hid (∀ V va vb B1 B2, V.ownsRow B1 3 1 va xs.length (xs.map (Value.int .i64)) → V.ownsRow B2 3 1 vb xs.length (xs.map (Value.int .i64)) → Calls Tryd.prog 91 #[va, vb] V fun e w' => e = .returned (.bool true) ∧ ∃ n, w' = V.drewN n) := fun V va vb B1 B2 h1 h2 => sameInts_ok xs va vb V (own_rd h1 (by omega)) (own_rd h2 (by omega))
 have q0 : Hid (Fr [] W0 W0) := Fr.refl _ _
 clear h35 h92 HBl HLt
 generalize vO y.dA = vo at *
 generalize vR y.dA = vr at *
 refine (H35.out W0 q0).mono ?_
 rintro e w1 ⟨v1, rfl, o1, f1⟩
 have q1 := hid_tr q0 f1
 go_wp2_with fail
 refine (H35.out w1 q1).mono ?_
 rintro e w2 ⟨v2, rfl, o2, f2⟩
 have q2 := hid_tr q1 f2
 have HO1 : Hid (w2.ownsRow W0.heap.size 3 1 v1 xs.length (xs.map (Value.int .i64))) := own_congr o1 fun g hg => f2.block g (o1.lt g hg).2 (by simp)
 have HO2 := mkHid o2
 have HAp : Hid (∀ g, v1.ownBlock = some g → v2.ownBlock ≠ some g) := fun g h1 h2 => by have := (o1.lt g h1).2; have := (o2.lt g h2).1; omega
 have HF1 : Hid (W0.heap.size ≤ w1.heap.size) := f1.size
 clear o1 o2 f1 f2
 go_wp2_with fail
 refine (H92.out w2 q2).mono ?_
 rintro e w3 ⟨v3, rfl, o3, f3⟩
 have q3 := hid_tr q2 f3
 have HM3 := mkHid (HSm.out w3 v1 v3 _ _ (own_congr HO1.out fun g hg => f3.block g (HO1.out.lt g hg).2 (by simp)) o3)
 have p3 : Hid (Fr [] w2 w3) := f3
 clear o3 f3
 go_wp2_with fail
 refine HM3.out.mono ?_
 rintro e w4 ⟨rfl, n4, e4⟩
 have q4 : Hid (Fr [] W0 w4) := by rw [e4]; exact hid_tr q3 (Fr.drewN [] _ _)
 have p4 : Hid (Fr [] w2 w4) := by rw [e4]; exact hid_tr p3 (Fr.drewN [] _ _)
 clear e4 HM3
 go_wp2_with fail
 refine (H92.out w4 q4).mono ?_
 rintro e w5 ⟨v5, rfl, o5, f5⟩
 have q5 := hid_tr q4 f5
 have p5 := hid_tr p4 f5
 have HM5 := mkHid (HSm.out w5 v2 v5 _ _ (own_congr HO2.out fun g hg => p5.out.block g (HO2.out.lt g hg).2 (by simp)) o5)
 clear o5 f5
 go_wp2_with fail
 refine HM5.out.mono ?_
 rintro e w6 ⟨rfl, n6, e6⟩
 have q6 : Hid (Fr [] W0 w6) := by rw [e6]; exact hid_tr q5 (Fr.drewN [] _ _)
 have p6 : Hid (Fr [] w2 w6) := by rw [e6]; exact hid_tr p5 (Fr.drewN [] _ _)
 clear e6 HM5
 have HB : Hid (Calls Tryd.prog 112 #[.pointer (some ⟨y.b, 6, none⟩), v1] w6 fun e V1 => e = .returned (.tuple #[]) ∧ ∀ V1', Fr [] V1 V1' → Calls Tryd.prog 112 #[.pointer (some ⟨y.b, 6, none⟩), v2] V1' fun e V2 => e = .returned (.tuple #[]) ∧ StepTo W0 n y V2) := by
  obtain ⟨x1, b1, d1, g1⟩ := le_of HO1.out
  obtain ⟨x2, b2, d2, g2⟩ := le_of HO2.out
  have z1 : w6.ownsRow W0.heap.size 3 1 x1.v x1.n (xs.map (Value.int .i64)) := by rw [b1, d1]; exact own_congr HO1.out fun g hg => p6.out.block g (HO1.out.lt g hg).2 (by simp)
  have z2 : w6.ownsRow W0.heap.size 3 1 x2.v x2.n (xs.map (Value.int .i64)) := by rw [b2, d2]; exact own_base (own_congr HO2.out fun g hg => p6.out.block g (HO2.out.lt g hg).2 (by simp)) HF1.out
  have := HY.out.ints2 ha hn q6.out z1 z2 (by rw [d1]) (by rw [d2]) (fun g h1 h2 => HAp.out g ((g1 g).1 h1) ((g2 g).1 h2)) (by rw [d1]; exact hxs) (by rw [d2]; exact hxs)
  rw [b1, b2] at this
  exact this
 clear HO1 HO2 HAp HY
 go_wp2_with fail
 refine HB.out.mono ?_
 rintro e w7 ⟨rfl, h7⟩
 have H7 := mkHid (h7 w7 (Fr.refl _ _))
 clear h7 HB
 go_wp2_with fail
 refine H7.out.mono ?_
 rintro e w8 ⟨rfl, h8⟩
 have HZ := mkHid (HSt.out w8 h8)
 clear h8
 go_wp2_with fail
 go_ret
 exact ⟨rfl, HZ.out⟩
set_option maxRecDepth 20000 in
set_option maxHeartbeats 4000000 in
theorem mr_nil (O A B C X : Int) (ls : Value) (n a : Nat) (y : Wl) (w : World) (h : WOk w n a y) (ha : a ≤ 1) (hn : n ≤ 4000000) :
  Calls Tryd.prog 89 #[.pointer (some ⟨y.b, 0, none⟩), stepV 15 O A B C X ls, .int .i64 (a : Int)] w fun e w' => e = .returned (.bool true) ∧ StepTo w n y w' := by
 have F0 : Fr [] w (w.alloc (.cells #[.int .i64 15, .int .i64 O, .int .i64 A, .int .i64 B, .int .i64 C, .int .i64 X, ls] 58)) := Fr.alloc [] _ _
 have HF0 := mkHid F0
 have HY : Hid (WOk (w.alloc (.cells #[.int .i64 15, .int .i64 O, .int .i64 A, .int .i64 B, .int .i64 C, .int .i64 X, ls] 58)) n a y) := h.idle F0
 have HSt : Hid (∀ w', StepTo (w.alloc (.cells #[.int .i64 15, .int .i64 O, .int .i64 A, .int .i64 B, .int .i64 C, .int .i64 X, ls] 58)) n y w' → StepTo w n y w') := fun w' ⟨x', t', q1, q2, q3, q4⟩ => ⟨x', t', q1, q2, q3, (Go1.idle y F0).trans q4⟩
 have HBl : Hid (∀ V Y, Fr Y (w.alloc (.cells #[.int .i64 15, .int .i64 O, .int .i64 A, .int .i64 B, .int .i64 C, .int .i64 X, ls] 58)) V → (∀ g ∈ Y, g < w.heap.size) → V.heap[w.heap.size]? = some (.cells #[.int .i64 15, .int .i64 O, .int .i64 A, .int .i64 B, .int .i64 C, .int .i64 X, ls] 58 (0, 0))) := fun V Y hV hX => (hV.block w.heap.size (by simp) (fun hm => by have := hX _ hm; omega)).trans (heap_alloc_new w _)
 have HLt : Hid (∀ g, Liv y g → g < w.heap.size) := fun g hg => h.lt hg
 obtain ⟨c0, c1⟩ := cells_of HY.out ha a ha
 have eA : y.at a a = y.dA := if_pos rfl
 rw [eA] at c0 c1
 have a1 : (0 : Int) ≤ (a : Int) := by omega
 have a2 : (a : Int) < 2 := by omega
 have a3 : IntKind.i64.wrap (a : Int) = (a : Int) := by rw [iwrap]; unfold wrap64; omega
 clear h F0
 unfold stepV
 go_enter Tryd.func89, Tryd.ntmps89
 go_wp2_with fail
 generalize w.alloc (.cells #[.int .i64 15, .int .i64 O, .int .i64 A, .int .i64 B, .int .i64 C, .int .i64 X, ls] 58) = W0 at *
 obtain ⟨s0, hs0⟩ : ∃ s0, s0 = w.heap.size := ⟨_, rfl⟩
 rw [← hs0] at HBl HLt
 try rw [← hs0] at hlg
 try rw [← hs0] at b6
 try rw [← hs0]
 clear hs0
 have hl := lost_ok 15 O A B C X ls W0
 unfold stepV at hl
 refine hl.mono ?_
 rintro e w1 ⟨rfl, f1⟩
 have HZ : Hid (StepTo w n y w1) := HSt.out w1 ⟨y, a, ha, rfl, (HY.out.idle f1).more (by omega), Go1.idle y f1⟩
 clear f1 hl
 go_wp2_with fail
 go_ret
 exact ⟨rfl, HZ.out⟩
set_option maxRecDepth 20000 in
set_option maxHeartbeats 4000000 in
theorem mr_else (K O A B C X : Int) (ls : Value) (k1 : ¬ K = 11) (k2 : ¬ K = 12) (k3 : ¬ K = 13) (k4 : ¬ K = 14) (k5 : ¬ K = 15) (n a : Nat) (y : Wl) (w : World) (h : WOk w n a y) (ha : a ≤ 1) (hn : n ≤ 4000000) :
  Calls Tryd.prog 89 #[.pointer (some ⟨y.b, 0, none⟩), stepV K O A B C X ls, .int .i64 (a : Int)] w fun e w' => e = .returned (.bool true) ∧ StepTo w n y w' := by
 have F0 : Fr [] w (w.alloc (.cells #[.int .i64 K, .int .i64 O, .int .i64 A, .int .i64 B, .int .i64 C, .int .i64 X, ls] 58)) := Fr.alloc [] _ _
 have HF0 := mkHid F0
 have HY : Hid (WOk (w.alloc (.cells #[.int .i64 K, .int .i64 O, .int .i64 A, .int .i64 B, .int .i64 C, .int .i64 X, ls] 58)) n a y) := h.idle F0
 have HSt : Hid (∀ w', StepTo (w.alloc (.cells #[.int .i64 K, .int .i64 O, .int .i64 A, .int .i64 B, .int .i64 C, .int .i64 X, ls] 58)) n y w' → StepTo w n y w') := fun w' ⟨x', t', q1, q2, q3, q4⟩ => ⟨x', t', q1, q2, q3, (Go1.idle y F0).trans q4⟩
 have HBl : Hid (∀ V Y, Fr Y (w.alloc (.cells #[.int .i64 K, .int .i64 O, .int .i64 A, .int .i64 B, .int .i64 C, .int .i64 X, ls] 58)) V → (∀ g ∈ Y, g < w.heap.size) → V.heap[w.heap.size]? = some (.cells #[.int .i64 K, .int .i64 O, .int .i64 A, .int .i64 B, .int .i64 C, .int .i64 X, ls] 58 (0, 0))) := fun V Y hV hX => (hV.block w.heap.size (by simp) (fun hm => by have := hX _ hm; omega)).trans (heap_alloc_new w _)
 have HLt : Hid (∀ g, Liv y g → g < w.heap.size) := fun g hg => h.lt hg
 obtain ⟨c0, c1⟩ := cells_of HY.out ha a ha
 have eA : y.at a a = y.dA := if_pos rfl
 rw [eA] at c0 c1
 have a1 : (0 : Int) ≤ (a : Int) := by omega
 have a2 : (a : Int) < 2 := by omega
 have a3 : IntKind.i64.wrap (a : Int) = (a : Int) := by rw [iwrap]; unfold wrap64; omega
 clear h F0
 unfold stepV
 go_enter Tryd.func89, Tryd.ntmps89
 go_wp2_with fail
 generalize w.alloc (.cells #[.int .i64 K, .int .i64 O, .int .i64 A, .int .i64 B, .int .i64 C, .int .i64 X, ls] 58) = W0 at *
 obtain ⟨s0, hs0⟩ : ∃ s0, s0 = w.heap.size := ⟨_, rfl⟩
 rw [← hs0] at HBl HLt
 try rw [← hs0] at hlg
 try rw [← hs0] at b6
 try rw [← hs0]
 clear hs0
 have HZ : Hid (StepTo w n y W0) := HSt.out W0 ⟨y, a, ha, rfl, HY.out.more (by omega), Go1.idle y (Fr.refl _ _)⟩
 go_ret
 exact ⟨rfl, HZ.out⟩
set_option maxRecDepth 20000 in
set_option maxHeartbeats 4000000 in
theorem mr_state (O A B C X : Int) (ls : Value) (n a : Nat) (y : Wl) (w : World) (h : WOk w n a y) (ha : a ≤ 1) (hn : n ≤ 4000000) :
  Calls Tryd.prog 89 #[.pointer (some ⟨y.b, 0, none⟩), stepV 13 O A B C X ls, .int .i64 (a : Int)] w fun e w' => e = .returned (.bool true) ∧ StepTo w n y w' := by
 have F0 : Fr [] w (w.alloc (.cells #[.int .i64 13, .int .i64 O, .int .i64 A, .int .i64 B, .int .i64 C, .int .i64 X, ls] 58)) := Fr.alloc [] _ _
 have HF0 := mkHid F0
 have HY : Hid (WOk (w.alloc (.cells #[.int .i64 13, .int .i64 O, .int .i64 A, .int .i64 B, .int .i64 C, .int .i64 X, ls] 58)) n a y) := h.idle F0
 have HSt : Hid (∀ w', StepTo (w.alloc (.cells #[.int .i64 13, .int .i64 O, .int .i64 A, .int .i64 B, .int .i64 C, .int .i64 X, ls] 58)) n y w' → StepTo w n y w') := fun w' ⟨x', t', q1, q2, q3, q4⟩ => ⟨x', t', q1, q2, q3, (Go1.idle y F0).trans q4⟩
 have HBl : Hid (∀ V Y, Fr Y (w.alloc (.cells #[.int .i64 13, .int .i64 O, .int .i64 A, .int .i64 B, .int .i64 C, .int .i64 X, ls] 58)) V → (∀ g ∈ Y, g < w.heap.size) → V.heap[w.heap.size]? = some (.cells #[.int .i64 13, .int .i64 O, .int .i64 A, .int .i64 B, .int .i64 C, .int .i64 X, ls] 58 (0, 0))) := fun V Y hV hX => (hV.block w.heap.size (by simp) (fun hm => by have := hX _ hm; omega)).trans (heap_alloc_new w _)
 have HLt : Hid (∀ g, Liv y g → g < w.heap.size) := fun g hg => h.lt hg
 obtain ⟨c0, c1⟩ := cells_of HY.out ha a ha
 have eA : y.at a a = y.dA := if_pos rfl
 rw [eA] at c0 c1
 have a1 : (0 : Int) ≤ (a : Int) := by omega
 have a2 : (a : Int) < 2 := by omega
 have a3 : IntKind.i64.wrap (a : Int) = (a : Int) := by rw [iwrap]; unfold wrap64; omega
 clear h F0
 unfold stepV
 go_enter Tryd.func89, Tryd.ntmps89
 go_wp2_with fail
 generalize w.alloc (.cells #[.int .i64 13, .int .i64 O, .int .i64 A, .int .i64 B, .int .i64 C, .int .i64 X, ls] 58) = W0 at *
 obtain ⟨s0, hs0⟩ : ∃ s0, s0 = w.heap.size := ⟨_, rfl⟩
 rw [← hs0] at HBl HLt
 try rw [← hs0] at hlg
 try rw [← hs0] at b6
 try rw [← hs0]
 clear hs0
 obtain ⟨sx, sy, sz, ks, M', hSO⟩ := st_any HY.out.okA
 have H23 := mkHid hSO.prog
 have H24 := mkHid hSO.docu
 have HBd : Hid (∀ {w' B ov ls}, SRep w' B ov ls → ls.map osKey = ks → ls.length ≤ 1048576 ∧ ∀ o ∈ ls, o.slots.length ≤ 8192) := fun h1 h2 => hSO.bnd h1 h2
 have HSm : Hid (∀ V oa ob la lb ba bb, SRep V ba oa la → SRep V bb ob lb → la.map osKey = ks → lb.map osKey = ks → Calls Tryd.prog 22 #[.agg #[.int .i64 (sx : Int), .int .i64 (sy : Int), .int .i64 (sz : Int), oa], .agg #[.int .i64 (sx : Int), .int .i64 (sy : Int), .int .i64 (sz : Int), ob]] V fun e w' => e = .returned (.bool true) ∧ Fr [] V w') := fun V oa ob la lb ba bb h1 h2 k1 k2 => sameState_ok sx sy sz oa ob la lb ba bb V h1 h2 (k1.trans k2.symm) (HBd.out h1 k1).1 (HBd.out h1 k1).2
 have q0 : Hid (Fr [] W0 W0) := Fr.refl _ _
 clear hSO HBl HLt
 generalize vO y.dA = vo at *
 generalize vR y.dA = vr at *
 refine (H23.out W0 q0).mono ?_
 rintro e w1 ⟨ov1, l1, rfl, r1, e1, f1, p1⟩
 obtain ⟨⟨pp1, pn1, pc1⟩, hv1, -, -⟩ := le_of r1.row
 replace hv1 : Value.slice pp1 pn1 pc1 = ov1 := hv1
 subst hv1
 have R1 := mkHid r1
 have q1 : Hid (Fr [] W0 (w1.alloc (.cells #[.int .i64 (sx : Int), .int .i64 (sy : Int), .int .i64 (sz : Int), .slice pp1 pn1 pc1] 38))) := hid_al (hid_tr q0 f1) _
 have HW1 : Hid (W0.heap.size ≤ w1.heap.size) := f1.size
 have HB1 : Hid (∀ V, Hid (Fr [] (w1.alloc (.cells #[.int .i64 (sx : Int), .int .i64 (sy : Int), .int .i64 (sz : Int), .slice pp1 pn1 pc1] 38)) V) → V.heap[w1.heap.size]? = some (.cells #[.int .i64 (sx : Int), .int .i64 (sy : Int), .int .i64 (sz : Int), .slice pp1 pn1 pc1] 38 (0, 0))) := fun V hV => (hV.out.block w1.heap.size (by simp) (by simp)).trans (heap_alloc_new w1 _)
 have HR1 : Hid (∀ V, Hid (Fr [] (w1.alloc (.cells #[.int .i64 (sx : Int), .int .i64 (sy : Int), .int .i64 (sz : Int), .slice pp1 pn1 pc1] 38)) V) → SRep V W0.heap.size (.slice pp1 pn1 pc1) l1) := fun V hV => (R1.out.idle (Fr.alloc [] _ _)).idle hV.out
 have HG1 : Hid (∀ g ∈ stB (.slice pp1 pn1 pc1) l1, g < w1.heap.size) := fun g hg => (R1.out.ge g hg).2
 have HP1 := mkHid (And.intro e1 p1)
 clear r1 f1 R1 e1 p1
 go_wp2_with fail
 have HS1 : Hid (w1.heap.size ≤ (w1.alloc (.cells #[.int .i64 (sx : Int), .int .i64 (sy : Int), .int .i64 (sz : Int), .slice pp1 pn1 pc1] 38)).heap.size) := mkHid (by simp)
 generalize w1.alloc (.cells #[.int .i64 (sx : Int), .int .i64 (sy : Int), .int .i64 (sz : Int), .slice pp1 pn1 pc1] 38) = V1 at *
 generalize w1.heap.size = b1 at *
 refine (H23.out V1 q1).mono ?_
 rintro e w2 ⟨ov2, l2, rfl, r2, e2, f2, p2⟩
 obtain ⟨⟨pp2, pn2, pc2⟩, hv2, -, -⟩ := le_of r2.row
 replace hv2 : Value.slice pp2 pn2 pc2 = ov2 := hv2
 subst hv2
 have R2 := mkHid r2
 have g2 : Hid (Fr [] V1 (w2.alloc (.cells #[.int .i64 (sx : Int), .int .i64 (sy : Int), .int .i64 (sz : Int), .slice pp2 pn2 pc2] 38))) := hid_al f2 _
 have q2 : Hid (Fr [] W0 (w2.alloc (.cells #[.int .i64 (sx : Int), .int .i64 (sy : Int), .int .i64 (sz : Int), .slice pp2 pn2 pc2] 38))) := hid_tr q1 g2.out
 have HW2 : Hid (V1.heap.size ≤ w2.heap.size) := f2.size
 have HB2 : Hid (∀ V, Hid (Fr [] (w2.alloc (.cells #[.int .i64 (sx : Int), .int .i64 (sy : Int), .int .i64 (sz : Int), .slice pp2 pn2 pc2] 38)) V) → V.heap[w2.heap.size]? = some (.cells #[.int .i64 (sx : Int), .int .i64 (sy : Int), .int .i64 (sz : Int), .slice pp2 pn2 pc2] 38 (0, 0))) := fun V hV => (hV.out.block w2.heap.size (by simp) (by simp)).trans (heap_alloc_new w2 _)
 have HR2 : Hid (∀ V, Hid (Fr [] (w2.alloc (.cells #[.int .i64 (sx : Int), .int .i64 (sy : Int), .int .i64 (sz : Int), .slice pp2 pn2 pc2] 38)) V) → SRep V V1.heap.size (.slice pp2 pn2 pc2) l2) := fun V hV => (R2.out.idle (Fr.alloc [] _ _)).idle hV.out
 have HG2 : Hid (∀ g ∈ stB (.slice pp2 pn2 pc2) l2, V1.heap.size ≤ g) := fun g hg => (R2.out.ge g hg).1
 have HP2 := mkHid (And.intro e2 p2)
 clear r2 f2 R2 e2 p2
 go_wp2_with fail
 generalize w2.alloc (.cells #[.int .i64 (sx : Int), .int .i64 (sy : Int), .int .i64 (sz : Int), .slice pp2 pn2 pc2] 38) = V2 at *
 generalize w2.heap.size = b2 at *
 have HCl : Hid (∀ V, Hid (Fr [] V2 V) → (V.cell? ⟨b1, 0, none⟩ = some (.int .i64 (sx : Int)) ∧ V.cell? ⟨b1, 1, none⟩ = some (.int .i64 (sy : Int)) ∧ V.cell? ⟨b1, 2, none⟩ = some (.int .i64 (sz : Int)) ∧ V.cell? ⟨b1, 3, none⟩ = some (.slice pp1 pn1 pc1)) ∧ V.cell? ⟨b2, 0, none⟩ = some (.int .i64 (sx : Int)) ∧ V.cell? ⟨b2, 1, none⟩ = some (.int .i64 (sy : Int)) ∧ V.cell? ⟨b2, 2, none⟩ = some (.int .i64 (sz : Int)) ∧ V.cell? ⟨b2, 3, none⟩ = some (.slice pp2 pn2 pc2)) := fun V hV => by
  have z1 := HB1.out V (hid_tr g2 hV.out)
  have z2 := HB2.out V hV
  exact ⟨⟨by rw [cell_in z1]; rfl, by rw [cell_in z1]; rfl, by rw [cell_in z1]; rfl, by rw [cell_in z1]; rfl⟩, by rw [cell_in z2]; rfl, by rw [cell_in z2]; rfl, by rw [cell_in z2]; rfl, by rw [cell_in z2]; rfl⟩
 have k0 : Hid (Fr [] V2 V2.drew) := Fr.drew [] V2
 have H24' : Hid (∀ V, Hid (Fr [] V2 V) → Calls Tryd.prog 24 #[vr] V fun e w'' => ∃ ov ls, e = .returned (.agg #[.int .i64 (sx : Int), .int .i64 (sy : Int), .int .i64 (sz : Int), ov]) ∧ Hid (SRep w'' V.heap.size ov ls ∧ ls.map osKey = ks) ∧ Hid (Fr [] V2 w'')) := fun V hV => (H24.out V (hid_tr q2 hV.out)).mono fun e w'' ⟨ov, ls, h1, h2, h3, h4⟩ => ⟨ov, ls, h1, ⟨h2, h3⟩, hid_tr hV h4⟩
 have HM1 : Hid (∀ V ob lb B, Hid (SRep V B ob lb ∧ lb.map osKey = ks) → Hid (Fr [] V2 V) → Calls Tryd.prog 22 #[.agg #[.int .i64 (sx : Int), .int .i64 (sy : Int), .int .i64 (sz : Int), (.slice pp1 pn1 pc1)], .agg #[.int .i64 (sx : Int), .int .i64 (sy : Int), .int .i64 (sz : Int), ob]] V fun e w' => e = .returned (.bool true) ∧ Hid (Fr [] V2 w')) := fun V ob lb B h1 hV => (HSm.out V (.slice pp1 pn1 pc1) ob l1 lb _ B (HR1.out V (hid_tr g2 hV.out)) h1.out.1 HP1.out.1 h1.out.2).mono fun e w' ⟨h2, h3⟩ => ⟨h2, hid_tr hV h3⟩
 have HM2 : Hid (∀ V ob lb B, Hid (SRep V B ob lb ∧ lb.map osKey = ks) → Hid (Fr [] V2 V) → Calls Tryd.prog 22 #[.agg #[.int .i64 (sx : Int), .int .i64 (sy : Int), .int .i64 (sz : Int), (.slice pp2 pn2 pc2)], .agg #[.int .i64 (sx : Int), .int .i64 (sy : Int), .int .i64 (sz : Int), ob]] V fun e w' => e = .returned (.bool true) ∧ Hid (Fr [] V2 w')) := fun V ob lb B h1 hV => (HSm.out V (.slice pp2 pn2 pc2) ob l2 lb _ B (HR2.out V hV) h1.out.1 HP2.out.1 h1.out.2).mono fun e w' ⟨h2, h3⟩ => ⟨h2, hid_tr hV h3⟩
 have HZZ : Hid (∀ V, Hid (Fr [] V2 V) → Calls Tryd.prog 43 #[.pointer (some ⟨y.b, 6, none⟩), .agg #[.int .i64 (sx : Int), .int .i64 (sy : Int), .int .i64 (sz : Int), (.slice pp1 pn1 pc1)]] V fun e V3 => e = .returned (.tuple #[]) ∧ (V3.heap[b2]? = some (.cells #[.int .i64 (sx : Int), .int .i64 (sy : Int), .int .i64 (sz : Int), .slice pp2 pn2 pc2] 38 (0, 0))) ∧ ∀ V1', Fr [] V3 V1' → Calls Tryd.prog 43 #[.pointer (some ⟨y.b, 6, none⟩), .agg #[.int .i64 (sx : Int), .int .i64 (sy : Int), .int .i64 (sz : Int), (.slice pp2 pn2 pc2)]] V1' fun e V2 => e = .returned (.tuple #[]) ∧ StepTo w n y V2) := fun V hV => by
  have z1 := HR1.out V (hid_tr g2 hV.out)
  have z2 := HR2.out V hV
  obtain ⟨n1, s1⟩ := HBd.out z1 HP1.out.1
  obtain ⟨n2, s2⟩ := HBd.out z2 HP2.out.1
  have hle : W0.heap.size ≤ V1.heap.size := q1.out.size
  refine (HY.out.state2 ha hn (q2.out.trans hV.out (by simp)) z1 ⟨own_base z2.row hle, fun o ho => own_base (z2.slots o ho) hle⟩ HP1.out.2 HP2.out.2 (fun g h1 h2 => by have := HG1.out g h1; have := HG2.out g h2; have := HS1.out; omega) n1 n2 (fun o ho => by have := s1 o ho; omega) (fun o ho => by have := s2 o ho; omega) (sx : Int) (sy : Int) (sz : Int) (sx : Int) (sy : Int) (sz : Int)).mono ?_
  rintro e V3 ⟨h1, h0, h2⟩
  have zb := HB2.out V hV
  have lb := HW2.out
  refine ⟨h1, (h0 b2 (by omega) (fun hm => by have := HG1.out b2 hm; have := HS1.out; omega) (lt_of_heap zb)).trans zb, fun V1' h3 => (h2 V1' h3).mono fun e V4 ⟨h4, h5⟩ => ⟨h4, HSt.out _ h5⟩⟩
 clear HY HSt HSm HR1 HR2 HG1 HG2 HP1 HP2 HS1 HBd H24 H23
 go_region_held3 (fun V => (V.cell? ⟨b1, 0, none⟩ = some (.int .i64 (sx : Int)) ∧ V.cell? ⟨b1, 1, none⟩ = some (.int .i64 (sy : Int)) ∧ V.cell? ⟨b1, 2, none⟩ = some (.int .i64 (sz : Int)) ∧ V.cell? ⟨b1, 3, none⟩ = some (.slice pp1 pn1 pc1)) ∧ V.cell? ⟨b2, 0, none⟩ = some (.int .i64 (sx : Int)) ∧ V.cell? ⟨b2, 1, none⟩ = some (.int .i64 (sy : Int)) ∧ V.cell? ⟨b2, 2, none⟩ = some (.int .i64 (sz : Int)) ∧ V.cell? ⟨b2, 3, none⟩ = some (.slice pp2 pn2 pc2))
  (first
   | exact HCl.out _ k6
   | exact HCl.out _ k5
   | exact HCl.out _ k4
   | exact HCl.out _ k3
   | exact HCl.out _ k0)
  (first
   | (go_at_call 24; refine (H24'.out _ k4).mono ?_; rintro e w5 ⟨ov5, l5, rfl, r5, k5⟩)
   | (go_at_call 22; refine (HM2.out _ _ _ _ r5 k5).mono ?_; rintro e w6 ⟨rfl, k6⟩)
   | (go_at_call 24; refine (H24'.out _ k0).mono ?_; rintro e w3 ⟨ov3, l3, rfl, r3, k3⟩)
   | (go_at_call 22; refine (HM1.out _ _ _ _ r3 k3).mono ?_; rintro e w4 ⟨rfl, k4⟩))
 all_goals go_wp2_with fail
 have k7 : Hid (Fr [] V2 w6.drew) := hid_drew k6
 obtain ⟨⟨x0, x1, x2, x3⟩, -⟩ := HCl.out w6.drew k7
 have HC7 : Hid (Calls Tryd.prog 43 #[.pointer (some ⟨y.b, 6, none⟩), .agg #[.int .i64 (sx : Int), .int .i64 (sy : Int), .int .i64 (sz : Int), (.slice pp1 pn1 pc1)]] w6.drew fun e V3 => ∃ v, e = .returned v ∧ (v = .tuple #[] ∧ Hid ((V3.heap[b2]? = some (.cells #[.int .i64 (sx : Int), .int .i64 (sy : Int), .int .i64 (sz : Int), .slice pp2 pn2 pc2] 38 (0, 0))) ∧ ∀ V1', Fr [] V3 V1' → Calls Tryd.prog 43 #[.pointer (some ⟨y.b, 6, none⟩), .agg #[.int .i64 (sx : Int), .int .i64 (sy : Int), .int .i64 (sz : Int), (.slice pp2 pn2 pc2)]] V1' fun e V2 => e = .returned (.tuple #[]) ∧ StepTo w n y V2))) := (HZZ.out w6.drew k7).mono fun e V3 ⟨h1, h2⟩ => ⟨_, h1, rfl, h2⟩
 clear HM1 HM2 HZZ H24' HCl HB1 HB2
 go_region_law (refine step_call rfl 43 Tryd.f43 Tryd.func43 (by kernel_rfl) (by kernel_rfl) _ _ rfl _ (by simp [Act.eval, Act.put]) _ HC7.out ?_; rintro _ w7 ⟨rfl, h7⟩)
 all_goals go_wp2_with fail
 all_goals
  have y0 : w7.drew.cell? ⟨b2, 0, none⟩ = some (.int .i64 (sx : Int)) := by rw [cell_in (w := w7.drew) h7.out.1]; rfl
  have y1 : w7.drew.cell? ⟨b2, 1, none⟩ = some (.int .i64 (sy : Int)) := by rw [cell_in (w := w7.drew) h7.out.1]; rfl
  have y2 : w7.drew.cell? ⟨b2, 2, none⟩ = some (.int .i64 (sz : Int)) := by rw [cell_in (w := w7.drew) h7.out.1]; rfl
  have y3 : w7.drew.cell? ⟨b2, 3, none⟩ = some (.slice pp2 pn2 pc2) := by rw [cell_in (w := w7.drew) h7.out.1]; rfl
  have HC8 : Hid (Calls Tryd.prog 43 #[.pointer (some ⟨y.b, 6, none⟩), .agg #[.int .i64 (sx : Int), .int .i64 (sy : Int), .int .i64 (sz : Int), (.slice pp2 pn2 pc2)]] w7.drew fun e V3 => ∃ v, e = .returned v ∧ (v = .tuple #[] ∧ Hid (StepTo w n y V3))) := (h7.out.2 w7.drew (Fr.drew [] w7)).mono fun e V3 ⟨h1, h2⟩ => ⟨_, h1, rfl, h2⟩
  clear h7 HC7
  go_region_law (refine step_call rfl 43 Tryd.f43 Tryd.func43 (by kernel_rfl) (by kernel_rfl) _ _ rfl _ (by simp [Act.eval, Act.put]) _ HC8.out ?_; rintro _ w8 ⟨rfl, h8⟩)
  all_goals go_wp2_with fail
  all_goals
   go_ret
   exact ⟨rfl, h8.out⟩
theorem load_two {W0 w2 w3 w4 : World} {n a a' r' : Nat} {y : Wl} {l : Lay} {G : HS} {R : RS} {M' : MS} (hY : WOk W0 n a y) (ha : a ≤ 1) (hg : Good M') (f2 : Fr [] W0 w2) (f3 : Fr [] w2 w3) (f4 : Fr [] w3 w4)
  (r2 : Rep w2 a' l G) (i2 : Inv G M') (b2 : ∀ b ∈ foot a' l, W0.heap.size ≤ b) (g2 : G.age = 0) (r4 : RRep w4 0 r' R) (d4 : Doc M' R) (b4 : ∀ b ∈ rfoot r' R, w3.heap.size ≤ b) (t4 : R.turn = 0) (n4 : R.born ≤ 65538) :
  StepTo W0 n y ((w4.setCell ⟨y.b, a, none⟩ (.pointer (some ⟨a', 0, none⟩))).setCell ⟨y.b, 2 + a, none⟩ (.pointer (some ⟨r', 0, none⟩))) := by
 have s2 := f2.size
 have s3 := f3.size
 have s4 := f4.size
 have h2s := hY.tb.s
 have F : Fr [] W0 w4 := (f2.trans f3 (by simp)).trans f4 (by simp)
 have hnew : ∀ g ∈ Du.f ⟨a', l, G, r', R, M'⟩, W0.heap.size ≤ g := fun g hg => by
  rcases List.mem_append.1 hg with q | q
  ·exact b2 g q
  ·have := b4 g q; omega
 have hd : DuOk w4 (n + 2) ⟨a', l, G, r', R, M'⟩ := ⟨r2.keep (f3.trans f4 (by simp)) (by simp), i2, hg, r4, d4, fun g h1 h2 => by have := r2.lt g h1; have := b4 g h2; omega, fun g hg => by have := hnew g hg; omega, by show G.age ≤ _; omega, by show R.turn ≤ _; omega, by show R.born ≤ _; omega⟩
 have hF : Fr [y.b] w4 ((w4.setCell ⟨y.b, a, none⟩ (.pointer (some ⟨a', 0, none⟩))).setCell ⟨y.b, 2 + a, none⟩ (.pointer (some ⟨r', 0, none⟩))) := (Fr.setCell (S := [y.b]) w4 _ _ (by simp)).trans (Fr.setCell (S := [y.b]) _ _ _ (by simp)) fun g hg => .inl hg
 have tp := (hY.idle F).bok.top
 refine ⟨{ y with dA := some ⟨a', l, G, r', R, M'⟩ }, a, ha, rfl, hY.load (n' := n + 2) (by omega) F hd hnew hF ?_, go_load hnew ((F.mono (by simp)).trans hF fun g hg => .inl hg)⟩
 have e : a = 0 ∨ a = 1 := by omega
 rcases e with rfl | rfl
 ·have t1 := set_in tp 0 (.pointer (some ⟨a', 0, none⟩))
  rw [set_in t1 2 _]
  rfl
 ·have t1 := set_in tp 1 (.pointer (some ⟨a', 0, none⟩))
  rw [set_in t1 3 _]
  rfl
set_option maxRecDepth 20000 in
set_option maxHeartbeats 4000000 in
theorem mr_load (O A B C X : Int) (ls : Value) (n a : Nat) (y : Wl) (w : World) (h : WOk w n a y) (ha : a ≤ 1) (hn : n ≤ 4000000) :
  Calls Tryd.prog 89 #[.pointer (some ⟨y.b, 0, none⟩), stepV 14 O A B C X ls, .int .i64 (a : Int)] w fun e w' => e = .returned (.bool true) ∧ StepTo w n y w' := by
 have F0 : Fr [] w (w.alloc (.cells #[.int .i64 14, .int .i64 O, .int .i64 A, .int .i64 B, .int .i64 C, .int .i64 X, ls] 58)) := Fr.alloc [] _ _
 have HF0 := mkHid F0
 have HY : Hid (WOk (w.alloc (.cells #[.int .i64 14, .int .i64 O, .int .i64 A, .int .i64 B, .int .i64 C, .int .i64 X, ls] 58)) n a y) := h.idle F0
 have HSt : Hid (∀ w', StepTo (w.alloc (.cells #[.int .i64 14, .int .i64 O, .int .i64 A, .int .i64 B, .int .i64 C, .int .i64 X, ls] 58)) n y w' → StepTo w n y w') := fun w' ⟨x', t', q1, q2, q3, q4⟩ => ⟨x', t', q1, q2, q3, (Go1.idle y F0).trans q4⟩
 have HBl : Hid (∀ V Y, Fr Y (w.alloc (.cells #[.int .i64 14, .int .i64 O, .int .i64 A, .int .i64 B, .int .i64 C, .int .i64 X, ls] 58)) V → (∀ g ∈ Y, g < w.heap.size) → V.heap[w.heap.size]? = some (.cells #[.int .i64 14, .int .i64 O, .int .i64 A, .int .i64 B, .int .i64 C, .int .i64 X, ls] 58 (0, 0))) := fun V Y hV hX => (hV.block w.heap.size (by simp) (fun hm => by have := hX _ hm; omega)).trans (heap_alloc_new w _)
 have HLt : Hid (∀ g, Liv y g → g < w.heap.size) := fun g hg => h.lt hg
 obtain ⟨c0, c1⟩ := cells_of HY.out ha a ha
 have eA : y.at a a = y.dA := if_pos rfl
 rw [eA] at c0 c1
 have a1 : (0 : Int) ≤ (a : Int) := by omega
 have a2 : (a : Int) < 2 := by omega
 have a3 : IntKind.i64.wrap (a : Int) = (a : Int) := by rw [iwrap]; unfold wrap64; omega
 clear h F0
 unfold stepV
 go_enter Tryd.func89, Tryd.ntmps89
 go_wp2_with fail
 generalize w.alloc (.cells #[.int .i64 14, .int .i64 O, .int .i64 A, .int .i64 B, .int .i64 C, .int .i64 X, ls] 58) = W0 at *
 obtain ⟨s0, hs0⟩ : ∃ s0, s0 = w.heap.size := ⟨_, rfl⟩
 rw [← hs0] at HBl HLt
 try rw [← hs0] at hlg
 try rw [← hs0] at b6
 try rw [← hs0]
 clear hs0
 obtain ⟨sx, sy, sz, ks, M', hSO⟩ := st_any HY.out.okA
 have HSO := mkHid hSO
 have q0 : Hid (Fr [] W0 W0) := Fr.refl _ _
 have HTp : Hid (∀ V, Hid (Fr [] W0 V) → V.cell? ⟨y.b, a, none⟩ = some (vO y.dA) ∧ V.cell? ⟨y.b, 2 + a, none⟩ = some (vR y.dA) ∧ V.frozen? ⟨y.b, a, none⟩ = false ∧ V.frozen? ⟨y.b, 2 + a, none⟩ = false) := fun V hV => by
  have z := HY.out.idle hV.out
  obtain ⟨u1, u2⟩ := cells_of z ha a ha
  rw [eA] at u1 u2
  exact ⟨u1, u2, frozen_in z.bok.top a, frozen_in z.bok.top (2 + a)⟩
 clear hSO HBl HLt
 refine (HSO.out.prog W0 q0).mono ?_
 rintro e w1 ⟨ov1, l1, rfl, r1, e1, f1, p1⟩
 have H17 := mkHid (HSO.out.load r1 e1 (HY.out.tb.keep f1 (by simp)))
 have q1 := hid_tr q0 f1
 clear r1 e1 p1 f1
 go_wp2_with fail
 refine H17.out.mono ?_
 rintro e w2 ⟨rfl, l, G, u1, u2, u3, u4, u5⟩
 have q2 := hid_tr q1 u3
 have HL2 : Hid (Rep w2 (w1.heap.size + 1) l G ∧ Inv G M' ∧ (∀ b ∈ foot (w1.heap.size + 1) l, W0.heap.size ≤ b) ∧ G.age = 0) := ⟨u1, u2, fun b hb => by have := u4 b hb; have := q1.out.size; omega, u5⟩
 clear u1 u2 u3 u4 u5 H17
 generalize w1.heap.size + 1 = a' at *
 go_wp2_with fail
 refine (HSO.out.docu w2 q2).mono ?_
 rintro e w3 ⟨ov3, l3, rfl, r3, e3, f3⟩
 have H18 := mkHid (HSO.out.rload r3 e3)
 have q3 := hid_tr q2 f3
 have p3 : Hid (Fr [] w2 w3) := f3
 clear r3 e3 f3
 go_wp2_with fail
 refine H18.out.mono ?_
 rintro e w4 ⟨rfl, R, v1, v2, v3, v4, v5, v6⟩
 have q4 := hid_tr q3 v3
 generalize hr' : w3.heap.size + 1 = r' at *
 have HZ : Hid (StepTo w n y ((w4.setCell ⟨y.b, a, none⟩ (.pointer (some ⟨a', 0, none⟩))).setCell ⟨y.b, 2 + a, none⟩ (.pointer (some ⟨r', 0, none⟩)))) := HSt.out _ (load_two HY.out ha HSO.out.good q2.out p3.out v3 HL2.out.1 HL2.out.2.1 HL2.out.2.2.1 HL2.out.2.2.2 v1 v2 v4 v5 v6)
 obtain ⟨x1, x2, x3, x4⟩ := HTp.out w4 q4
 clear v1 v2 v3 v4 v5 v6 H18 HL2 HSO HY HTp
 generalize vO y.dA = vo at *
 generalize vR y.dA = vr at *
 go_wp2_with (go_at_call 11; refine (num_any _ _ (by omega) (by omega)).mono ?_; rintro e w' ⟨rfl, hw'⟩; rw [hw']; clear hw' w')
 go_ret
 exact ⟨rfl, HZ.out⟩
end Go.Proofs.YtklfnjlenbgmoaaDoor
