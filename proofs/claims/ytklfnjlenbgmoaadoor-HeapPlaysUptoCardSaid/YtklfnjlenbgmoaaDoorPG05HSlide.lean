import Derived.Test.YtklfnjlenbgmoaaDoorPG04HPutAt
import Derived.Laws.CopyOwn
import Derived.Deep.MidRow
set_option linter.unusedVariables false
namespace Go.Proofs.YtklfnjlenbgmoaaDoor
open Go.RowKit
attribute [local go_sem ↓] Go.wp_at_zero Go.wp_at_succ
def exchH (H : HS) (i j : Nat) : HS :=
 {H with seats := (H.seats.set i (H.seats.getD j (0, 0, 0))).set j (H.seats.getD i (0, 0, 0)), order := (H.order.set (H.seats.getD j (0, 0, 0)).2.2 i).set (H.seats.getD i (0, 0, 0)).2.2 j, age := H.age + 1 }
theorem eqw_drew (X : World) : Eqw X X.drew := ⟨rfl, rfl, rfl, rfl⟩
theorem exch_seats {w : World} {a : Nat} {l : Lay} {H : HS} {gs : Nat} (h : Rep w a l H) (hgs : l.ps = some ⟨gs, 0, none⟩) (i j : Nat) (hi : i < H.seats.length) (hj : j < H.seats.length) (x y : Nat × Nat × Nat) (W : World)
  (he : Eqw ((((((w.setCell ⟨gs, i * 3, none⟩ (I y.1)).setCell ⟨gs, i * 3 + 1, none⟩ (I y.2.1)).setCell ⟨gs, i * 3 + 2, none⟩ (I y.2.2)).setCell ⟨gs, j * 3, none⟩ (I x.1)).setCell ⟨gs, j * 3 + 1, none⟩ (I x.2.1)).setCell ⟨gs, j * 3 + 2, none⟩ (I x.2.2)) W) :
  Rep W a l { H with seats := (H.seats.set i y).set j x } ∧ Nx a l l w W ∧ ∀ k, k ≠ gs → W.heap[k]? = w.heap[k]? := by
 have K1 := h.setSeat hgs i hi y (((w.setCell ⟨gs, i * 3, none⟩ (I y.1)).setCell ⟨gs, i * 3 + 1, none⟩ (I y.2.1)).setCell ⟨gs, i * 3 + 2, none⟩ (I y.2.2)) ⟨rfl, rfl, rfl, rfl⟩
 have K2 := K1.1.setSeat hgs j (by simp; omega) x W he
 refine ⟨K2.1, K1.2.trans K2.2, fun k hk => ?_⟩
 rw [he.2.2.2, set_else hk, set_else hk, set_else hk, set_else hk, set_else hk, set_else hk]
theorem exch_order {w : World} {a : Nat} {l : Lay} {H H' : HS} {go : Nat} (h : Rep w a l H) (hgo : l.po = some ⟨go, 0, none⟩) (p q i j : Nat) (hH : H' = { H with order := (H.order.set p i).set q j, age := H.age + 1 }) (W : World)
  (he : Eqw (((w.setCell ⟨go, p, none⟩ (.int .i64 (i : Int))).setCell ⟨go, q, none⟩ (.int .i64 (j : Int))).setCell ⟨a, 10, none⟩ (.int .i64 ((H.age : Int) + 1))) W) : Rep W a l H' ∧ Nx a l l w W := by
 subst hH
 have K1 := h.setOrder hgo p i (w.setCell ⟨go, p, none⟩ (.int .i64 (i : Int))) ⟨rfl, rfl, rfl, rfl⟩
 have K2 := K1.1.setOrder hgo q j ((w.setCell ⟨go, p, none⟩ (.int .i64 (i : Int))).setCell ⟨go, q, none⟩ (.int .i64 (j : Int))) ⟨rfl, rfl, rfl, rfl⟩
 have K3 := K2.1.set (H' := { H with order := (H.order.set p i).set q j, age := H.age + 1 }) 10 (.int .i64 ((H.age : Int) + 1)) (by simp [hcells]) rfl rfl rfl rfl
 exact ⟨K3.eqw he, ((K1.2.trans K2.2).trans (Nx.fr (Fr.setCell (S := [a]) _ _ _ (by simp)))).eqw he⟩
set_option maxRecDepth 20000 in
set_option maxHeartbeats 4000000 in
theorem Exchange_ok (i j : Nat) (a : Nat) (l : Lay) (H : HS) (w : World) (h : Rep w a l H) (h1 : (1 : Int) ≤ i) (h2 : (i : Int) < H.seats.length) (h3 : (H.seats.getD i (0, 0, 0)).2.1 ≠ 0) (k1 : (1 : Int) ≤ j) (k2 : (j : Int) < H.seats.length) (k3 : (H.seats.getD j (0, 0, 0)).2.1 ≠ 0) (hij : i ≠ j)
  (t1 : (H.seats.getD i (0, 0, 0)).2.2 < H.order.length) (t2 : (H.seats.getD j (0, 0, 0)).2.2 < H.order.length) (t3 : (H.seats.getD i (0, 0, 0)).2.2 ≠ (H.seats.getD j (0, 0, 0)).2.2) (hsl : (H.seats.length : Int) ≤ 65538) (hol : (H.order.length : Int) ≤ 1048576) (hage : (H.age : Int) ≤ 1000000000) :
  Calls Tryd.prog 46 #[.pointer (some ⟨a, 0, none⟩), .int .i64 i, .int .i64 j] w fun e w' => e = .returned (.int .i64 0) ∧ Rep w' a l (exchH H i j) ∧ Nx a l l w w' := by
 have hal := h.lt a (by simp [foot])
 have HS1 := mkHid (fun W (hW : Rep W a l H) => seatOf_yes i a l H W hW h1 h2 h3)
 have HS2 := mkHid (fun W (hW : Rep W a l H) => seatOf_yes j a l H W hW k1 k2 k3)
 have HR := mkHid h
 have HEX : Hid (exchH H i j = { H with seats := (H.seats.set i (H.seats.getD j (0, 0, 0))).set j (H.seats.getD i (0, 0, 0)), order := (H.order.set (H.seats.getD j (0, 0, 0)).2.2 i).set (H.seats.getD i (0, 0, 0)).2.2 j, age := H.age + 1 }) := rfl
 generalize exchH H i j = HX at *
 clear h h3 k3
 obtain ⟨⟨x0, x1, x2⟩, hx⟩ : ∃ s, s = H.seats.getD i (0, 0, 0) := ⟨_, rfl⟩
 obtain ⟨⟨y0, y1, y2⟩, hy⟩ : ∃ s, s = H.seats.getD j (0, 0, 0) := ⟨_, rfl⟩
 rw [← hx] at HS1 t1 t3 HEX
 rw [← hy] at HS2 t2 t3 HEX
 dsimp only [sv, I] at HS1 HS2 t1 t2 t3 HEX
 clear hx hy
 go_enter Tryd.func46, Tryd.ntmps46
 go_wp2_with fail
 refine Calls.mono (HS1.out _ HR.out) ?_
 rintro e w1 ⟨rfl, hf1⟩
 have hz1 := hf1.size
 have HF1 := mkHid hf1
 clear hf1
 go_wp2_with fail
 have F2 : Fr [] w (w1.alloc (.cells #[.int .i64 (x0 : Int), .int .i64 (x1 : Int), .int .i64 (x2 : Int)] 103)) := HF1.out.trans (Fr.alloc [] _ _) (by simp)
 refine Calls.mono (HS2.out _ (HR.out.keep F2 (by simp))) ?_
 rintro e w2 ⟨rfl, hf2⟩
 have z2 := hf2.size
 have s0 := hf2.cell (p := ⟨w1.heap.size, 0, none⟩) (by simp) (by simp)
 have s1 := hf2.cell (p := ⟨w1.heap.size, 1, none⟩) (by simp) (by simp)
 have s2 := hf2.cell (p := ⟨w1.heap.size, 2, none⟩) (by simp) (by simp)
 simp only [World.cell?_alloc_new, List.getElem?_toArray, List.getElem?_cons_succ, List.getElem?_cons_zero, World.size_alloc] at s0 s1 s2 z2
 have F3 := F2.trans hf2 (by simp)
 have HW0 := mkHid ((hf2.block w1.heap.size (by simp) (by simp)).trans (heap_alloc_new w1 _))
 have hr2 := HR.out.keep F3 (by simp)
 clear hf2 F2 HS1 HS2
 obtain ⟨gs, hgs, hcs, hfs, hgsa, hgsl⟩ := HR.out.seatAt i (by omega)
 obtain ⟨p0, p1, p2⟩ := hcs i (by omega)
 obtain ⟨q0, q1, q2⟩ := hcs j (by omega)
 have c5 := hr2.c5
 rw [hgs] at c5
 have cc : ∀ o, w2.cell? ⟨gs, o, none⟩ = w.cell? ⟨gs, o, none⟩ := fun o => F3.cell (p := ⟨gs, o, none⟩) hgsl (by simp)
 have ff : ∀ o, w2.frozen? ⟨gs, o, none⟩ = false := fun o => (F3.frozen (p := ⟨gs, o, none⟩) hgsl (by simp)).trans (hfs o)
 obtain ⟨o3, ho3⟩ : ∃ o3, o3 = Obj.cells #[.int .i64 (y0 : Int), .int .i64 (y1 : Int), .int .i64 (y2 : Int)] 103 := ⟨_, rfl⟩
 have P0 := ((World.cell?_alloc_lt w2 o3 ⟨gs, i * 3, none⟩ (by show gs < _; omega)).trans (cc _)).trans p0
 have P1 := ((World.cell?_alloc_lt w2 o3 ⟨gs, i * 3 + 1, none⟩ (by show gs < _; omega)).trans (cc _)).trans p1
 have P2 := ((World.cell?_alloc_lt w2 o3 ⟨gs, i * 3 + 2, none⟩ (by show gs < _; omega)).trans (cc _)).trans p2
 have Q0 := ((World.cell?_alloc_lt w2 o3 ⟨gs, j * 3, none⟩ (by show gs < _; omega)).trans (cc _)).trans q0
 have Q1 := ((World.cell?_alloc_lt w2 o3 ⟨gs, j * 3 + 1, none⟩ (by show gs < _; omega)).trans (cc _)).trans q1
 have Q2 := ((World.cell?_alloc_lt w2 o3 ⟨gs, j * 3 + 2, none⟩ (by show gs < _; omega)).trans (cc _)).trans q2
 simp only [I] at P0 P1 P2 Q0 Q1 Q2
 have fo : ∀ o, (w2.alloc o3).frozen? ⟨gs, o, none⟩ = false := fun o => (World.frozen?_alloc_old w2 o3 ⟨gs, o, none⟩ (by show gs ≠ _; omega)).trans (ff o)
 have e0 := fo (i * 3)
 have e1 := fo (i * 3 + 1)
 have e2 := fo (i * 3 + 2)
 have g0 := fo (j * 3)
 have g1 := fo (j * 3 + 1)
 have g2 := fo (j * 3 + 2)
 have C5 := (World.cell?_alloc_lt w2 o3 ⟨a, 5, none⟩ (by show a < _; omega)).trans c5
 have S0 := (World.cell?_alloc_lt w2 o3 ⟨w1.heap.size, 0, none⟩ (by show w1.heap.size < _; omega)).trans s0
 have S1 := (World.cell?_alloc_lt w2 o3 ⟨w1.heap.size, 1, none⟩ (by show w1.heap.size < _; omega)).trans s1
 have S2 := (World.cell?_alloc_lt w2 o3 ⟨w1.heap.size, 2, none⟩ (by show w1.heap.size < _; omega)).trans s2
 have hn3 := heap_alloc_new w2 o3
 rw [ho3] at hn3
 have T0 := cell_in hn3 0
 have T1 := cell_in hn3 1
 have T2 := cell_in hn3 2
 rw [← ho3] at T0 T1 T2
 simp only [List.getElem?_toArray, List.getElem?_cons_succ, List.getElem?_cons_zero] at T0 T1 T2
 have HF3 := mkHid (F3.trans (Fr.alloc [] w2 o3) (by simp))
 have hzz : (w2.alloc o3).heap.size = w2.heap.size + 1 := by simp
 have HB1 : Hid ((w2.alloc o3).heap[w1.heap.size]? = w2.heap[w1.heap.size]? ∧ (w2.alloc o3).heap[w2.heap.size]? = some (.cells #[.int .i64 (y0 : Int), .int .i64 (y1 : Int), .int .i64 (y2 : Int)] 103 (0, 0))) := ⟨Below.heap_alloc _ _ _ (by omega), by rw [ho3]; exact heap_alloc_new _ _⟩
 have HW1 : Hid (w2.heap[w1.heap.size]? = some (.cells #[.int .i64 (x0 : Int), .int .i64 (x1 : Int), .int .i64 (x2 : Int)] 103 (0, 0))) := HW0.out
 clear hcs hfs p0 p1 p2 q0 q1 q2 cc ff fo hn3 F3 hr2 s0 s1 s2 c5
 go_wp2
 rw [← ho3]
 clear ho3
 generalize w2.alloc o3 = w3 at *
 generalize (H.seats.getD i (0, 0, 0)).1 = ox0 at *
 generalize (H.seats.getD i (0, 0, 0)).2.1 = ox1 at *
 generalize (H.seats.getD i (0, 0, 0)).2.2 = ox2 at *
 generalize (H.seats.getD j (0, 0, 0)).1 = oy0 at *
 generalize (H.seats.getD j (0, 0, 0)).2.1 = oy1 at *
 generalize (H.seats.getD j (0, 0, 0)).2.2 = oy2 at *
 have m1 : (0 : Int) ≤ (i : Int) := by omega
 have m2 : (0 : Int) ≤ (j : Int) := by omega
 have d1 : gs ≠ w1.heap.size := by omega
 have d2 : gs ≠ w2.heap.size := by omega
 have d3 : w1.heap.size ≠ w2.heap.size := by omega
 have HZZ := mkHid hzz
 clear hzz
 have HE1 : Hid (∀ W, Eqw ((((((w3.setCell ⟨gs, i * 3, none⟩ (.int .i64 (y0 : Int))).setCell ⟨gs, i * 3 + 1, none⟩ (.int .i64 (y1 : Int))).setCell ⟨gs, i * 3 + 2, none⟩ (.int .i64 (y2 : Int))).setCell ⟨gs, j * 3, none⟩ (.int .i64 (x0 : Int))).setCell ⟨gs, j * 3 + 1, none⟩ (.int .i64 (x1 : Int))).setCell ⟨gs, j * 3 + 2, none⟩ (.int .i64 (x2 : Int))) W → Rep W a l { H with seats := (H.seats.set i (y0, y1, y2)).set j (x0, x1, x2) } ∧ Nx a l l w W ∧ W.heap[w1.heap.size]? = w2.heap[w1.heap.size]? ∧ W.heap[w2.heap.size]? = some (.cells #[.int .i64 (y0 : Int), .int .i64 (y1 : Int), .int .i64 (y2 : Int)] 103 (0, 0))) := by
  intro W he
  have K := exch_seats (HR.out.keep HF3.out (by simp)) hgs i j (by omega) (by omega) (x0, x1, x2) (y0, y1, y2) W he
  exact ⟨K.1, (Nx.frw (HF3.out.mono (by simp)) : Nx a l l w w3).trans K.2.1, (K.2.2 _ (Ne.symm d1)).trans HB1.out.1, (K.2.2 _ (Ne.symm d2)).trans HB1.out.2⟩
 go_cut [] (fun W => Hid (Rep W a l { H with seats := (H.seats.set i (y0, y1, y2)).set j (x0, x1, x2) } ∧ Nx a l l w W ∧ W.heap[w1.heap.size]? = w2.heap[w1.heap.size]? ∧ W.heap[w2.heap.size]? = some (.cells #[.int .i64 (y0 : Int), .int .i64 (y1 : Int), .int .i64 (y2 : Int)] 103 (0, 0))))
 case first =>
  go_region_held3 (fun w' => w'.cell? ⟨a, 5, none⟩ = some (.slice (some ⟨gs, 0, none⟩) H.seats.length l.cs) ∧ w'.cell? ⟨w1.heap.size, 0, none⟩ = some (.int .i64 (x0 : Int)) ∧ w'.cell? ⟨w1.heap.size, 1, none⟩ = some (.int .i64 (x1 : Int)) ∧ w'.cell? ⟨w1.heap.size, 2, none⟩ = some (.int .i64 (x2 : Int)) ∧ w'.cell? ⟨w2.heap.size, 0, none⟩ = some (.int .i64 (y0 : Int)) ∧ w'.cell? ⟨w2.heap.size, 1, none⟩ = some (.int .i64 (y1 : Int)) ∧ w'.cell? ⟨w2.heap.size, 2, none⟩ = some (.int .i64 (y2 : Int))) (go_keep) (fail)
  all_goals go_wp2
  all_goals
   go_meet
   case rel =>
    refine mkHid (HE1.out _ ?_)
    exact eqw_drew _
 case rest =>
  obtain ⟨w4, hw4⟩ : ∃ w4, w4 = wc := ⟨_, rfl⟩
  subst hw4
  obtain ⟨hr4, hx4, hb4, hb5⟩ := hcut.out
  clear hcut P0 P1 P2 Q0 Q1 Q2 e0 e1 e2 g0 g1 g2 C5 T0 T1 T2
  have hz4 : w4.heap[w1.heap.size]? = some (.cells #[.int .i64 (x0 : Int), .int .i64 (x1 : Int), .int .i64 (x2 : Int)] 103 (0, 0)) := by rw [hb4]; exact HW1.out
  have s0 := cell_in hz4 0
  have s2 := cell_in hz4 2
  have u2 := cell_in hb5 2
  simp only [List.getElem?_toArray, List.getElem?_cons_succ, List.getElem?_cons_zero] at s0 s2 u2
  obtain ⟨go, hgo, hco, hfo, hgoa, hgol⟩ := hr4.orderAt x2 (by dsimp only; omega)
  have c6 := hr4.c6
  have c10 := hr4.c10
  have f10 := hr4.frozen 10
  rw [hgo] at c6
  have o1 := hco x2 (by dsimp only; omega)
  have o2 := hco y2 (by dsimp only; omega)
  have p1 := hfo x2
  have p2 := hfo y2
  dsimp only at c6 c10 o1 o2
  generalize H.order.getD x2 0 = ov1 at *
  generalize H.order.getD y2 0 = ov2 at *
  have hgn1 : go ≠ w1.heap.size := by
   intro e
   obtain ⟨cur, hcur⟩ := own_blk hr4.order go (by rw [hgo]; simp [blk])
   rw [e, hz4] at hcur
   simp at hcur
  have hgn2 : go ≠ w2.heap.size := by
   intro e
   obtain ⟨cur, hcur⟩ := own_blk hr4.order go (by rw [hgo]; simp [blk])
   rw [e, hb5] at hcur
   simp at hcur
  have HE : Hid (∀ W, Eqw (((w4.setCell ⟨go, y2, none⟩ (.int .i64 (i : Int))).setCell ⟨go, x2, none⟩ (.int .i64 (j : Int))).setCell ⟨a, 10, none⟩ (.int .i64 ((H.age : Int) + 1))) W → Rep W a l HX ∧ Nx a l l w W) := by
   intro W he
   have K := exch_order (H' := HX) hr4 hgo y2 x2 i j HEX.out W he
   exact ⟨K.1, hx4.trans K.2⟩
  have a1 : (0 : Int) ≤ (x2 : Int) := by omega
  have a2 : (0 : Int) ≤ (y2 : Int) := by omega
  have a3 : (x2 : Int) < (H.order.length : Int) := by omega
  have a4 : (y2 : Int) < (H.order.length : Int) := by omega
  have t3' : y2 ≠ x2 := fun e => t3 e.symm
  clear hr4 hx4 hb4 hb5 hz4 hco hfo hgo HEX HR HF3 HB1
  go_wp2
  go_region_held3 (fun w' => w'.cell? ⟨a, 6, none⟩ = some (.slice (some ⟨go, 0, none⟩) H.order.length l.co) ∧ w'.cell? ⟨w1.heap.size, 2, none⟩ = some (.int .i64 (x2 : Int)) ∧ w'.cell? ⟨w2.heap.size, 2, none⟩ = some (.int .i64 (y2 : Int))) (go_keep) (fail)
  all_goals go_wp2
  all_goals
   go_ret
   exact ⟨rfl, HE.out _ ⟨rfl, rfl, rfl, rfl⟩⟩
def remBits (bits : List Nat) (k : Nat) : List Nat := bits.set ((k - 1) / 64) (bits.getD ((k - 1) / 64) 0 &&& (full - 2 ^ ((k - 1) % 64)))
def remH (H : HS) (k : Nat) : HS := { H with bits := remBits H.bits k, low := min H.low ((k - 1) / 64), count := H.count - 1 }
theorem andNot_u64 (b j : Nat) (hb : b ≤ full) : Go.bits .andNot .u64 (b : Int) ((2 ^ (j % 64) : Nat) : Int) = ((b &&& (full - 2 ^ (j % 64)) : Nat) : Int) := by
 have h : 2 ^ (j % 64) < 2 ^ 64 := Nat.pow_lt_pow_right (by omega) (Nat.mod_lt _ (by omega))
 exact u64_andNot_nat b _ (by unfold full at hb; omega) (by omega)
theorem rem_done {w : World} {a : Nat} {l : Lay} {H : HS} {g i z lw : Nat} (h : Rep w a l H) (hg : l.pb = some ⟨g, 0, none⟩) (hc : 1 ≤ H.count) (W : World)
  (he : Eqw (((w.setCell ⟨g, i, none⟩ (.int .u64 (z : Int))).setCell ⟨a, 8, none⟩ (.int .i64 (lw : Int))).setCell ⟨a, 9, none⟩ (.int .i64 ((H.count : Int) - 1))) W) :
  Rep W a l { H with bits := H.bits.set i z, low := lw, count := H.count - 1 } ∧ Nx a l l w W := by
 have hgb : g ∈ blk l.pb := by rw [hg]; simp [blk]
 have hap := (h.apart g).2.2.2 hgb
 have hb := h.bits
 rw [hg] at hb
 have hb1 := own_stored hb i (.int .u64 (z : Int))
 rw [map_set_U, ← hg] at hb1
 have h2 : Rep (w.setCell ⟨g, i, none⟩ (.int .u64 (z : Int))) a l { H with bits := H.bits.set i z } := by
  refine h.turnBits (by simp) (fun k hk => set_else (fun e => ?_)) (by simpa using hb1)
  subst e
  rcases hk with h1 | h1 | h1 | h1
  ·exact hap.1 h1
  ·exact hap.2.1 h1
  ·exact hap.2.2.1 h1
  ·exact hap.2.2.2 h1
 have f1 : Fr (foot a l) w (w.setCell ⟨g, i, none⟩ (.int .u64 (z : Int))) := Fr.setCell _ _ _ (by simp [foot, Lay.blocks, hgb])
 have h3 := h2.set (H' := { H with bits := H.bits.set i z, low := lw }) 8 (.int .i64 (lw : Int)) rfl rfl rfl rfl rfl
 have h4 := h3.set (H' := { H with bits := H.bits.set i z, low := lw, count := H.count - 1 }) 9 (.int .i64 ((H.count : Int) - 1)) (by simp [hcells]; omega) rfl rfl rfl rfl
 exact ⟨h4.eqw he, (Nx.frw ((f1.trans (Fr.setCell (S := foot a l) _ _ _ (by simp [foot])) (fun b hb => .inl hb)).trans (Fr.setCell (S := foot a l) _ _ _ (by simp [foot])) (fun b hb => .inl hb))).eqw he⟩
set_option maxRecDepth 20000 in
set_option maxHeartbeats 1000000 in
theorem remove_any (k : Nat) (a : Nat) (l : Lay) (H : HS) (w : World) (h : Rep w a l H) (hk0 : (1 : Int) ≤ k) (hk1 : (k : Int) ≤ 65537) (hi : (k - 1) / 64 < H.bits.length) (hb : ∀ k, H.bits.getD k 0 ≤ full) (hc0 : 1 ≤ H.count) (hc : (H.count : Int) ≤ 100000) (hlw : (H.low : Int) ≤ 100000) :
  Calls Tryd.prog 108 #[.pointer (some ⟨a, 7, none⟩), .int .i64 k] w fun e w' => e = .returned (.tuple #[]) ∧ Rep w' a l (remH H k) ∧ Nx a l l w w' := by
 have hd : ((k : Int) - 1) / 64 = (((k - 1) / 64 : Nat) : Int) := by omega
 have hd2 : (((k - 1) / 64 : Nat) : Int) ≤ 1024 := by omega
 obtain ⟨g, hg, cg, fg, hga⟩ := h.bitAt _ hi
 have c7 := h.c7
 have c8 := h.c8
 have c9 := h.c9
 have f8 := h.frozen 8
 have f9 := h.frozen 9
 rw [hg] at c7
 have hou := andNot_u64 (H.bits.getD ((k - 1) / 64) 0) (k - 1) (hb _)
 obtain ⟨lw, hlw1, hlw2⟩ : ∃ lw, lw = min H.low ((k - 1) / 64) ∧ (if (((k - 1) / 64 : Nat) : Int) < (H.low : Int) then (((k - 1) / 64 : Nat) : Int) else (H.low : Int)) = (lw : Int) := by
  refine ⟨_, rfl, ?_⟩
  split <;> omega
 have HR : Hid (∀ W, Eqw (((w.setCell ⟨g, (k - 1) / 64, none⟩ (.int .u64 ((H.bits.getD ((k - 1) / 64) 0 &&& (full - 2 ^ ((k - 1) % 64)) : Nat) : Int))).setCell ⟨a, 8, none⟩ (.int .i64 (lw : Int))).setCell ⟨a, 9, none⟩ (.int .i64 ((H.count : Int) - 1))) W → Rep W a l (remH H k) ∧ Nx a l l w W) := by
  intro W he
  have K := rem_done h hg hc0 W he
  unfold remH remBits
  rw [← hlw1]
  exact K
 have i1 : (0 : Int) ≤ (((k - 1) / 64 : Nat) : Int) := by omega
 have i2 : (((k - 1) / 64 : Nat) : Int) < (H.bits.length : Int) := by omega
 have hl0 : (0 : Int) ≤ (H.low : Int) := by omega
 have HLW := mkHid hlw2
 clear h hb hg hi hlw1 hlw2
 generalize H.bits.getD ((k - 1) / 64) 0 &&& (full - 2 ^ ((k - 1) % 64)) = z at *
 generalize H.bits.getD ((k - 1) / 64) 0 = b at *
 have Hbit := bit_any k
 generalize 2 ^ ((k - 1) % 64) = y at *
 have HB := mkHid Hbit
 clear Hbit
 generalize (k - 1) / 64 = i at *
 generalize H.bits.length = n at *
 generalize remH H k = HX at *
 generalize H.count = cnt at *
 generalize H.low = low at *
 go_enter Tryd.func108, Tryd.ntmps108
 go_wp2
 simp only [hd]
 clear hd
 go_region_with (go_at_call 115; refine (HB.out _ hk0 (by omega)).mono ?_; rintro e w' ⟨rfl, rfl⟩)
 all_goals go_wp2
 all_goals
  go_end0
  have hh := HLW.out
  first
  | (rw [if_pos (by omega)] at hh; rw [← hh] at HR; exact ⟨rfl, HR.out _ (eqw_drew _)⟩)
  | (rw [if_neg (by omega)] at hh; rw [← hh] at HR; exact ⟨rfl, HR.out _ (eqw_drew _)⟩)
end Go.Proofs.YtklfnjlenbgmoaaDoor
namespace Go.Proofs.YtklfnjlenbgmoaaDoor
open Go.RowKit
theorem run_clear80 (w : World) (ty : TypeId) (g o n c : Nat) (C : Array Value) (hn : 0 < n) (hg : w.heap[g]? = some (.cells C 33 (0, 0))) (hfit : o + n ≤ C.size) :
  (Builtin.clear_ #[80] ty #[.slice (some ⟨g, o, none⟩) n c]).run Tryd.prog w = .ok (.tuple #[]) (w.setRow g (splice C.toList o (zeros n)).toArray) := by
 have hzc : (Builtin.zeroCells (Value.int .i64 0).cells n).toList = zeros n := by
  show (Builtin.zeroCells #[.int .i64 0] n).toList = List.replicate n (.int .i64 0)
  simp [Builtin.zeroCells]
  apply List.ext_getElem
  ·simp
  ·intro i h1 h2
   simp [Nat.mod_one]
 have hst := run_storeCells_at Tryd.prog g o 33 (zeros n) 0 C w hg (by rw [zeros_len]; omega) (by intro v hv; rw [List.eq_of_mem_replicate hv]; rfl)
 obtain ⟨m, rfl⟩ : ∃ m, n = m + 1 := ⟨n - 1, by omega⟩
 simp only [Nat.add_zero, List.append_assoc] at hst
 simp [Builtin.clear_, run_underlying Tryd.underlying80, hzc, hst, splice]
theorem step_clear {ops : Array Oper} {o : Oper} {a : Act} {w : World} {K : Act → World → Prop} {Q : Exit → Act → World → Prop} {E : Prop} (hgd : o.guard = none) (d : Operand)
  (ho : o.op = .call { callee := .builtin .clear, args := #[d], argTypes := #[80] }) (g off n c : Nat) (hd : a.eval d = .slice (some ⟨g, off, none⟩) n c) (hn : 0 < n) (C : Array Value) (hg : w.heap[g]? = some (.cells C 33 (0, 0))) (hfit : off + n ≤ C.size)
  (h : ∀ w', w'.heap[g]? = some (.cells (splice C.toList off (zeros n)).toArray 33 (0, 0)) → Fr [g] w w' → w'.heap.size = w.heap.size → K (a.put o.dst (.tuple #[])) w') :
  if Region.wanted o (yielded ops a.tmps) = true then Oper.wp Tryd.prog o a w K Q else E := by
 have hw : Region.wanted o (yielded ops a.tmps) = true := by simp [Region.wanted, hgd]
 rw [if_pos hw]
 have hrun := run_clear80 w o.type g off n c C hn hg hfit
 unfold Oper.wp
 simp [execOp, ho, resolve, invoke, builtin, hd, hrun, Result.andThen]
 exact h _ (setRow_heap w g C _ 33 _ hg) (Fr.setRow w g _ (by simp)) (by simp)
theorem wpList_clear {ops : Array Oper} {rest : List Oper} {o : Oper} {a : Act} {w : World} {Q : Exit → Act → World → Prop} (hgd : o.guard = none) (d : Operand)
  (ho : o.op = .call { callee := .builtin .clear, args := #[d], argTypes := #[80] }) (g off n c : Nat) (hd : a.eval d = .slice (some ⟨g, off, none⟩) n c) (hn : 0 < n) (C : Array Value) (hg : w.heap[g]? = some (.cells C 33 (0, 0))) (hfit : off + n ≤ C.size)
  (h : ∀ w', w'.heap[g]? = some (.cells (splice C.toList off (zeros n)).toArray 33 (0, 0)) → Fr [g] w w' → w'.heap.size = w.heap.size → wpList Tryd.prog ops Q rest (a.put o.dst (.tuple #[])) w') : wpList Tryd.prog ops Q (o :: rest) a w := by
 refine wpList_plain hgd fun K hK => ?_
 have hrun := run_clear80 w o.type g off n c C hn hg hfit
 unfold Oper.wp
 simp [execOp, ho, resolve, invoke, builtin, hd, hrun, Result.andThen]
 exact hK _ _ (h _ (setRow_heap w g C _ 33 _ hg) (Fr.setRow w g _ (by simp)) (by simp))
theorem Rep.memCells {w : World} {a : Nat} {l : Lay} {H : HS} {g : Nat} (h : Rep w a l H) (hg : l.pm = some ⟨g, 0, none⟩) :
  ∃ C, w.heap[g]? = some (.cells C 33 (0, 0)) ∧ C.toList = (H.mem ++ List.replicate (l.cm - H.mem.length) 0).map (Value.int .i64) ∧ C.size = l.cm ∧ l.cm ≤ maxLen := by
 have hb := h.mem
 rw [hg] at hb
 rcases hb.2 with ⟨q, _⟩ | ⟨g', cap, cur, q1, q2, q3, q4, q5, q6, q7⟩
 ·cases q
 ·injection q1 with q1a q1b q1c
  injection q1a with q1a
  injection q1a with q1a
  subst q1a
  rw [List.take_of_length_le (by rw [Array.length_toList, q6, q1c]; exact Nat.le_refl _)] at q7
  exact ⟨cur, q3, q7, by omega, by omega⟩
theorem Rep.newMem {w w2 : World} {a : Nat} {l : Lay} {H : HS} {g : Nat} {ms : List Int} (h : Rep w a l H) (hg : l.pm = some ⟨g, 0, none⟩) (hl : ms.length = H.mem.length)
  (h2 : w2.heap[g]? = some (.cells ((ms ++ List.replicate (l.cm - H.mem.length) 0).map (Value.int .i64)).toArray 33 (0, 0))) (hf : Fr [g] w w2) : Rep w2 a l { H with mem := ms } ∧ Nx a l l w w2 := by
 have hgb : g ∈ blk l.pm := by rw [hg]; simp [blk]
 have hap := (h.apart g).1 hgb
 obtain ⟨C, hC, hCl, hCs, hcm⟩ := h.memCells hg
 have hml := h.ml
 have hlen : ((ms ++ List.replicate (l.cm - ms.length) (0 : Int)).map (Value.int .i64)).length = l.cm := by simp; omega
 have ho : w2.ownsRow 0 33 1 (.slice l.pm l.cm l.cm) l.cm ((ms ++ List.replicate (l.cm - ms.length) 0).map (Value.int .i64)) := by
  rw [← hl] at h2
  rw [hg]
  refine ⟨by rw [hlen]; omega, .inr ⟨g, l.cm, _, rfl, Nat.zero_le _, h2, Nat.le_refl _, hcm, by simpa using hlen, ?_⟩⟩
  rw [List.take_of_length_le (by rw [Nat.mul_one]; exact Nat.le_of_eq hlen)]
 have hf' : ∀ k, k = a ∨ k ∈ blk l.ps ∨ k ∈ blk l.po ∨ k ∈ blk l.pb → w2.heap[k]? = w.heap[k]? := fun k hk => by
  have hlt : k < w.heap.size := h.lt k (by simp only [foot, Lay.blocks, List.mem_cons, List.mem_append]; rcases hk with h1 | h1 | h1 | h1 <;> simp [h1])
  refine hf.block k hlt (fun hm => ?_)
  simp at hm
  subst hm
  rcases hk with h1 | h1 | h1 | h1
  ·exact hap.1 h1
  ·exact hap.2.1 h1
  ·exact hap.2.2.1 h1
  ·exact hap.2.2.2 h1
 exact ⟨h.turnMem hl hf' ho, Nx.frw (hf.mono (fun b hb => by simp at hb; subst hb; simp [foot, Lay.blocks, hgb]))⟩
theorem splice_map (M Z : List Int) (off : Nat) (vs : List Int) (h : off + vs.length ≤ M.length) : splice ((M ++ Z).map (Value.int .i64)) off (vs.map (Value.int .i64)) = (splice M off vs ++ Z).map (Value.int .i64) := by
 unfold splice
 rw [List.map_append, List.map_append, List.map_append, List.map_append, List.map_take, List.map_drop, List.length_map]
 rw [List.take_append_of_le_length (by simp; omega), List.drop_append_of_le_length (by simp; omega)]
 simp
theorem zeros_map (n : Nat) : zeros n = (List.replicate n (0 : Int)).map (Value.int .i64) := by simp [zeros]
theorem Rep.spliced {w w2 : World} {a : Nat} {l : Lay} {H : HS} {g off : Nat} {vs : List Int} {C : Array Value} (h : Rep w a l H) (hg : l.pm = some ⟨g, 0, none⟩) (hC : w.heap[g]? = some (.cells C 33 (0, 0))) (ho : off + vs.length ≤ H.mem.length)
  (h2 : w2.heap[g]? = some (.cells (splice C.toList off (vs.map (Value.int .i64))).toArray 33 (0, 0))) (hf : Fr [g] w w2) : Rep w2 a l { H with mem := splice H.mem off vs } ∧ Nx a l l w w2 := by
 obtain ⟨C', hC', hCl, hCs, hcm⟩ := h.memCells hg
 rw [hC] at hC'
 injection hC' with hC'
 injection hC' with hC'
 subst hC'
 rw [hCl, splice_map _ _ _ _ ho] at h2
 exact h.newMem hg (length_splice _ _ _ ho) h2 hf
end Go.Proofs.YtklfnjlenbgmoaaDoor
namespace Go.Proofs.YtklfnjlenbgmoaaDoor
open Go.RowKit
attribute [local go_sem ↓] Go.wp_at_zero Go.wp_at_succ
def wipeH (H : HS) (oop : Nat) : HS :=
 {H with mem := splice H.mem (H.seats.getD oop (0, 0, 0)).1 (List.replicate (H.seats.getD oop (0, 0, 0)).2.1 0), order := H.order.set (H.seats.getD oop (0, 0, 0)).2.2 0, seats := H.seats.set oop (0, 0, 0) }
def vacH (H : HS) (oop : Nat) : HS := remH (wipeH H oop) oop
structure VacOk (H : HS) (oop : Nat) : Prop where
 o1 : 1 ≤ oop
 o2 : oop < H.seats.length
 o3 : oop ≤ 65537
 s1 : 1 ≤ (H.seats.getD oop (0, 0, 0)).2.1
 s2 : (H.seats.getD oop (0, 0, 0)).1 + (H.seats.getD oop (0, 0, 0)).2.1 ≤ H.mem.length
 s3 : (H.seats.getD oop (0, 0, 0)).2.2 < H.order.length
 b1 : (oop - 1) / 64 < H.bits.length
 b2 : ∀ k, H.bits.getD k 0 ≤ full
 c1 : 1 ≤ H.count
 c2 : H.count ≤ 65536
 c3 : H.low ≤ 65536
 m1 : H.mem.length ≤ 1048576
 r1 : H.order.length ≤ 1048576
 t1 : H.seats.length ≤ 65538
set_option maxRecDepth 20000 in
set_option maxHeartbeats 1000000 in
theorem vacate_ok (oop : Nat) (a : Nat) (l : Lay) (H : HS) (w : World) (h : Rep w a l H) (hv : VacOk H oop) :
  Calls Tryd.prog 74 #[.pointer (some ⟨a, 0, none⟩), .int .i64 oop] w fun e w' => e = .returned (.tuple #[]) ∧ Rep w' a l (vacH H oop) ∧ Nx a l l w w' := by
 obtain ⟨v1, v2, v3, v4, v5, v6, v7, v8, v9, v10, v11, v12, v13, v14⟩ := hv
 have hal := h.lt a (by simp [foot])
 obtain ⟨gs, hgs, hcs, hfs, hgsa, hgsl⟩ := h.seatAt oop v2
 obtain ⟨q0, q1, q2⟩ := hcs oop v2
 have c5 := h.c5
 rw [hgs] at c5
 simp only [I] at q0 q1 q2
 obtain ⟨⟨p, L, t⟩, hs⟩ : ∃ s, s = H.seats.getD oop (0, 0, 0) := ⟨_, rfl⟩
 have HV : Hid (vacH H oop = remH { H with mem := splice H.mem p (List.replicate L 0), order := H.order.set t 0, seats := H.seats.set oop (0, 0, 0) } oop) := by
  unfold vacH wipeH Hid
  rw [← hs]
 rw [← hs] at v4 v5 v6 q0 q1 q2
 dsimp only at v4 v5 v6 q0 q1 q2
 have HR := mkHid h
 have o1 : (0 : Int) ≤ (oop : Int) := by omega
 have o2 : (oop : Int) < (H.seats.length : Int) := by omega
 clear h hcs hfs hs
 generalize vacH H oop = HX at *
 go_enter Tryd.func74, Tryd.ntmps74
 go_wp2
 go_cut [] (fun W => Hid (Rep W a l { H with mem := splice H.mem p (List.replicate L 0) } ∧ Nx a l l w W ∧ W.heap[w.heap.size]? = some (.cells #[.int .i64 (p : Int), .int .i64 (L : Int), .int .i64 (t : Int)] 103 (0, 0))))
 case first =>
  obtain ⟨g, hg, _, _, hga, hgl⟩ := HR.out.memBlock (by omega)
  obtain ⟨C, hC, hCl, hCs, hcm⟩ := HR.out.memCells hg
  have hml := HR.out.ml
  have c4 := HR.out.c4
  rw [hg] at c4
  obtain ⟨o3, ho3⟩ : ∃ o3, o3 = Obj.cells #[.int .i64 (p : Int), .int .i64 (L : Int), .int .i64 (t : Int)] 103 := ⟨_, rfl⟩
  have C4 := (World.cell?_alloc_lt w o3 ⟨a, 4, none⟩ (by show a < _; omega)).trans c4
  have hn3 := heap_alloc_new w o3
  rw [ho3] at hn3
  have T0 := cell_in hn3 0
  have T1 := cell_in hn3 1
  rw [← ho3] at T0 T1
  simp only [List.getElem?_toArray, List.getElem?_cons_succ, List.getElem?_cons_zero] at T0 T1
  have hC3 : Hid ((w.alloc o3).heap[g]? = some (.cells C 33 (0, 0)) ∧ Rep (w.alloc o3) a l H ∧ Nx a l l w (w.alloc o3) ∧ (w.alloc o3).heap[w.heap.size]? = some (.cells #[.int .i64 (p : Int), .int .i64 (L : Int), .int .i64 (t : Int)] 103 (0, 0)) ∧ w.heap.size ≠ g ∧ w.heap.size < (w.alloc o3).heap.size) :=
   ⟨(Below.heap_alloc _ _ _ hgl).trans hC, HR.out.alloc _, Nx.frw (Fr.alloc _ _ _), by rw [ho3]; exact heap_alloc_new _ _, by omega, by simp⟩
  rw [← ho3]
  clear ho3 hn3 hC hCl c4 q0 q1 q2 c5
  generalize w.alloc o3 = w3 at *
  have k1 : (0 : Int) ≤ (p : Int) := by omega
  have k2 : (p : Int) + (L : Int) ≤ (l.cm : Int) := by omega
  have k4 : (p : Int) ≤ (p : Int) + (L : Int) := by omega
  have k5 : IntKind.i64.wrap ((p : Int) + (L : Int)) = (p : Int) + (L : Int) := by rw [iwrap]; unfold wrap64; omega
  have e1 : ((p : Int) + (L : Int)).toNat = p + L := by omega
  have e2 : (if l.cm = p then some (⟨g, 0, none⟩ : Addr) else some ⟨g, p, none⟩) = some ⟨g, p, none⟩ := by rw [if_neg (by omega)]
  have hcp : ¬ l.cm = p := by omega
  generalize hmm : H.mem.length = m at *
  have HMM := mkHid hmm
  clear hmm
  go_region_held3 (fun w' => w'.cell? ⟨a, 4, none⟩ = some (.slice (some ⟨g, 0, none⟩) m l.cm) ∧ w'.cell? ⟨w.heap.size, 0, none⟩ = some (.int .i64 (p : Int)) ∧ w'.cell? ⟨w.heap.size, 1, none⟩ = some (.int .i64 (L : Int))) (go_keep)
   ((refine step_clear rfl (.tmp 23) rfl g p L (l.cm - p) (by simp [Act.eval]) (by omega) C (by exact hC3.out.1) (by omega) ?_; intro w4 hh1 hh2 hh3; have y4 := hh2.cell (p := ⟨a, 4, none⟩) (by exact (by have := hC3.out.2.1.lt a (by simp [foot]); exact this)) (by simp; omega); have z0 := hh2.cell (p := ⟨w.heap.size, 0, none⟩) (by exact hC3.out.2.2.2.2.2) (by simp; exact hC3.out.2.2.2.2.1); have z1 := hh2.cell (p := ⟨w.heap.size, 1, none⟩) (by exact hC3.out.2.2.2.2.2) (by simp; exact hC3.out.2.2.2.2.1)))
  all_goals go_wp2
  all_goals
   go_meet
   case rel =>
    have hfr : Fr [g] w3 w4 := Fr.trans (S' := [g]) (Fr.drew [g] w3) hh2 (fun b hb => .inl hb)
    rw [zeros_map] at hh1
    have K := hC3.out.2.1.spliced hg hC3.out.1 (by rw [HMM.out]; simpa using v5) hh1 hfr
    refine mkHid ⟨K.1, hC3.out.2.2.1.trans K.2, ?_⟩
    rw [hfr.block _ hC3.out.2.2.2.2.2 (by simp; exact hC3.out.2.2.2.2.1)]
    exact hC3.out.2.2.2.1
 case rest =>
  obtain ⟨w2, hw2⟩ : ∃ w2, w2 = wc := ⟨_, rfl⟩
  subst hw2
  clear q0 q1 q2 c5 HR
  obtain ⟨hr, hx, hsb⟩ := hcut.out
  clear hcut
  obtain ⟨go, hgo, hco, hfo, hgoa, hgol⟩ := hr.orderAt t v6
  have c6 := hr.c6
  rw [hgo] at c6
  have o3 := hco t v6
  have f3 := hfo t
  have T2 := cell_in hsb 2
  simp only [List.getElem?_toArray, List.getElem?_cons_succ, List.getElem?_cons_zero] at T2
  dsimp only at c6 o3
  have HE : Hid (∀ W, Eqw (w2.setCell ⟨go, t, none⟩ (.int .i64 0)) W → Rep W a l { H with mem := splice H.mem p (List.replicate L 0), order := H.order.set t 0 } ∧ Nx a l l w W) := by
   intro W he
   have K := hr.setOrder hgo t 0 W he
   exact ⟨K.1, hx.trans K.2⟩
  have a1 : (0 : Int) ≤ (t : Int) := by omega
  have a2 : (t : Int) < (H.order.length : Int) := by omega
  generalize H.order.getD t 0 = ov at *
  clear hr hx hsb hco hfo hgo
  go_wp2
  go_cut [] (fun W => Hid (Rep W a l { H with mem := splice H.mem p (List.replicate L 0), order := H.order.set t 0 } ∧ Nx a l l w W))
  case first =>
   go_region
   all_goals go_wp2
   all_goals
    go_meet
    case rel =>
     refine mkHid (HE.out _ ?_)
     exact eqw_drew _
  case rest =>
   obtain ⟨w3, hw3⟩ : ∃ w3, w3 = wc := ⟨_, rfl⟩
   subst hw3
   clear c6 o3 f3 T2 HE
   obtain ⟨hr, hx⟩ := hcut.out
   clear hcut
   obtain ⟨g2, hg2, hc2, hf2, _, _⟩ := hr.seatAt oop v2
   obtain ⟨q0, q1, q2⟩ := hc2 oop v2
   have c5 := hr.c5
   rw [hg2] at c5
   have p0 := hf2 (oop * 3)
   have p1 := hf2 (oop * 3 + 1)
   have p2 := hf2 (oop * 3 + 2)
   simp only [I] at q0 q1 q2
   dsimp only at c5 q0 q1 q2
   generalize (H.seats.getD oop (0, 0, 0)).1 = y0 at *
   generalize (H.seats.getD oop (0, 0, 0)).2.1 = y1 at *
   generalize (H.seats.getD oop (0, 0, 0)).2.2 = y2 at *
   have HE : Hid (∀ W, Eqw (((w3.setCell ⟨g2, oop * 3, none⟩ (.int .i64 0)).setCell ⟨g2, oop * 3 + 1, none⟩ (.int .i64 0)).setCell ⟨g2, oop * 3 + 2, none⟩ (.int .i64 0)) W → Calls Tryd.prog 108 #[.pointer (some ⟨a, 7, none⟩), .int .i64 oop] W fun e w' => e = .returned (.tuple #[]) ∧ Rep w' a l HX ∧ Nx a l l w w') := by
    intro W he
    have K := hr.setSeat hg2 oop v2 (0, 0, 0) W he
    rw [HV.out]
    refine (remove_any oop a l _ W K.1 (by omega) (by omega) v7 v8 v9 (by dsimp only; omega) (by dsimp only; omega)).mono ?_
    rintro e w' ⟨rfl, k1, k2⟩
    exact ⟨rfl, k1, (hx.trans K.2).trans k2⟩
   clear hr hx hg2 hc2 hf2
   go_wp2_with fail
   refine Calls.mono (HE.out _ ?_) ?_
   ·exact ⟨rfl, rfl, rfl, rfl⟩
   ·rintro e w5 ⟨rfl, hr5, hx5⟩
    have HR5 := mkHid hr5
    have HX5 := mkHid hx5
    clear hr5 hx5 HE
    go_wp2
    go_end0
    exact ⟨rfl, HR5.out, HX5.out⟩
theorem step_copy {ops : Array Oper} {o : Oper} {a : Act} {w : World} {K : Act → World → Prop} {Q : Exit → Act → World → Prop} {E : Prop} (hgd : o.guard = none) (d s : Operand)
  (ho : o.op = .call { callee := .builtin .copy, args := #[d, s], argTypes := #[80, 80] }) (g off p dLen dCap L sCap : Nat) (hd : a.eval d = .slice (some ⟨g, off, none⟩) dLen dCap) (hs : a.eval s = .slice (some ⟨g, p, none⟩) L sCap)
  (C : Array Value) (hg : w.heap[g]? = some (.cells C 33 (0, 0))) (hL : L ≤ dLen) (hp : p + L ≤ C.size) (ho2 : off + L ≤ C.size) (h1 : ∀ v ∈ C.toList, v.oneCell' = true)
  (h : ∀ w', w'.heap[g]? = some (.cells (splice C.toList off ((C.toList.drop p).take L)).toArray 33 (0, 0)) → Fr [g] w w' → w'.heap.size = w.heap.size → K (a.put o.dst (goInt L)) w') :
  if Region.wanted o (yielded ops a.tmps) = true then Oper.wp Tryd.prog o a w K Q else E := by
 have hw : Region.wanted o (yielded ops a.tmps) = true := by simp [Region.wanted, hgd]
 rw [if_pos hw]
 have hcl : ((C.toList.drop p).take L).length = L := by simp; omega
 have hsz : (Tryd.prog.info? 33).map (·.size) = some 1 := by
  obtain ⟨i0, hi, hz0, hz1, hz2⟩ := info_parts info33
  rw [hi]; simp [hz1]
 have hrun := run_copy_row (P := Tryd.prog) w 80 80 o.type 33 g off dLen dCap ⟨g, p, none⟩ L sCap C 33 ((C.toList.drop p).take L) Tryd.underlying80 hsz hg (by rw [hcl]; exact (Nat.min_eq_left hL).symm)
  (fun j v hv => by
   rw [Addr.add_mid, cell_in hg]
   rw [List.getElem?_take] at hv
   split at hv
   ·simpa using hv
   ·cases hv) (by rw [hcl]; exact ho2) (fun v hv => h1 v (List.mem_of_mem_drop (List.mem_of_mem_take hv)))
 unfold Oper.wp
 simp [execOp, ho, resolve, invoke, builtin, hd, hs, hrun, Result.andThen]
 have hh := h _ (setRow_heap w g C (splice C.toList off ((C.toList.drop p).take L)).toArray 33 _ hg) (Fr.setRow w g _ (by simp)) (by simp)
 simp only [splice, hcl] at hh
 have e1 : min L (C.size - p) = L := by omega
 rw [e1]
 exact hh
structure Sl where
 H : HS
 turns : Nat
 en : Nat
def slideStep (x : Sl) (k : Nat) : Sl :=
 if x.H.order.getD k 0 = 0 then x else
  {H := { x.H with mem := splice x.H.mem x.en ((x.H.mem.drop (x.H.seats.getD (x.H.order.getD k 0) (0, 0, 0)).1).take (x.H.seats.getD (x.H.order.getD k 0) (0, 0, 0)).2.1), seats := x.H.seats.set (x.H.order.getD k 0) (x.en, (x.H.seats.getD (x.H.order.getD k 0) (0, 0, 0)).2.1, x.turns), order := x.H.order.set x.turns (x.H.order.getD k 0) }
   turns := x.turns + 1
   en := x.en + (x.H.seats.getD (x.H.order.getD k 0) (0, 0, 0)).2.1 }
def slideTo (H : HS) : Nat → Sl
 | 0 => ⟨H, 0, 0⟩
 | k + 1 => slideStep (slideTo H k) k
structure StepOk (x : Sl) (oop : Nat) : Prop where
 o : oop < x.H.seats.length
 s1 : 1 ≤ (x.H.seats.getD oop (0, 0, 0)).2.1
 s2 : (x.H.seats.getD oop (0, 0, 0)).1 + (x.H.seats.getD oop (0, 0, 0)).2.1 ≤ x.H.mem.length
 s3 : x.en + (x.H.seats.getD oop (0, 0, 0)).2.1 ≤ x.H.mem.length
structure SlideOk (H : HS) : Prop where
 step : ∀ k, k < H.order.length → (slideTo H k).H.order.getD k 0 ≠ 0 → StepOk (slideTo H k) ((slideTo H k).H.order.getD k 0)
 m1 : H.mem.length ≤ 1048576
 r1 : H.order.length ≤ 1048576
 t1 : H.seats.length ≤ 65538
theorem slideTo_len (H : HS) (hk : SlideOk H) : ∀ k, k ≤ H.order.length → (slideTo H k).H.mem.length = H.mem.length ∧ (slideTo H k).H.order.length = H.order.length ∧ (slideTo H k).H.seats.length = H.seats.length ∧ (slideTo H k).turns ≤ k ∧ (slideTo H k).en ≤ H.mem.length := by
 intro k
 induction k with
 | zero => intro _; exact ⟨rfl, rfl, rfl, Nat.le_refl _, Nat.zero_le _⟩
 | succ k ih =>
  intro hle
  obtain ⟨h1, h2, h3, h4, h5⟩ := ih (by omega)
  have hs := hk.step k (by omega)
  show (slideStep (slideTo H k) k).H.mem.length = _ ∧ (slideStep (slideTo H k) k).H.order.length = _ ∧ (slideStep (slideTo H k) k).H.seats.length = _ ∧ (slideStep (slideTo H k) k).turns ≤ _ ∧ (slideStep (slideTo H k) k).en ≤ _
  unfold slideStep
  split
  ·exact ⟨h1, h2, h3, by omega, h5⟩
  ·rename_i hne
   have hq := hs hne
   have := hq.s2
   have := hq.s3
   refine ⟨?_, by simpa using h2, by simpa using h3, by dsimp only; omega, by dsimp only; omega⟩
   dsimp only
   rw [length_splice _ _ _ (by rw [List.length_take, List.length_drop]; omega)]
   exact h1
theorem own_prefix {w : World} {e : TypeId} {ao : Option Addr} {n c k : Nat} {xs : List Value} (h : w.ownsRow 0 e 1 (.slice ao n c) n xs) (hk : k ≤ n) : w.ownsRow 0 e 1 (.slice ao k c) k (xs.take k) := by
 have hl := h.1
 refine ⟨by simp; omega, ?_⟩
 rcases h.2 with ⟨h2, h3⟩ | ⟨g, cap, cur, h2, h3, h4, h5, h6, h7, h8⟩
 ·injection h2 with q1 q2 q3
  subst q1
  subst q3
  exact .inl ⟨by rw [show k = 0 from by omega], by omega⟩
 ·injection h2 with q1 q2 q3
  subst q1
  subst q3
  refine .inr ⟨g, c, cur, rfl, h3, h4, by omega, h6, h7, ?_⟩
  rw [← h8, List.take_take]
  congr 1
  omega
theorem Rep.cut {w : World} {a : Nat} {l : Lay} {H : HS} {tn en : Nat} (h : Rep w a l H) (ht : tn ≤ H.order.length) (hen : en ≤ H.mem.length) (hz : H.mem = H.mem.take en ++ List.replicate (H.mem.length - en) 0) (W : World)
  (he : Eqw ((w.setCell ⟨a, 6, none⟩ (.slice l.po tn l.co)).setCell ⟨a, 4, none⟩ (.slice l.pm en l.cm)) W) : Rep W a l { H with mem := H.mem.take en, order := H.order.take tn } ∧ Nx a l l w W := by
 have ho := own_prefix h.order ht
 rw [← List.map_take] at ho
 have hol : (H.order.take tn).length = tn := by simp; omega
 have K1 := h.putOrder (po := l.po) (co := l.co) (os := H.order.take tn) (fun _ _ => rfl) (by rw [hol]; exact ho)
 rw [hol] at K1
 have hml := h.ml
 have hmt : (H.mem.take en).length = en := by simp; omega
 have e : H.mem.take en ++ List.replicate (l.cm - (H.mem.take en).length) (0 : Int) = H.mem ++ List.replicate (l.cm - H.mem.length) 0 := by
  rw [hmt]
  conv => rhs; rw [hz]
  rw [List.append_assoc, List.replicate_append_replicate]
  congr 2
  simp
  omega
 have K2 := K1.putMem (pm := l.pm) (cm := l.cm) (ms := H.mem.take en) (by rw [hmt]; omega) (fun _ _ => rfl) (by rw [e]; exact K1.mem)
 rw [hmt] at K2
 exact ⟨K2.eqw he, (Nx.frw ((Fr.setCell (S := foot a l) _ _ _ (by simp [foot])).trans (Fr.setCell (S := foot a l) _ _ _ (by simp [foot])) (fun b hb => .inl hb))).eqw he⟩
def slideH (H : HS) : HS := { (slideTo H H.order.length).H with mem := (slideTo H H.order.length).H.mem.take (slideTo H H.order.length).en, order := (slideTo H H.order.length).H.order.take (slideTo H H.order.length).turns }
end Go.Proofs.YtklfnjlenbgmoaaDoor
