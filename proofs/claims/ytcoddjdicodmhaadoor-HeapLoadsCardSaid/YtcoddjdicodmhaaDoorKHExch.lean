import Derived.Test.YtcoddjdicodmhaaDoorKHSlotM
namespace Go.Proofs.YtcoddjdicodmhaaDoor
open Go.RowKit
set_option linter.unusedVariables false
attribute [local go_sem ↓] Go.wp_at_zero Go.wp_at_succ
def exchH (H : HS) (i j : Nat) : HS :=
  { H with seats := (H.seats.set i (H.seats.getD j (0, 0, 0))).set j (H.seats.getD i (0, 0, 0)), order := (H.order.set (H.seats.getD j (0, 0, 0)).2.2 i).set (H.seats.getD i (0, 0, 0)).2.2 j, age := H.age + 1 }
theorem eqw_drew (X : World) : Eqw X X.drew := ⟨rfl, rfl, rfl, rfl⟩
theorem exch_seats {w : World} {a : Nat} {l : Lay} {H : HS} {gs : Nat} (h : Rep w a l H) (hgs : l.ps = some ⟨gs, 0, none⟩) (i j : Nat) (hi : i < H.seats.length) (hj : j < H.seats.length) (x y : Nat × Nat × Nat) (W : World)
    (he : Eqw ((((((w.setCell ⟨gs, i * 3, none⟩ (I y.1)).setCell ⟨gs, i * 3 + 1, none⟩ (I y.2.1)).setCell ⟨gs, i * 3 + 2, none⟩ (I y.2.2)).setCell ⟨gs, j * 3, none⟩ (I x.1)).setCell ⟨gs, j * 3 + 1, none⟩ (I x.2.1)).setCell ⟨gs, j * 3 + 2, none⟩ (I x.2.2)) W) :
    Rep W a l { H with seats := (H.seats.set i y).set j x } ∧ Nx a l l w W ∧ ∀ k, k ≠ gs → W.heap[k]? = w.heap[k]? := by
  have K1 := h.setSeat hgs i hi y (((w.setCell ⟨gs, i * 3, none⟩ (I y.1)).setCell ⟨gs, i * 3 + 1, none⟩ (I y.2.1)).setCell ⟨gs, i * 3 + 2, none⟩ (I y.2.2)) ⟨rfl, rfl, rfl, rfl⟩
  have K2 := K1.1.setSeat hgs j (by simp; omega) x W he
  refine ⟨K2.1, K1.2.trans K2.2, fun k hk => ?_⟩
  rw [he.2.2.2, set_else hk, set_else hk, set_else hk, set_else hk, set_else hk, set_else hk]
theorem exch_order {w : World} {a : Nat} {l : Lay} {H H' : HS} {go : Nat} (h : Rep w a l H) (hgo : l.po = some ⟨go, 0, none⟩) (p q i j : Nat) (hH : H' = { H with order := (H.order.set p i).set q j, age := H.age + 1 }) (W : World)
    (he : Eqw (((w.setCell ⟨go, p, none⟩ (.int .i64 (i : Int))).setCell ⟨go, q, none⟩ (.int .i64 (j : Int))).setCell ⟨a, 10, none⟩ (.int .i64 ((H.age : Int) + 1))) W) : Rep W a l H' ∧ Nx a l l w W := by
  subst hH
  have K1 := h.setOrder hgo p i (w.setCell ⟨go, p, none⟩ (.int .i64 (i : Int))) ⟨rfl, rfl, rfl, rfl⟩
  have K2 := K1.1.setOrder hgo q j ((w.setCell ⟨go, p, none⟩ (.int .i64 (i : Int))).setCell ⟨go, q, none⟩ (.int .i64 (j : Int))) ⟨rfl, rfl, rfl, rfl⟩
  have K3 := K2.1.set (H' := { H with order := (H.order.set p i).set q j, age := H.age + 1 }) 10 (.int .i64 ((H.age : Int) + 1)) (by simp [hcells]) rfl rfl rfl rfl
  exact ⟨K3.eqw he, ((K1.2.trans K2.2).trans (Nx.fr (Fr.setCell (S := [a]) _ _ _ (by simp)))).eqw he⟩
set_option maxRecDepth 20000 in
set_option maxHeartbeats 4000000 in
theorem Exchange_ok (i j : Nat) (a : Nat) (l : Lay) (H : HS) (w : World) (h : Rep w a l H) (h1 : (1 : Int) ≤ i) (h2 : (i : Int) < H.seats.length) (h3 : (H.seats.getD i (0, 0, 0)).2.1 ≠ 0) (k1 : (1 : Int) ≤ j) (k2 : (j : Int) < H.seats.length) (k3 : (H.seats.getD j (0, 0, 0)).2.1 ≠ 0) (hij : i ≠ j)
    (t1 : (H.seats.getD i (0, 0, 0)).2.2 < H.order.length) (t2 : (H.seats.getD j (0, 0, 0)).2.2 < H.order.length) (t3 : (H.seats.getD i (0, 0, 0)).2.2 ≠ (H.seats.getD j (0, 0, 0)).2.2) (hsl : (H.seats.length : Int) ≤ 65538) (hol : (H.order.length : Int) ≤ 1048576) (hage : (H.age : Int) ≤ 1000000000) :
    Calls Tryd.prog 46 #[.pointer (some ⟨a, 0, none⟩), .int .i64 i, .int .i64 j] w fun e w' => e = .returned (.int .i64 0) ∧ Rep w' a l (exchH H i j) ∧ Nx a l l w w' := by
  have hal := h.lt a (by simp [foot])
  have HS1 := mkHid (fun W (hW : Rep W a l H) => seatOf_yes i a l H W hW h1 h2 h3)
  have HS2 := mkHid (fun W (hW : Rep W a l H) => seatOf_yes j a l H W hW k1 k2 k3)
  have HR := mkHid h
  have HEX : Hid (exchH H i j = { H with seats := (H.seats.set i (H.seats.getD j (0, 0, 0))).set j (H.seats.getD i (0, 0, 0)), order := (H.order.set (H.seats.getD j (0, 0, 0)).2.2 i).set (H.seats.getD i (0, 0, 0)).2.2 j, age := H.age + 1 }) := rfl
  generalize exchH H i j = HX at *
  clear h h3 k3
  obtain ⟨⟨x0, x1, x2⟩, hx⟩ : ∃ s, s = H.seats.getD i (0, 0, 0) := ⟨_, rfl⟩
  obtain ⟨⟨y0, y1, y2⟩, hy⟩ : ∃ s, s = H.seats.getD j (0, 0, 0) := ⟨_, rfl⟩
  rw [← hx] at HS1 t1 t3 HEX
  rw [← hy] at HS2 t2 t3 HEX
  dsimp only [sv, I] at HS1 HS2 t1 t2 t3 HEX
  clear hx hy
  go_enter Tryd.func46, Tryd.ntmps46
  go_wp2_with fail
  refine Calls.mono (HS1.out _ HR.out) ?_
  rintro e w1 ⟨rfl, hf1⟩
  have hz1 := hf1.size
  have HF1 := mkHid hf1
  clear hf1
  go_wp2_with fail
  have F2 : Fr [] w (w1.alloc (.cells #[.int .i64 (x0 : Int), .int .i64 (x1 : Int), .int .i64 (x2 : Int)] 103)) := HF1.out.trans (Fr.alloc [] _ _) (by simp)
  refine Calls.mono (HS2.out _ (HR.out.keep F2 (by simp))) ?_
  rintro e w2 ⟨rfl, hf2⟩
  have z2 := hf2.size
  have s0 := hf2.cell (p := ⟨w1.heap.size, 0, none⟩) (by simp) (by simp)
  have s1 := hf2.cell (p := ⟨w1.heap.size, 1, none⟩) (by simp) (by simp)
  have s2 := hf2.cell (p := ⟨w1.heap.size, 2, none⟩) (by simp) (by simp)
  simp only [World.cell?_alloc_new, List.getElem?_toArray, List.getElem?_cons_succ, List.getElem?_cons_zero, World.size_alloc] at s0 s1 s2 z2
  have F3 := F2.trans hf2 (by simp)
  have HW0 := mkHid ((hf2.block w1.heap.size (by simp) (by simp)).trans (heap_alloc_new w1 _))
  have hr2 := HR.out.keep F3 (by simp)
  clear hf2 F2 HS1 HS2
  obtain ⟨gs, hgs, hcs, hfs, hgsa, hgsl⟩ := HR.out.seatAt i (by omega)
  obtain ⟨p0, p1, p2⟩ := hcs i (by omega)
  obtain ⟨q0, q1, q2⟩ := hcs j (by omega)
  have c5 := hr2.c5
  rw [hgs] at c5
  have cc : ∀ o, w2.cell? ⟨gs, o, none⟩ = w.cell? ⟨gs, o, none⟩ := fun o => F3.cell (p := ⟨gs, o, none⟩) hgsl (by simp)
  have ff : ∀ o, w2.frozen? ⟨gs, o, none⟩ = false := fun o => (F3.frozen (p := ⟨gs, o, none⟩) hgsl (by simp)).trans (hfs o)
  obtain ⟨o3, ho3⟩ : ∃ o3, o3 = Obj.cells #[.int .i64 (y0 : Int), .int .i64 (y1 : Int), .int .i64 (y2 : Int)] 103 := ⟨_, rfl⟩
  have P0 := ((World.cell?_alloc_lt w2 o3 ⟨gs, i * 3, none⟩ (by show gs < _; omega)).trans (cc _)).trans p0
  have P1 := ((World.cell?_alloc_lt w2 o3 ⟨gs, i * 3 + 1, none⟩ (by show gs < _; omega)).trans (cc _)).trans p1
  have P2 := ((World.cell?_alloc_lt w2 o3 ⟨gs, i * 3 + 2, none⟩ (by show gs < _; omega)).trans (cc _)).trans p2
  have Q0 := ((World.cell?_alloc_lt w2 o3 ⟨gs, j * 3, none⟩ (by show gs < _; omega)).trans (cc _)).trans q0
  have Q1 := ((World.cell?_alloc_lt w2 o3 ⟨gs, j * 3 + 1, none⟩ (by show gs < _; omega)).trans (cc _)).trans q1
  have Q2 := ((World.cell?_alloc_lt w2 o3 ⟨gs, j * 3 + 2, none⟩ (by show gs < _; omega)).trans (cc _)).trans q2
  simp only [I] at P0 P1 P2 Q0 Q1 Q2
  have fo : ∀ o, (w2.alloc o3).frozen? ⟨gs, o, none⟩ = false := fun o => (World.frozen?_alloc_old w2 o3 ⟨gs, o, none⟩ (by show gs ≠ _; omega)).trans (ff o)
  have e0 := fo (i * 3)
  have e1 := fo (i * 3 + 1)
  have e2 := fo (i * 3 + 2)
  have g0 := fo (j * 3)
  have g1 := fo (j * 3 + 1)
  have g2 := fo (j * 3 + 2)
  have C5 := (World.cell?_alloc_lt w2 o3 ⟨a, 5, none⟩ (by show a < _; omega)).trans c5
  have S0 := (World.cell?_alloc_lt w2 o3 ⟨w1.heap.size, 0, none⟩ (by show w1.heap.size < _; omega)).trans s0
  have S1 := (World.cell?_alloc_lt w2 o3 ⟨w1.heap.size, 1, none⟩ (by show w1.heap.size < _; omega)).trans s1
  have S2 := (World.cell?_alloc_lt w2 o3 ⟨w1.heap.size, 2, none⟩ (by show w1.heap.size < _; omega)).trans s2
  have hn3 := heap_alloc_new w2 o3
  rw [ho3] at hn3
  have T0 := cell_in hn3 0
  have T1 := cell_in hn3 1
  have T2 := cell_in hn3 2
  rw [← ho3] at T0 T1 T2
  simp only [List.getElem?_toArray, List.getElem?_cons_succ, List.getElem?_cons_zero] at T0 T1 T2
  have HF3 := mkHid (F3.trans (Fr.alloc [] w2 o3) (by simp))
  have hzz : (w2.alloc o3).heap.size = w2.heap.size + 1 := by simp
  have HB1 : Hid ((w2.alloc o3).heap[w1.heap.size]? = w2.heap[w1.heap.size]? ∧ (w2.alloc o3).heap[w2.heap.size]? = some (.cells #[.int .i64 (y0 : Int), .int .i64 (y1 : Int), .int .i64 (y2 : Int)] 103 (0, 0))) := ⟨Below.heap_alloc _ _ _ (by omega), by rw [ho3]; exact heap_alloc_new _ _⟩
  have HW1 : Hid (w2.heap[w1.heap.size]? = some (.cells #[.int .i64 (x0 : Int), .int .i64 (x1 : Int), .int .i64 (x2 : Int)] 103 (0, 0))) := HW0.out
  clear hcs hfs p0 p1 p2 q0 q1 q2 cc ff fo hn3 F3 hr2 s0 s1 s2 c5
  go_wp2
  rw [← ho3]
  clear ho3
  generalize w2.alloc o3 = w3 at *
  generalize (H.seats.getD i (0, 0, 0)).1 = ox0 at *
  generalize (H.seats.getD i (0, 0, 0)).2.1 = ox1 at *
  generalize (H.seats.getD i (0, 0, 0)).2.2 = ox2 at *
  generalize (H.seats.getD j (0, 0, 0)).1 = oy0 at *
  generalize (H.seats.getD j (0, 0, 0)).2.1 = oy1 at *
  generalize (H.seats.getD j (0, 0, 0)).2.2 = oy2 at *
  have m1 : (0 : Int) ≤ (i : Int) := by omega
  have m2 : (0 : Int) ≤ (j : Int) := by omega
  have d1 : gs ≠ w1.heap.size := by omega
  have d2 : gs ≠ w2.heap.size := by omega
  have d3 : w1.heap.size ≠ w2.heap.size := by omega
  have HZZ := mkHid hzz
  clear hzz
  have HE1 : Hid (∀ W, Eqw ((((((w3.setCell ⟨gs, i * 3, none⟩ (.int .i64 (y0 : Int))).setCell ⟨gs, i * 3 + 1, none⟩ (.int .i64 (y1 : Int))).setCell ⟨gs, i * 3 + 2, none⟩ (.int .i64 (y2 : Int))).setCell ⟨gs, j * 3, none⟩ (.int .i64 (x0 : Int))).setCell ⟨gs, j * 3 + 1, none⟩ (.int .i64 (x1 : Int))).setCell ⟨gs, j * 3 + 2, none⟩ (.int .i64 (x2 : Int))) W → Rep W a l { H with seats := (H.seats.set i (y0, y1, y2)).set j (x0, x1, x2) } ∧ Nx a l l w W ∧ W.heap[w1.heap.size]? = w2.heap[w1.heap.size]? ∧ W.heap[w2.heap.size]? = some (.cells #[.int .i64 (y0 : Int), .int .i64 (y1 : Int), .int .i64 (y2 : Int)] 103 (0, 0))) := by
    intro W he
    have K := exch_seats (HR.out.keep HF3.out (by simp)) hgs i j (by omega) (by omega) (x0, x1, x2) (y0, y1, y2) W he
    exact ⟨K.1, (Nx.frw (HF3.out.mono (by simp)) : Nx a l l w w3).trans K.2.1, (K.2.2 _ (Ne.symm d1)).trans HB1.out.1, (K.2.2 _ (Ne.symm d2)).trans HB1.out.2⟩
  go_cut [] (fun W => Hid (Rep W a l { H with seats := (H.seats.set i (y0, y1, y2)).set j (x0, x1, x2) } ∧ Nx a l l w W ∧ W.heap[w1.heap.size]? = w2.heap[w1.heap.size]? ∧ W.heap[w2.heap.size]? = some (.cells #[.int .i64 (y0 : Int), .int .i64 (y1 : Int), .int .i64 (y2 : Int)] 103 (0, 0))))
  case first =>
    go_region_held3 (fun w' => w'.cell? ⟨a, 5, none⟩ = some (.slice (some ⟨gs, 0, none⟩) H.seats.length l.cs) ∧ w'.cell? ⟨w1.heap.size, 0, none⟩ = some (.int .i64 (x0 : Int)) ∧ w'.cell? ⟨w1.heap.size, 1, none⟩ = some (.int .i64 (x1 : Int)) ∧ w'.cell? ⟨w1.heap.size, 2, none⟩ = some (.int .i64 (x2 : Int)) ∧ w'.cell? ⟨w2.heap.size, 0, none⟩ = some (.int .i64 (y0 : Int)) ∧ w'.cell? ⟨w2.heap.size, 1, none⟩ = some (.int .i64 (y1 : Int)) ∧ w'.cell? ⟨w2.heap.size, 2, none⟩ = some (.int .i64 (y2 : Int))) (go_keep) (fail)
    all_goals go_wp2
    all_goals
      go_meet
      case rel =>
        refine mkHid (HE1.out _ ?_)
        exact eqw_drew _
  case rest =>
    obtain ⟨w4, hw4⟩ : ∃ w4, w4 = wc := ⟨_, rfl⟩
    subst hw4
    obtain ⟨hr4, hx4, hb4, hb5⟩ := hcut.out
    clear hcut P0 P1 P2 Q0 Q1 Q2 e0 e1 e2 g0 g1 g2 C5 T0 T1 T2
    have hz4 : w4.heap[w1.heap.size]? = some (.cells #[.int .i64 (x0 : Int), .int .i64 (x1 : Int), .int .i64 (x2 : Int)] 103 (0, 0)) := by rw [hb4]; exact HW1.out
    have s0 := cell_in hz4 0
    have s2 := cell_in hz4 2
    have u2 := cell_in hb5 2
    simp only [List.getElem?_toArray, List.getElem?_cons_succ, List.getElem?_cons_zero] at s0 s2 u2
    obtain ⟨go, hgo, hco, hfo, hgoa, hgol⟩ := hr4.orderAt x2 (by dsimp only; omega)
    have c6 := hr4.c6
    have c10 := hr4.c10
    have f10 := hr4.frozen 10
    rw [hgo] at c6
    have o1 := hco x2 (by dsimp only; omega)
    have o2 := hco y2 (by dsimp only; omega)
    have p1 := hfo x2
    have p2 := hfo y2
    dsimp only at c6 c10 o1 o2
    generalize H.order.getD x2 0 = ov1 at *
    generalize H.order.getD y2 0 = ov2 at *
    have hgn1 : go ≠ w1.heap.size := by
      intro e
      obtain ⟨cur, hcur⟩ := own_blk hr4.order go (by rw [hgo]; simp [blk])
      rw [e, hz4] at hcur
      simp at hcur
    have hgn2 : go ≠ w2.heap.size := by
      intro e
      obtain ⟨cur, hcur⟩ := own_blk hr4.order go (by rw [hgo]; simp [blk])
      rw [e, hb5] at hcur
      simp at hcur
    have HE : Hid (∀ W, Eqw (((w4.setCell ⟨go, y2, none⟩ (.int .i64 (i : Int))).setCell ⟨go, x2, none⟩ (.int .i64 (j : Int))).setCell ⟨a, 10, none⟩ (.int .i64 ((H.age : Int) + 1))) W → Rep W a l HX ∧ Nx a l l w W) := by
      intro W he
      have K := exch_order (H' := HX) hr4 hgo y2 x2 i j HEX.out W he
      exact ⟨K.1, hx4.trans K.2⟩
    have a1 : (0 : Int) ≤ (x2 : Int) := by omega
    have a2 : (0 : Int) ≤ (y2 : Int) := by omega
    have a3 : (x2 : Int) < (H.order.length : Int) := by omega
    have a4 : (y2 : Int) < (H.order.length : Int) := by omega
    have t3' : y2 ≠ x2 := fun e => t3 e.symm
    clear hr4 hx4 hb4 hb5 hz4 hco hfo hgo HEX HR HF3 HB1
    go_wp2
    go_region_held3 (fun w' => w'.cell? ⟨a, 6, none⟩ = some (.slice (some ⟨go, 0, none⟩) H.order.length l.co) ∧ w'.cell? ⟨w1.heap.size, 2, none⟩ = some (.int .i64 (x2 : Int)) ∧ w'.cell? ⟨w2.heap.size, 2, none⟩ = some (.int .i64 (y2 : Int))) (go_keep) (fail)
    all_goals go_wp2
    all_goals
      go_ret
      exact ⟨rfl, HE.out _ ⟨rfl, rfl, rfl, rfl⟩⟩
end Go.Proofs.YtcoddjdicodmhaaDoor
