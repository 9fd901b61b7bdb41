import Derived.Test.YtdkbnnhcjaibdaaDoorFG05HAll
namespace Go.Proofs.YtdkbnnhcjaibdaaDoor
open Go.RowKit
set_option linter.unusedVariables false
attribute [local go_sem ↓] Go.wp_at_zero Go.wp_at_succ
set_option maxRecDepth 20000 in
set_option maxHeartbeats 4000000 in
theorem Exchange_same (i : Nat) (a : Nat) (l : Lay) (H : HS) (w : World) (h : Rep w a l H) (h1 : (1 : Int) ≤ i) (h2 : (i : Int) < H.seats.length) (h3 : (H.seats.getD i (0, 0, 0)).2.1 ≠ 0) (t1 : (H.seats.getD i (0, 0, 0)).2.2 < H.order.length) (hsl : (H.seats.length : Int) ≤ 65538) (hol : (H.order.length : Int) ≤ 1048576) (hage : (H.age : Int) ≤ 1000000000) :
    Calls Tryd.prog 52 #[.pointer (some ⟨a, 0, none⟩), .int .i64 i, .int .i64 i] w fun e w' => e = .returned (.int .i64 0) ∧ Rep w' a l (exchH H i i) ∧ Nx a l l w w' := by
  have hal := h.lt a (by simp [foot])
  have HS1 := mkHid (fun W (hW : Rep W a l H) => seatOf_yes i a l H W hW h1 h2 h3)
  have HS2 := mkHid (fun W (hW : Rep W a l H) => seatOf_yes i a l H W hW h1 h2 h3)
  have HR := mkHid h
  have HEX : Hid (exchH H i i = { H with seats := (H.seats.set i (H.seats.getD i (0, 0, 0))).set i (H.seats.getD i (0, 0, 0)), order := (H.order.set (H.seats.getD i (0, 0, 0)).2.2 i).set (H.seats.getD i (0, 0, 0)).2.2 i, age := H.age + 1 }) := rfl
  generalize exchH H i i = HX at *
  clear h h3
  obtain ⟨⟨x0, x1, x2⟩, hx⟩ : ∃ s, s = H.seats.getD i (0, 0, 0) := ⟨_, rfl⟩
  rw [← hx] at HS1 HS2 t1 HEX
  dsimp only [sv, I] at HS1 HS2 t1 HEX
  clear hx
  go_enter Tryd.func52, Tryd.ntmps52
  go_wp2_with fail
  refine Calls.mono (HS1.out _ HR.out) ?_
  rintro e w1 ⟨rfl, hf1⟩
  have hz1 := hf1.size
  have HF1 := mkHid hf1
  clear hf1
  go_wp2_with fail
  have F2 : Fr [] w (w1.alloc (.cells #[.int .i64 (x0 : Int), .int .i64 (x1 : Int), .int .i64 (x2 : Int)] 122)) := HF1.out.trans (Fr.alloc [] _ _) (by simp)
  refine Calls.mono (HS2.out _ (HR.out.keep F2 (by simp))) ?_
  rintro e w2 ⟨rfl, hf2⟩
  have z2 := hf2.size
  have s0 := hf2.cell (p := ⟨w1.heap.size, 0, none⟩) (by simp) (by simp)
  have s1 := hf2.cell (p := ⟨w1.heap.size, 1, none⟩) (by simp) (by simp)
  have s2 := hf2.cell (p := ⟨w1.heap.size, 2, none⟩) (by simp) (by simp)
  simp only [World.cell?_alloc_new, List.getElem?_toArray, List.getElem?_cons_succ, List.getElem?_cons_zero, World.size_alloc] at s0 s1 s2 z2
  have F3 := F2.trans hf2 (by simp)
  have HW0 := mkHid ((hf2.block w1.heap.size (by simp) (by simp)).trans (heap_alloc_new w1 _))
  have hr2 := HR.out.keep F3 (by simp)
  clear hf2 F2 HS1 HS2
  obtain ⟨gs, hgs, hcs, hfs, hgsa, hgsl⟩ := HR.out.seatAt i (by omega)
  obtain ⟨p0, p1, p2⟩ := hcs i (by omega)
  obtain ⟨q0, q1, q2⟩ := hcs i (by omega)
  have c5 := hr2.c5
  rw [hgs] at c5
  have cc : ∀ o, w2.cell? ⟨gs, o, none⟩ = w.cell? ⟨gs, o, none⟩ := fun o => F3.cell (p := ⟨gs, o, none⟩) hgsl (by simp)
  have ff : ∀ o, w2.frozen? ⟨gs, o, none⟩ = false := fun o => (F3.frozen (p := ⟨gs, o, none⟩) hgsl (by simp)).trans (hfs o)
  obtain ⟨o3, ho3⟩ : ∃ o3, o3 = Obj.cells #[.int .i64 (x0 : Int), .int .i64 (x1 : Int), .int .i64 (x2 : Int)] 122 := ⟨_, rfl⟩
  have P0 := ((World.cell?_alloc_lt w2 o3 ⟨gs, i * 3, none⟩ (by show gs < _; omega)).trans (cc _)).trans p0
  have P1 := ((World.cell?_alloc_lt w2 o3 ⟨gs, i * 3 + 1, none⟩ (by show gs < _; omega)).trans (cc _)).trans p1
  have P2 := ((World.cell?_alloc_lt w2 o3 ⟨gs, i * 3 + 2, none⟩ (by show gs < _; omega)).trans (cc _)).trans p2
  have Q0 := ((World.cell?_alloc_lt w2 o3 ⟨gs, i * 3, none⟩ (by show gs < _; omega)).trans (cc _)).trans q0
  have Q1 := ((World.cell?_alloc_lt w2 o3 ⟨gs, i * 3 + 1, none⟩ (by show gs < _; omega)).trans (cc _)).trans q1
  have Q2 := ((World.cell?_alloc_lt w2 o3 ⟨gs, i * 3 + 2, none⟩ (by show gs < _; omega)).trans (cc _)).trans q2
  simp only [I] at P0 P1 P2 Q0 Q1 Q2
  have fo : ∀ o, (w2.alloc o3).frozen? ⟨gs, o, none⟩ = false := fun o => (World.frozen?_alloc_old w2 o3 ⟨gs, o, none⟩ (by show gs ≠ _; omega)).trans (ff o)
  have e0 := fo (i * 3)
  have e1 := fo (i * 3 + 1)
  have e2 := fo (i * 3 + 2)
  have g0 := fo (i * 3)
  have g1 := fo (i * 3 + 1)
  have g2 := fo (i * 3 + 2)
  have C5 := (World.cell?_alloc_lt w2 o3 ⟨a, 5, none⟩ (by show a < _; omega)).trans c5
  have S0 := (World.cell?_alloc_lt w2 o3 ⟨w1.heap.size, 0, none⟩ (by show w1.heap.size < _; omega)).trans s0
  have S1 := (World.cell?_alloc_lt w2 o3 ⟨w1.heap.size, 1, none⟩ (by show w1.heap.size < _; omega)).trans s1
  have S2 := (World.cell?_alloc_lt w2 o3 ⟨w1.heap.size, 2, none⟩ (by show w1.heap.size < _; omega)).trans s2
  have hn3 := heap_alloc_new w2 o3
  rw [ho3] at hn3
  have T0 := cell_in hn3 0
  have T1 := cell_in hn3 1
  have T2 := cell_in hn3 2
  rw [← ho3] at T0 T1 T2
  simp only [List.getElem?_toArray, List.getElem?_cons_succ, List.getElem?_cons_zero] at T0 T1 T2
  have HF3 := mkHid (F3.trans (Fr.alloc [] w2 o3) (by simp))
  have hzz : (w2.alloc o3).heap.size = w2.heap.size + 1 := by simp
  have HB1 : Hid ((w2.alloc o3).heap[w1.heap.size]? = w2.heap[w1.heap.size]? ∧ (w2.alloc o3).heap[w2.heap.size]? = some (.cells #[.int .i64 (x0 : Int), .int .i64 (x1 : Int), .int .i64 (x2 : Int)] 122 (0, 0))) := ⟨Below.heap_alloc _ _ _ (by omega), by rw [ho3]; exact heap_alloc_new _ _⟩
  have HW1 : Hid (w2.heap[w1.heap.size]? = some (.cells #[.int .i64 (x0 : Int), .int .i64 (x1 : Int), .int .i64 (x2 : Int)] 122 (0, 0))) := HW0.out
  clear hcs hfs p0 p1 p2 q0 q1 q2 cc ff fo hn3 F3 hr2 s0 s1 s2 c5
  go_wp2
  rw [← ho3]
  clear ho3
  generalize w2.alloc o3 = w3 at *
  generalize (H.seats.getD i (0, 0, 0)).1 = ow0 at *
  generalize (H.seats.getD i (0, 0, 0)).2.1 = ox1 at *
  generalize (H.seats.getD i (0, 0, 0)).2.2 = ox2 at *
  have m1 : (0 : Int) ≤ (i : Int) := by omega
  have m2 : (0 : Int) ≤ (i : Int) := by omega
  have d1 : gs ≠ w1.heap.size := by omega
  have d2 : gs ≠ w2.heap.size := by omega
  have d3 : w1.heap.size ≠ w2.heap.size := by omega
  have HZZ := mkHid hzz
  clear hzz
  have HE1 : Hid (∀ W, Eqw ((((((w3.setCell ⟨gs, i * 3, none⟩ (.int .i64 (x0 : Int))).setCell ⟨gs, i * 3 + 1, none⟩ (.int .i64 (x1 : Int))).setCell ⟨gs, i * 3 + 2, none⟩ (.int .i64 (x2 : Int))).setCell ⟨gs, i * 3, none⟩ (.int .i64 (x0 : Int))).setCell ⟨gs, i * 3 + 1, none⟩ (.int .i64 (x1 : Int))).setCell ⟨gs, i * 3 + 2, none⟩ (.int .i64 (x2 : Int))) W → Rep W a l { H with seats := (H.seats.set i (x0, x1, x2)).set i (x0, x1, x2) } ∧ Nx a l l w W ∧ W.heap[w1.heap.size]? = w2.heap[w1.heap.size]? ∧ W.heap[w2.heap.size]? = some (.cells #[.int .i64 (x0 : Int), .int .i64 (x1 : Int), .int .i64 (x2 : Int)] 122 (0, 0))) := by
    intro W he
    have K := exch_seats (HR.out.keep HF3.out (by simp)) hgs i i (by omega) (by omega) (x0, x1, x2) (x0, x1, x2) W he
    exact ⟨K.1, (Nx.frw (HF3.out.mono (by simp)) : Nx a l l w w3).trans K.2.1, (K.2.2 _ (Ne.symm d1)).trans HB1.out.1, (K.2.2 _ (Ne.symm d2)).trans HB1.out.2⟩
  go_cut [] (fun W => Hid (Rep W a l { H with seats := (H.seats.set i (x0, x1, x2)).set i (x0, x1, x2) } ∧ Nx a l l w W ∧ W.heap[w1.heap.size]? = w2.heap[w1.heap.size]? ∧ W.heap[w2.heap.size]? = some (.cells #[.int .i64 (x0 : Int), .int .i64 (x1 : Int), .int .i64 (x2 : Int)] 122 (0, 0))))
  case first =>
    go_region_held3 (fun w' => w'.cell? ⟨a, 5, none⟩ = some (.slice (some ⟨gs, 0, none⟩) H.seats.length l.cs) ∧ w'.cell? ⟨w1.heap.size, 0, none⟩ = some (.int .i64 (x0 : Int)) ∧ w'.cell? ⟨w1.heap.size, 1, none⟩ = some (.int .i64 (x1 : Int)) ∧ w'.cell? ⟨w1.heap.size, 2, none⟩ = some (.int .i64 (x2 : Int)) ∧ w'.cell? ⟨w2.heap.size, 0, none⟩ = some (.int .i64 (x0 : Int)) ∧ w'.cell? ⟨w2.heap.size, 1, none⟩ = some (.int .i64 (x1 : Int)) ∧ w'.cell? ⟨w2.heap.size, 2, none⟩ = some (.int .i64 (x2 : Int))) (go_keep) (fail)
    all_goals go_wp2
    all_goals
      go_meet
      case rel =>
        refine mkHid (HE1.out _ ?_)
        exact eqw_drew _
  case rest =>
    obtain ⟨w4, hw4⟩ : ∃ w4, w4 = wc := ⟨_, rfl⟩
    subst hw4
    obtain ⟨hr4, hx4, hb4, hb5⟩ := hcut.out
    clear hcut P0 P1 P2 Q0 Q1 Q2 e0 e1 e2 g0 g1 g2 C5 T0 T1 T2
    have hz4 : w4.heap[w1.heap.size]? = some (.cells #[.int .i64 (x0 : Int), .int .i64 (x1 : Int), .int .i64 (x2 : Int)] 122 (0, 0)) := by rw [hb4]; exact HW1.out
    have s0 := cell_in hz4 0
    have s2 := cell_in hz4 2
    have u2 := cell_in hb5 2
    simp only [List.getElem?_toArray, List.getElem?_cons_succ, List.getElem?_cons_zero] at s0 s2 u2
    obtain ⟨go, hgo, hco, hfo, hgoa, hgol⟩ := hr4.orderAt x2 (by dsimp only; omega)
    have c6 := hr4.c6
    have c10 := hr4.c10
    have f10 := hr4.frozen 10
    rw [hgo] at c6
    have o1 := hco x2 (by dsimp only; omega)
    have o2 := hco x2 (by dsimp only; omega)
    have p1 := hfo x2
    have p2 := hfo x2
    dsimp only at c6 c10 o1 o2
    generalize H.order.getD x2 0 = ov1 at *
    generalize H.order.getD x2 0 = ov2 at *
    have hgn1 : go ≠ w1.heap.size := by
      intro e
      obtain ⟨cur, hcur⟩ := own_blk hr4.order go (by rw [hgo]; simp [blk])
      rw [e, hz4] at hcur
      simp at hcur
    have hgn2 : go ≠ w2.heap.size := by
      intro e
      obtain ⟨cur, hcur⟩ := own_blk hr4.order go (by rw [hgo]; simp [blk])
      rw [e, hb5] at hcur
      simp at hcur
    have HE : Hid (∀ W, Eqw (((w4.setCell ⟨go, x2, none⟩ (.int .i64 (i : Int))).setCell ⟨go, x2, none⟩ (.int .i64 (i : Int))).setCell ⟨a, 10, none⟩ (.int .i64 ((H.age : Int) + 1))) W → Rep W a l HX ∧ Nx a l l w W) := by
      intro W he
      have K := exch_order (H' := HX) hr4 hgo x2 x2 i i HEX.out W he
      exact ⟨K.1, hx4.trans K.2⟩
    have a1 : (0 : Int) ≤ (x2 : Int) := by omega
    have a2 : (0 : Int) ≤ (x2 : Int) := by omega
    have a3 : (x2 : Int) < (H.order.length : Int) := by omega
    have a4 : (x2 : Int) < (H.order.length : Int) := by omega
    clear hr4 hx4 hb4 hb5 hz4 hco hfo hgo HEX HR HF3 HB1
    go_wp2
    go_region_held3 (fun w' => w'.cell? ⟨a, 6, none⟩ = some (.slice (some ⟨go, 0, none⟩) H.order.length l.co) ∧ w'.cell? ⟨w1.heap.size, 2, none⟩ = some (.int .i64 (x2 : Int)) ∧ w'.cell? ⟨w2.heap.size, 2, none⟩ = some (.int .i64 (x2 : Int))) (go_keep) (fail)
    all_goals go_wp2
    all_goals
      go_ret
      exact ⟨rfl, HE.out _ ⟨rfl, rfl, rfl, rfl⟩⟩
end Go.Proofs.YtdkbnnhcjaibdaaDoor

namespace Go.Proofs.YtdkbnnhcjaibdaaDoor
open Go.RowKit
set_option linter.unusedVariables false
attribute [local go_sem ↓] Go.wp_at_zero Go.wp_at_succ
set_option maxRecDepth 20000 in
set_option maxHeartbeats 2000000 in
theorem Keep_no (zs : List Int) (j0 : Nat) (b off c : Nat) (a : Nat) (l : Lay) (H : HS) (w : World) (h : Rep w a l H) (hj0 : j0 < zs.length) (hpre : ∀ j, j < j0 → has H (zs.getD j 0) = true) (hbad : has H (zs.getD j0 0) = false)
    (ht1 : H.seats.length ≤ 65538) (hb : b < w.heap.size) (hbn : b ∉ foot a l) (hin : ∀ j, j < zs.length → w.cell? ⟨b, off + j, none⟩ = some (.int .i64 (zs.getD j 0))) (hkl : (zs.length : Int) ≤ 9223372036854775807) :
    Calls Tryd.prog 14 #[.pointer (some ⟨a, 0, none⟩), .slice (some ⟨b, off, none⟩) zs.length c] w fun e w' => e = .returned (.tuple #[.int .i64 0, .int .i64 0, .int .i64 20]) ∧ Rep w' a l H ∧ Nx a l l w w' := by
  have hal := h.lt a (by simp [foot])
  have c0 := h.c0
  have c5 := h.c5
  have hmk := make_bools H.seats.length (by omega)
  have HR := mkHid h
  have HIN := mkHid hin
  have HP := mkHid hpre
  have HBad := mkHid hbad
  clear h hin hpre hbad
  go_enter Tryd.func14, Tryd.ntmps14
  go_wp2_with (go_at_call 62; refine (made_any _ _ c0).mono ?_; rintro e w1 ⟨rfl, hw1⟩; rw [hw1]; clear hw1 w1)
  go_loopw [27] (fun q wr => ∃ k : Nat, k ≤ j0 ∧ q = .int .i64 k ∧ Hid (Rep wr a l H ∧ Nx a l l w wr ∧ ∃ C, C.size = H.seats.length ∧ wr.heap[w.heap.size]? = some (.cells C 4 (0, 0)))) (fun q _ => zs.length - (intOf q).toNat)
  case atStart => exact ⟨0, Nat.zero_le _, rfl, HR.out.alloc _, Nx.frw (Fr.alloc _ _ _), _, by simp [keptL_len], heap_alloc_new _ _⟩
  case round =>
    obtain ⟨k, hkn, rfl, hq⟩ := hrel
    obtain ⟨hr, hx, C, hCs, hkb⟩ := hq.out
    clear hq
    have hin := (hx.1.cell (p := ⟨b, off + k, none⟩) hb hbn).trans (HIN.out k (by omega))
    have k1 : (0 : Int) ≤ (k : Int) := by omega
    have k2 : (k : Int) < (zs.length : Int) := by omega
    by_cases hlt : k < j0
    · have hp := HP.out k hlt
      obtain ⟨j, hj⟩ : ∃ j : Nat, zs.getD k 0 = (j : Int) := by
        have h1 := of_decide_eq_true hp
        exact ⟨(zs.getD k 0).toNat, by omega⟩
      rw [hj] at hin hp
      obtain ⟨j1, j2, j3⟩ := has_yes hp
      have HSO := mkHid (seatOf_yes j a l H wr hr j1 j2 j3)
      obtain ⟨⟨p, L, t⟩, hs⟩ : ∃ s, s = H.seats.getD j (0, 0, 0) := ⟨_, rfl⟩
      rw [← hs] at HSO
      dsimp only [sv, I] at HSO
      have k3 : (0 : Int) ≤ (j : Int) := by omega
      have k4 : (j : Int) < (H.seats.length : Int) := by omega
      have hkl2 := lt_of_heap hkb
      have HRr := mkHid hr
      have HXr := mkHid hx
      have HKB := mkHid hkb
      have HCs := mkHid hCs
      clear hr hx hkb hs j3 hj hp hCs
      go_wp2_with fail
      refine Calls.mono HSO.out ?_
      rintro e w1 ⟨rfl, hf1⟩
      have z1 := hf1.size
      have hkb2 := (Below.heap_alloc w1 (.cells #[.int .i64 (p : Int), .int .i64 (L : Int), .int .i64 (t : Int)] 122) w.heap.size (by omega)).trans ((hf1.block _ hkl2 (by simp)).trans HKB.out)
      have cl := cell_in hkb2 j
      have fl := frozen_in hkb2 j
      rw [Array.getElem?_eq_getElem (by rw [HCs.out]; omega)] at cl
      have HE : Hid (∀ W, Eqw ((w1.alloc (.cells #[.int .i64 (p : Int), .int .i64 (L : Int), .int .i64 (t : Int)] 122)).setCell ⟨w.heap.size, j, none⟩ (.bool true)) W → Rep W a l H ∧ Nx a l l w W ∧ ∃ C, C.size = H.seats.length ∧ W.heap[w.heap.size]? = some (.cells C 4 (0, 0))) := by
        intro W he
        have F1 : Fr [] wr (w1.alloc (.cells #[.int .i64 (p : Int), .int .i64 (L : Int), .int .i64 (t : Int)] 122)) := hf1.trans (Fr.alloc [] _ _) (by simp)
        have hr1 := HRr.out.keep F1 (by simp)
        have hnf : w.heap.size ∉ foot a l := fun hm => by have := HR.out.lt _ hm; omega
        refine ⟨(hr1.congr fun g hg => set_else (fun e => hnf (by rw [← e]; exact hg))).eqw he, Nx.eqw ⟨?_, fun b hb => .inl hb⟩ he, C.setIfInBounds j (.bool true), by simpa using HCs.out, ?_⟩
        · refine (HXr.out.1.trans (F1.mono (S' := foot a l) (by simp)) (fun b hb => .inl hb)).trans (Fr.setCell (S := [w.heap.size]) _ _ _ (by simp)) (fun b hb => by simp at hb; subst hb; right; exact Nat.le_refl _)
        · rw [he.2.2.2, set_in hkb2 j (.bool true)]
      have HF1 := mkHid hf1
      generalize C[j]'(by rw [HCs.out]; omega) = old at cl
      clear hf1 hkb2 HSO
      go_wp2
      go_roundw
      case rel => exact ⟨k + 1, by omega, by go_num, HE.out _ ⟨rfl, rfl, rfl, rfl⟩⟩
      case measure => simp [intOf]; omega
    · have hke : k = j0 := by omega
      subst hke
      have HSO := mkHid (seatOf_none _ a l H wr hr HBad.out)
      have HRr := mkHid hr
      have HXr := mkHid hx
      generalize zs.getD k 0 = zv at *
      clear hr hx hkb hCs
      go_wp2_with fail
      refine Calls.mono HSO.out ?_
      rintro e w1 ⟨rfl, hf1⟩
      have F2 : Fr [] wr (w1.alloc (.cells #[.int .i64 0, .int .i64 0, .int .i64 0] 122)) := hf1.trans (Fr.alloc [] _ _) (by simp)
      have HF := mkHid F2
      clear hf1 F2 HSO
      go_wp2
      go_ret3
      exact ⟨rfl, HRr.out.keep HF.out (by simp), HXr.out.trans (Nx.frw (HF.out.mono (by simp)))⟩
end Go.Proofs.YtdkbnnhcjaibdaaDoor

namespace Go.Proofs.YtdkbnnhcjaibdaaDoor
open Go.RowKit
set_option linter.unusedVariables false
attribute [local go_sem ↓] Go.wp_at_zero Go.wp_at_succ
/-- a thing of the model: what it must be, and where its slots lie -/
structure Th where
  there : Bool
  cls : Int
  fmt : Nat
  place : Nat
  slots : List Int
  p : Option Addr
  c : Nat
/-- the model, and where its things lie -/
structure MS where
  words : Nat
  oops : Nat
  mark : Nat
  things : List Th
  pt : Option Addr
  ct : Nat
def noTh : Th := ⟨false, 0, 0, 0, [], none, 0⟩
def thCells (l : List Th) : List Value := l.flatMap fun t => [.bool t.there, .int .i64 t.cls, I t.fmt, I t.place, .slice t.p t.slots.length t.c]
def mcells (M : MS) : Array Value := #[I M.words, I M.oops, I M.mark, .slice M.pt M.things.length M.ct]
structure MRep (w : World) (m : Nat) (M : MS) : Prop where
  top : w.heap[m]? = some (.cells (mcells M) 33 (0, 0))
  row : w.ownsRow 0 116 5 (.slice M.pt M.things.length M.ct) M.things.length (thCells M.things)
  slots : ∀ t ∈ M.things, w.ownsRow 0 35 1 (.slice t.p t.slots.length t.c) t.slots.length (t.slots.map (Value.int .i64))
  apart : ∀ i j, i < M.things.length → j < M.things.length → i ≠ j → ∀ g ∈ blk (M.things.getD i noTh).p, g ∉ blk (M.things.getD j noTh).p
def mslots (M : MS) : List Nat := M.things.flatMap fun t => blk t.p
def mfoot (m : Nat) (M : MS) : List Nat := m :: (blk M.pt ++ mslots M)
theorem mslots_mem {M : MS} {t : Th} (ht : t ∈ M.things) {g : Nat} (hg : g ∈ blk t.p) : g ∈ mslots M := List.mem_flatMap.2 ⟨t, ht, hg⟩
theorem MRep.congr {w w' : World} {m : Nat} {M : MS} (h : MRep w m M) (hb : ∀ g ∈ mfoot m M, w'.heap[g]? = w.heap[g]?) : MRep w' m M :=
  ⟨(hb m (by simp [mfoot])).trans h.top, own_congr h.row fun g hg => hb g (by simp [mfoot, (blk_own _ _ _ _).1 hg]),
    fun t ht => own_congr (h.slots t ht) fun g hg => hb g (by simp [mfoot, mslots_mem ht ((blk_own _ _ _ _).1 hg)]), h.apart⟩
theorem MRep.lt {w : World} {m : Nat} {M : MS} (h : MRep w m M) : ∀ g ∈ mfoot m M, g < w.heap.size := by
  intro g hg
  simp only [mfoot, List.mem_cons, List.mem_append] at hg
  rcases hg with rfl | hg | hg
  · exact lt_of_heap h.top
  · obtain ⟨c, hc⟩ := own_blk h.row g hg; exact lt_of_heap hc
  · obtain ⟨t, ht, hg⟩ := List.mem_flatMap.1 hg
    obtain ⟨c, hc⟩ := own_blk (h.slots t ht) g hg; exact lt_of_heap hc
theorem MRep.keep {w w' : World} {m : Nat} {M : MS} {S : List Nat} (h : MRep w m M) (hf : Fr S w w') (hd : ∀ g ∈ mfoot m M, g ∉ S) : MRep w' m M :=
  h.congr fun g hg => hf.block g (h.lt g hg) (hd g hg)
theorem MRep.alloc {w : World} {m : Nat} {M : MS} (h : MRep w m M) (o : Obj) : MRep (w.alloc o) m M := h.congr fun g hg => Below.heap_alloc _ _ _ (h.lt g hg)
theorem MRep.c0 {w : World} {m : Nat} {M : MS} (h : MRep w m M) : w.cell? ⟨m, 0, none⟩ = some (.int .i64 M.words) := by rw [cell_in h.top]; rfl
theorem MRep.c1 {w : World} {m : Nat} {M : MS} (h : MRep w m M) : w.cell? ⟨m, 1, none⟩ = some (.int .i64 M.oops) := by rw [cell_in h.top]; rfl
theorem MRep.c2 {w : World} {m : Nat} {M : MS} (h : MRep w m M) : w.cell? ⟨m, 2, none⟩ = some (.int .i64 M.mark) := by rw [cell_in h.top]; rfl
theorem MRep.c3 {w : World} {m : Nat} {M : MS} (h : MRep w m M) : w.cell? ⟨m, 3, none⟩ = some (.slice M.pt M.things.length M.ct) := by rw [cell_in h.top]; rfl
theorem thCells_len (S : List Th) : (thCells S).length = S.length * 5 := by
  induction S with
  | nil => rfl
  | cons s S ih =>
    have e : thCells (s :: S) = [.bool s.there, .int .i64 s.cls, I s.fmt, I s.place, .slice s.p s.slots.length s.c] ++ thCells S := by simp [thCells]
    rw [e, List.length_append, ih]; simp; omega
theorem thCells_at (S : List Th) : ∀ k, k < S.length → (thCells S)[k * 5]? = some (.bool (S.getD k noTh).there) ∧ (thCells S)[k * 5 + 1]? = some (.int .i64 (S.getD k noTh).cls) ∧ (thCells S)[k * 5 + 2]? = some (I (S.getD k noTh).fmt) ∧
    (thCells S)[k * 5 + 3]? = some (I (S.getD k noTh).place) ∧ (thCells S)[k * 5 + 4]? = some (.slice (S.getD k noTh).p (S.getD k noTh).slots.length (S.getD k noTh).c) := by
  induction S with
  | nil => intro k hk; simp at hk
  | cons s S ih =>
    intro k hk
    have e : thCells (s :: S) = [.bool s.there, .int .i64 s.cls, I s.fmt, I s.place, .slice s.p s.slots.length s.c] ++ thCells S := by simp [thCells]
    cases k with
    | zero => rw [e]; exact ⟨rfl, rfl, rfl, rfl, rfl⟩
    | succ k =>
      have := ih k (by simpa using hk)
      have ea : ∀ j, ([Value.bool s.there, .int .i64 s.cls, I s.fmt, I s.place, .slice s.p s.slots.length s.c] ++ thCells S)[(k + 1) * 5 + j]? = (thCells S)[k * 5 + j]? := fun j => by
        rw [List.getElem?_append_right (by simp; omega)]
        congr 1
        simp
        omega
      rw [e]
      exact ⟨(ea 0).trans this.1, (ea 1).trans this.2.1, (ea 2).trans this.2.2.1, (ea 3).trans this.2.2.2.1, (ea 4).trans this.2.2.2.2⟩
/-- the things' block -/
theorem MRep.thAt {w : World} {m : Nat} {M : MS} (h : MRep w m M) (hk : 0 < M.things.length) :
    ∃ g, M.pt = some ⟨g, 0, none⟩ ∧ (∀ k, k < M.things.length → w.cell? ⟨g, k * 5, none⟩ = some (.bool (M.things.getD k noTh).there) ∧ w.cell? ⟨g, k * 5 + 1, none⟩ = some (.int .i64 (M.things.getD k noTh).cls) ∧ w.cell? ⟨g, k * 5 + 2, none⟩ = some (I (M.things.getD k noTh).fmt) ∧
      w.cell? ⟨g, k * 5 + 3, none⟩ = some (I (M.things.getD k noTh).place) ∧ w.cell? ⟨g, k * 5 + 4, none⟩ = some (.slice (M.things.getD k noTh).p (M.things.getD k noTh).slots.length (M.things.getD k noTh).c)) ∧ (∀ i, w.frozen? ⟨g, i, none⟩ = false) ∧ g < w.heap.size := by
  have hs := h.row
  obtain ⟨g, c, hv, _, hgl⟩ := hs.form (by omega)
  injection hv with hv1 hv2 hv3
  have hg : M.pt = some ⟨g, 0, none⟩ := hv1
  rw [hg] at hs
  refine ⟨g, hg, fun k hk => ?_, fun i => hs.frozenAt i, hgl⟩
  have := thCells_at M.things k hk
  exact ⟨(hs.cellAt _ (by omega)).trans this.1, (hs.cellAt _ (by omega)).trans this.2.1, (hs.cellAt _ (by omega)).trans this.2.2.1, (hs.cellAt _ (by omega)).trans this.2.2.2.1, (hs.cellAt _ (by omega)).trans this.2.2.2.2⟩
set_option maxHeartbeats 400000 in
theorem refLen_any (n f : Nat) (w : World) (hn : (n : Int) ≤ 1048576) :
    Calls Tryd.prog 67 #[.int .i64 n, .int .i64 f] w fun e w' => e = .returned (.int .i64 (lenN n f : Nat)) ∧ w' = w := by
  by_cases hf : f = 1
  · subst hf
    go_enter Tryd.func67, Tryd.ntmps67
    go_wp2
    go_ret
    refine ⟨ret_int ?_, rfl⟩
    simp only [lenN, if_true]
    push_cast
    first | rfl | omega | (simp; omega)
  · have hf' : ((f : Int) == 1) = false := by simpa using (by omega : ¬ (f : Int) = 1)
    go_enter Tryd.func67, Tryd.ntmps67
    go_wp2
    go_ret
    refine ⟨ret_int ?_, rfl⟩
    simp only [lenN, if_neg hf]
    push_cast
    first | rfl | omega | (simp; omega)
def thereTo (S : List Th) (k : Nat) : Nat := ((S.take k).filter (·.there)).length
theorem thereTo_succ (S : List Th) (k : Nat) (hk : k < S.length) : thereTo S (k + 1) = thereTo S k + (if (S.getD k noTh).there then 1 else 0) := by
  unfold thereTo
  rw [List.take_add_one, List.filter_append, List.length_append, List.getD_eq_getElem?_getD, List.getElem?_eq_getElem hk]
  simp only [Option.toList_some, Option.getD_some]
  by_cases h : S[k].there = true
  · simp [h]
  · simp [h]
theorem thereTo_le (S : List Th) (k : Nat) : thereTo S k ≤ k := Nat.le_trans (List.length_filter_le _ _) (by simp; omega)
set_option maxRecDepth 20000 in
set_option maxHeartbeats 1000000 in
theorem there_ok (m : Nat) (M : MS) (w : World) (h : MRep w m M) (hs : (M.things.length : Int) ≤ 65538) :
    Calls Tryd.prog 66 #[.pointer (some ⟨m, 0, none⟩)] w fun e w' => e = .returned (I (thereTo M.things M.things.length)) ∧ w' = w := by
  have c3 := h.c3
  have HM := mkHid h
  clear h
  go_enter Tryd.func66, Tryd.ntmps66
  go_wp2
  go_loopw [3, 4] (fun v q wr => ∃ k : Nat, k ≤ M.things.length ∧ q = .int .i64 k ∧ v = .int .i64 (thereTo M.things k : Nat) ∧ wr = w) (fun _ q _ => M.things.length - (intOf q).toNat)
  case atStart => exact ⟨0, Nat.zero_le _, rfl, rfl, rfl⟩
  case round =>
    obtain ⟨k, hkn, rfl, rfl, rfl⟩ := hrel
    by_cases hlt : k < M.things.length
    · obtain ⟨g, hg, hc, hf, hgl⟩ := HM.out.thAt (by omega)
      obtain ⟨q0, _, _, _, _⟩ := hc k hlt
      have hsu := thereTo_succ M.things k hlt
      have hle := thereTo_le M.things k
      rw [hg] at c3
      have k1 : (0 : Int) ≤ (k : Int) := by omega
      have k2 : (k : Int) < (M.things.length : Int) := by omega
      have HSU := mkHid hsu
      clear hsu hc hf
      generalize thereTo M.things k = X at *
      cases hb : (M.things.getD k noTh).there with
      | true =>
        rw [hb] at q0 HSU
        have HS2 := HSU.out
        rw [if_pos rfl] at HS2
        have HS3 := mkHid HS2
        clear HS2 HSU
        go_wp2
        go_roundw
        case rel => exact ⟨k + 1, by omega, by go_num, by rw [HS3.out]; go_num, trivial⟩
        case measure => simp [intOf]; omega
      | false =>
        rw [hb] at q0 HSU
        have HS2 := HSU.out
        rw [if_neg (by simp)] at HS2
        have HS3 := mkHid HS2
        clear HS2 HSU
        go_wp2
        go_roundw
        case rel => exact ⟨k + 1, by omega, by go_num, by rw [HS3.out]; go_num, trivial⟩
        case measure => simp [intOf]; omega
    · have hke : k = M.things.length := by omega
      subst hke
      go_wp2
      go_ret
      exact ⟨rfl, rfl⟩
def endTo (S : List Th) : Nat → Nat
  | 0 => 0
  | k + 1 => if (S.getD k noTh).there ∧ endTo S k < (S.getD k noTh).place + lenN (S.getD k noTh).slots.length (S.getD k noTh).fmt then (S.getD k noTh).place + lenN (S.getD k noTh).slots.length (S.getD k noTh).fmt else endTo S k
theorem endTo_succ (S : List Th) (k : Nat) : endTo S (k + 1) = if (S.getD k noTh).there ∧ endTo S k < (S.getD k noTh).place + lenN (S.getD k noTh).slots.length (S.getD k noTh).fmt then (S.getD k noTh).place + lenN (S.getD k noTh).slots.length (S.getD k noTh).fmt else endTo S k := rfl
theorem endTo_le (S : List Th) (B : Nat) (k : Nat) (h : ∀ j, j < k → (S.getD j noTh).place + lenN (S.getD j noTh).slots.length (S.getD j noTh).fmt ≤ B) : endTo S k ≤ B := by
  induction k with
  | zero => exact Nat.zero_le _
  | succ k ih =>
    have := h k (by omega)
    have := ih fun j hj => h j (by omega)
    rw [endTo_succ]
    split <;> omega
theorem lenN_le (n f : Nat) : lenN n f ≤ 2 + n := by unfold lenN; split <;> omega
/-- bounds of the model's numbers -/
structure MOk (M : MS) : Prop where
  len : (M.things.length : Int) ≤ 65538
  slots : ∀ k, k < M.things.length → ((M.things.getD k noTh).slots.length : Int) ≤ 8192
  place : ∀ k, k < M.things.length → ((M.things.getD k noTh).place : Int) ≤ 1048576
set_option maxRecDepth 20000 in
set_option maxHeartbeats 2000000 in
theorem end_ok (m : Nat) (M : MS) (w : World) (h : MRep w m M) (ho : MOk M) :
    Calls Tryd.prog 74 #[.pointer (some ⟨m, 0, none⟩)] w fun e w' => e = .returned (I (endTo M.things M.things.length)) ∧ Fr [] w w' := by
  have c3 := h.c3
  have hml := h.lt m (by simp [mfoot])
  have hlen := ho.len
  have HM := mkHid h
  have HO := mkHid ho
  clear h ho
  go_enter Tryd.func74, Tryd.ntmps74
  go_wp2
  go_loopw [3, 4] (fun v q wr => ∃ k : Nat, k ≤ M.things.length ∧ q = .int .i64 k ∧ v = .int .i64 (endTo M.things k : Nat) ∧ Hid (Fr [] w wr)) (fun _ q _ => M.things.length - (intOf q).toNat)
  case atStart => exact ⟨0, Nat.zero_le _, rfl, rfl, Fr.refl _ _⟩
  case round =>
    obtain ⟨k, hkn, rfl, rfl, hfr⟩ := hrel
    have c3 := (hfr.out.cell (p := ⟨m, 3, none⟩) hml (by simp)).trans c3
    by_cases hlt : k < M.things.length
    · obtain ⟨g, hg, hc, hf, hgl⟩ := (HM.out.keep hfr.out (by simp)).thAt (by omega)
      obtain ⟨q0, q1, q2, q3, q4⟩ := hc k hlt
      have hsu := endTo_succ M.things k
      have hXb : endTo M.things k ≤ 2000000 := endTo_le _ _ _ fun j hj => by
        have := HO.out.slots j (by omega)
        have := HO.out.place j (by omega)
        have := lenN_le (M.things.getD j noTh).slots.length (M.things.getD j noTh).fmt
        omega
      have o1 := HO.out.slots k hlt
      have o2 := HO.out.place k hlt
      have l1 := lenN_le (M.things.getD k noTh).slots.length (M.things.getD k noTh).fmt
      have hLW := refLen_any (M.things.getD k noTh).slots.length (M.things.getD k noTh).fmt
      rw [hg] at c3
      simp only [I] at q2 q3
      have k1 : (0 : Int) ≤ (k : Int) := by omega
      have k2 : (k : Int) < (M.things.length : Int) := by omega
      have HSU := mkHid hsu
      have HL := mkHid hLW
      clear hsu hc hf hg hLW
      generalize endTo M.things k = X at *
      generalize hT : M.things.getD k noTh = t at *
      clear hT
      obtain ⟨th, cl, fm, pl, sl, tp, tc⟩ := t
      dsimp only at *
      generalize sl.length = sn at *
      have HFA : Hid (∀ nq, Fr [] w ((wr.alloc (.cells #[.bool th, .int .i64 cl, .int .i64 fm, .int .i64 pl, .slice tp sn tc] 116)).drewN nq)) := fun nq => (hfr.out.trans (Fr.alloc [] _ _) (by simp)).trans (Fr.drewN [] _ _) (by simp)
      generalize lenN sn fm = L at *
      cases th with
      | true =>
        by_cases hx : X < pl + L
        · have hx' : (X : Int) < (pl : Int) + (L : Int) := by omega
          have HS2 := HSU.out
          rw [if_pos ⟨rfl, hx⟩] at HS2
          have HS3 := mkHid HS2
          clear HS2 HSU
          go_wp2
          go_quiet ((go_at_call 67; exact Calls.quiet_of_same (HL.out _ (by omega))))
          go_wp2
          go_roundw
          case rel => exact ⟨k + 1, by omega, by go_num, by rw [HS3.out]; go_num, HFA.out _⟩
          case measure => simp [intOf]; omega
        · have hx' : (pl : Int) + (L : Int) ≤ (X : Int) := by omega
          have HS2 := HSU.out
          rw [if_neg (by simp; omega)] at HS2
          have HS3 := mkHid HS2
          clear HS2 HSU
          go_wp2
          go_quiet ((go_at_call 67; exact Calls.quiet_of_same (HL.out _ (by omega))))
          go_wp2
          go_roundw
          case rel => exact ⟨k + 1, by omega, by go_num, by rw [HS3.out], HFA.out _⟩
          case measure => simp [intOf]; omega
      | false =>
        have HS2 := HSU.out
        rw [if_neg (by simp)] at HS2
        have HS3 := mkHid HS2
        clear HS2 HSU
        go_wp2
        go_quiet ((go_at_call 67; exact Calls.quiet_of_same (HL.out _ (by omega))))
        go_wp2
        go_roundw
        case rel => exact ⟨k + 1, by omega, by go_num, by rw [HS3.out], HFA.out _⟩
        case measure => simp [intOf]; omega
    · have hke : k = M.things.length := by omega
      subst hke
      go_wp2
      go_ret
      exact ⟨rfl, hfr.out⟩
end Go.Proofs.YtdkbnnhcjaibdaaDoor

namespace Go.Proofs.YtdkbnnhcjaibdaaDoor
open Go.RowKit
set_option linter.unusedVariables false
attribute [local go_sem ↓] Go.wp_at_zero Go.wp_at_succ
/-- the lowest oop that is free -/
def lowTo (S : List Th) : Nat := (S.takeWhile (·.there)).length + 1
theorem lowTo_at (S : List Th) (k : Nat) (hk : k < S.length) (h1 : ∀ j, j < k → (S.getD j noTh).there = true) (h2 : (S.getD k noTh).there = false) : lowTo S = k + 1 := by
  unfold lowTo
  congr 1
  induction S generalizing k with
  | nil => simp at hk
  | cons s S ih =>
    cases k with
    | zero => simp only [List.getD_cons_zero] at h2; rw [List.takeWhile_cons_of_neg (by simpa using h2)]; rfl
    | succ k =>
      have h0 := h1 0 (by omega)
      simp only [List.getD_cons_zero] at h0
      rw [List.takeWhile_cons_of_pos h0, List.length_cons]
      congr 1
      exact ih k (by simpa using hk) (fun j hj => by simpa using h1 (j + 1) (by omega)) (by simpa using h2)
theorem lowTo_full (S : List Th) (h1 : ∀ j, j < S.length → (S.getD j noTh).there = true) : lowTo S = S.length + 1 := by
  unfold lowTo
  congr 1
  induction S with
  | nil => rfl
  | cons s S ih =>
    have h0 := h1 0 (by simp)
    simp only [List.getD_cons_zero] at h0
    rw [List.takeWhile_cons_of_pos h0, List.length_cons, List.length_cons]
    congr 1
    exact ih fun j hj => by simpa using h1 (j + 1) (by simpa using hj)
set_option maxRecDepth 20000 in
set_option maxHeartbeats 1000000 in
theorem lowest_ok (m : Nat) (M : MS) (w : World) (h : MRep w m M) (hs : (M.things.length : Int) ≤ 65538) :
    Calls Tryd.prog 115 #[.pointer (some ⟨m, 0, none⟩)] w fun e w' => e = .returned (I (lowTo M.things)) ∧ w' = w := by
  have c3 := h.c3
  have HM := mkHid h
  clear h
  go_enter Tryd.func115, Tryd.ntmps115
  go_wp2
  go_loopw [3] (fun q wr => ∃ k : Nat, k ≤ M.things.length ∧ q = .int .i64 k ∧ wr = w ∧ Hid (∀ j, j < k → (M.things.getD j noTh).there = true)) (fun q _ => M.things.length - (intOf q).toNat)
  case atStart => exact ⟨0, Nat.zero_le _, rfl, rfl, fun j hj => by omega⟩
  case round =>
    obtain ⟨k, hkn, rfl, rfl, hup⟩ := hrel
    by_cases hlt : k < M.things.length
    · obtain ⟨g, hg, hc, hf, hgl⟩ := HM.out.thAt (by omega)
      obtain ⟨q0, _, _, _, _⟩ := hc k hlt
      rw [hg] at c3
      have k1 : (0 : Int) ≤ (k : Int) := by omega
      have k2 : (k : Int) < (M.things.length : Int) := by omega
      clear hc hf
      cases hb : (M.things.getD k noTh).there with
      | true =>
        rw [hb] at q0
        have HU : Hid (∀ j, j < k + 1 → (M.things.getD j noTh).there = true) := fun j hj => by
          by_cases e : j = k
          · rw [e]; exact hb
          · exact hup.out j (by omega)
        clear hb hup
        go_wp2
        go_roundw
        case rel => exact ⟨k + 1, by omega, by go_num, trivial, HU⟩
        case measure => simp [intOf]; omega
      | false =>
        rw [hb] at q0
        have HU := mkHid (lowTo_at M.things k hlt hup.out hb)
        clear hb hup
        go_wp2
        go_ret
        exact ⟨by rw [HU.out]; exact ret_int (by first | rfl | (push_cast; rfl) | (push_cast; omega)), rfl⟩
    · have hke : k = M.things.length := by omega
      subst hke
      have HU := mkHid (lowTo_full M.things hup.out)
      clear hup
      go_wp2
      go_ret
      exact ⟨by rw [HU.out]; exact ret_int (by first | rfl | (push_cast; rfl) | (push_cast; omega)), rfl⟩
def mhas (M : MS) (oop : Int) : Bool := decide (1 ≤ oop ∧ oop ≤ M.things.length ∧ (M.things.getD (oop.toNat - 1) noTh).there = true)
theorem mhas_yes {M : MS} {oop : Int} (h : mhas M oop = true) : ∃ k : Nat, oop = (k : Int) + 1 ∧ k < M.things.length ∧ (M.things.getD k noTh).there = true := by
  have h1 := of_decide_eq_true h
  exact ⟨oop.toNat - 1, by omega, by omega, h1.2.2⟩
theorem mhas_of {M : MS} (k : Nat) (hk : k < M.things.length) (h : (M.things.getD k noTh).there = true) : mhas M ((k : Int) + 1) = true :=
  decide_eq_true ⟨by omega, by omega, by rw [show ((k : Int) + 1).toNat - 1 = k from by omega]; exact h⟩
set_option maxRecDepth 20000 in
set_option maxHeartbeats 1000000 in
theorem has_ok (oop : Int) (m : Nat) (M : MS) (w : World) (h : MRep w m M) (hs : (M.things.length : Int) ≤ 65538) :
    Calls Tryd.prog 57 #[.pointer (some ⟨m, 0, none⟩), .int .i64 oop] w fun e w' => e = .returned (.bool (mhas M oop)) ∧ w' = w := by
  have c3 := h.c3
  by_cases h1 : oop < 1
  · have hm : mhas M oop = false := decide_eq_false (by omega)
    have hd : decide (1 ≤ oop) = false := by simpa using h1
    rw [hm]
    clear h hm
    go_enter Tryd.func57, Tryd.ntmps57
    go_wp2
    go_ret
    exact ⟨rfl, rfl⟩
  · by_cases h2 : (M.things.length : Int) < oop
    · have hm : mhas M oop = false := decide_eq_false (by omega)
      have hd : decide (oop ≤ (M.things.length : Int)) = false := by simpa using h2
      have h1' : 1 ≤ oop := by omega
      rw [hm]
      clear h hm
      go_enter Tryd.func57, Tryd.ntmps57
      go_wp2
      go_ret
      exact ⟨rfl, rfl⟩
    · obtain ⟨k, rfl⟩ : ∃ k : Nat, oop = (k : Int) + 1 := ⟨oop.toNat - 1, by omega⟩
      have hk : k < M.things.length := by omega
      obtain ⟨g, hg, hc, hf, hgl⟩ := h.thAt (by omega)
      obtain ⟨q0, _, _, _, _⟩ := hc k hk
      have hm : mhas M ((k : Int) + 1) = (M.things.getD k noTh).there := by
        cases hb : (M.things.getD k noTh).there with
        | true => exact mhas_of k hk hb
        | false => exact decide_eq_false (by rw [show ((k : Int) + 1).toNat - 1 = k from by omega, hb]; simp)
      rw [hm]
      rw [hg] at c3
      have k0 : (1 : Int) ≤ (k : Int) + 1 := by omega
      have k3 : (k : Int) + 1 ≤ (M.things.length : Int) := by omega
      have k1 : (0 : Int) ≤ (k : Int) := by omega
      have k2 : (k : Int) < (M.things.length : Int) := by omega
      have ks : (k : Int) + 1 - 1 = k := by omega
      clear h hm hc hf
      generalize (M.things.getD k noTh).there = b at *
      go_enter Tryd.func57, Tryd.ntmps57
      go_wp2
      go_ret
      exact ⟨rfl, rfl⟩
end Go.Proofs.YtdkbnnhcjaibdaaDoor

namespace Go.Proofs.YtdkbnnhcjaibdaaDoor
open Go.RowKit
set_option linter.unusedVariables false
theorem tm2 (n : Int) (h : n < 0) : n.tmod 2 = if n % 2 = 0 then 0 else -1 := by
  rw [Int.tmod_eq_emod]; split <;> split <;> omega
theorem tm4 (n : Int) (h : n < 0) : n.tmod 4 = if n % 4 = 0 then 0 else n % 4 - 4 := by
  rw [Int.tmod_eq_emod]; split <;> split <;> omega
set_option maxHeartbeats 400000 in
theorem rKind_0_p_in (n : Int) (w : World) (hr : n % 4 = 0) (hs : 0 ≤ n) (h0 : 4 ≤ n) (h1 : n ≤ 262144) :
    Calls Tryd.prog 59 #[.int .i64 n] w fun e w' => e = .returned (.int .i64 (3)) ∧ w' = w := by
  have h2 : n % 2 = 0 := by omega
  go_enter Tryd.func59, Tryd.ntmps59
  go_wp2
  go_ret
  exact ⟨rfl, rfl⟩
set_option maxHeartbeats 400000 in
theorem rKind_0_p_out (n : Int) (w : World) (hr : n % 4 = 0) (hs : 0 ≤ n) (h : n < 4 ∨ 262144 < n) :
    Calls Tryd.prog 59 #[.int .i64 n] w fun e w' => e = .returned (.int .i64 (0)) ∧ w' = w := by
  have h2 : n % 2 = 0 := by omega
  rcases h with h | h
  all_goals
    go_enter Tryd.func59, Tryd.ntmps59
    go_wp2
    go_ret
    exact ⟨rfl, rfl⟩
set_option maxHeartbeats 400000 in
theorem rKind_0_n_out (n : Int) (w : World) (hr : n % 4 = 0) (hs : n < 0) (h : n < 4) :
    Calls Tryd.prog 59 #[.int .i64 n] w fun e w' => e = .returned (.int .i64 (0)) ∧ w' = w := by
  have e2 : n.tmod 2 = 0 := by rw [tm2 n hs]; split <;> omega
  have e4 : n.tmod 4 = 0 := by rw [tm4 n hs, hr]; rfl
  clear hr
  go_enter Tryd.func59, Tryd.ntmps59
  go_wp2
  go_ret
  exact ⟨rfl, rfl⟩
set_option maxHeartbeats 400000 in
theorem rKind_1_p_in (n : Int) (w : World) (hr : n % 4 = 1) (hs : 0 ≤ n) (h0 : -2147483647 ≤ n) (h1 : n ≤ 2147483647) :
    Calls Tryd.prog 59 #[.int .i64 n] w fun e w' => e = .returned (.int .i64 (1)) ∧ w' = w := by
  have h2 : n % 2 = 1 := by omega
  go_enter Tryd.func59, Tryd.ntmps59
  go_wp2
  go_ret
  exact ⟨rfl, rfl⟩
set_option maxHeartbeats 400000 in
theorem rKind_1_p_out (n : Int) (w : World) (hr : n % 4 = 1) (hs : 0 ≤ n) (h : 2147483647 < n) :
    Calls Tryd.prog 59 #[.int .i64 n] w fun e w' => e = .returned (.int .i64 (0)) ∧ w' = w := by
  have h2 : n % 2 = 1 := by omega
  go_enter Tryd.func59, Tryd.ntmps59
  go_wp2
  go_ret
  exact ⟨rfl, rfl⟩
set_option maxHeartbeats 400000 in
theorem rKind_1_n_in (n : Int) (w : World) (hr : n % 4 = 1) (hs : n < 0) (h0 : -2147483647 ≤ n) (h1 : n ≤ 2147483647) :
    Calls Tryd.prog 59 #[.int .i64 n] w fun e w' => e = .returned (.int .i64 (1)) ∧ w' = w := by
  have e2 : n.tmod 2 = -1 := by rw [tm2 n hs]; split <;> omega
  have e4 : n.tmod 4 = -3 := by rw [tm4 n hs, hr]; rfl
  clear hr
  go_enter Tryd.func59, Tryd.ntmps59
  go_wp2
  go_ret
  exact ⟨rfl, rfl⟩
set_option maxHeartbeats 400000 in
theorem rKind_1_n_out (n : Int) (w : World) (hr : n % 4 = 1) (hs : n < 0) (h : n < -2147483647) :
    Calls Tryd.prog 59 #[.int .i64 n] w fun e w' => e = .returned (.int .i64 (0)) ∧ w' = w := by
  have e2 : n.tmod 2 = -1 := by rw [tm2 n hs]; split <;> omega
  have e4 : n.tmod 4 = -3 := by rw [tm4 n hs, hr]; rfl
  clear hr
  go_enter Tryd.func59, Tryd.ntmps59
  go_wp2
  go_ret
  exact ⟨rfl, rfl⟩
set_option maxHeartbeats 400000 in
theorem rKind_2_p_in (n : Int) (w : World) (hr : n % 4 = 2) (hs : 0 ≤ n) (h0 : 2 ≤ n) (h1 : n ≤ 16382) :
    Calls Tryd.prog 59 #[.int .i64 n] w fun e w' => e = .returned (.int .i64 (2)) ∧ w' = w := by
  have h2 : n % 2 = 0 := by omega
  go_enter Tryd.func59, Tryd.ntmps59
  go_wp2
  go_ret
  exact ⟨rfl, rfl⟩
set_option maxHeartbeats 400000 in
theorem rKind_2_p_out (n : Int) (w : World) (hr : n % 4 = 2) (hs : 0 ≤ n) (h : 16382 < n) :
    Calls Tryd.prog 59 #[.int .i64 n] w fun e w' => e = .returned (.int .i64 (0)) ∧ w' = w := by
  have h2 : n % 2 = 0 := by omega
  go_enter Tryd.func59, Tryd.ntmps59
  go_wp2
  go_ret
  exact ⟨rfl, rfl⟩
set_option maxHeartbeats 400000 in
theorem rKind_2_n_out (n : Int) (w : World) (hr : n % 4 = 2) (hs : n < 0) (h : n < 2) :
    Calls Tryd.prog 59 #[.int .i64 n] w fun e w' => e = .returned (.int .i64 (0)) ∧ w' = w := by
  have e2 : n.tmod 2 = 0 := by rw [tm2 n hs]; split <;> omega
  have e4 : n.tmod 4 = -2 := by rw [tm4 n hs, hr]; rfl
  clear hr
  go_enter Tryd.func59, Tryd.ntmps59
  go_wp2
  go_ret
  exact ⟨rfl, rfl⟩
set_option maxHeartbeats 400000 in
theorem rKind_3_p_in (n : Int) (w : World) (hr : n % 4 = 3) (hs : 0 ≤ n) (h0 : -2147483647 ≤ n) (h1 : n ≤ 2147483647) :
    Calls Tryd.prog 59 #[.int .i64 n] w fun e w' => e = .returned (.int .i64 (1)) ∧ w' = w := by
  have h2 : n % 2 = 1 := by omega
  go_enter Tryd.func59, Tryd.ntmps59
  go_wp2
  go_ret
  exact ⟨rfl, rfl⟩
set_option maxHeartbeats 400000 in
theorem rKind_3_p_out (n : Int) (w : World) (hr : n % 4 = 3) (hs : 0 ≤ n) (h : 2147483647 < n) :
    Calls Tryd.prog 59 #[.int .i64 n] w fun e w' => e = .returned (.int .i64 (0)) ∧ w' = w := by
  have h2 : n % 2 = 1 := by omega
  go_enter Tryd.func59, Tryd.ntmps59
  go_wp2
  go_ret
  exact ⟨rfl, rfl⟩
set_option maxHeartbeats 400000 in
theorem rKind_3_n_in (n : Int) (w : World) (hr : n % 4 = 3) (hs : n < 0) (h0 : -2147483647 ≤ n) (h1 : n ≤ 2147483647) :
    Calls Tryd.prog 59 #[.int .i64 n] w fun e w' => e = .returned (.int .i64 (1)) ∧ w' = w := by
  have e2 : n.tmod 2 = -1 := by rw [tm2 n hs]; split <;> omega
  have e4 : n.tmod 4 = -1 := by rw [tm4 n hs, hr]; rfl
  clear hr
  go_enter Tryd.func59, Tryd.ntmps59
  go_wp2
  go_ret
  exact ⟨rfl, rfl⟩
set_option maxHeartbeats 400000 in
theorem rKind_3_n_out (n : Int) (w : World) (hr : n % 4 = 3) (hs : n < 0) (h : n < -2147483647) :
    Calls Tryd.prog 59 #[.int .i64 n] w fun e w' => e = .returned (.int .i64 (0)) ∧ w' = w := by
  have e2 : n.tmod 2 = -1 := by rw [tm2 n hs]; split <;> omega
  have e4 : n.tmod 4 = -1 := by rw [tm4 n hs, hr]; rfl
  clear hr
  go_enter Tryd.func59, Tryd.ntmps59
  go_wp2
  go_ret
  exact ⟨rfl, rfl⟩
theorem rKind_any (n : Int) (w : World) :
    Calls Tryd.prog 59 #[.int .i64 n] w fun e w' => e = .returned (.int .i64 (kindOf n)) ∧ w' = w := by
  have h4 : n % 4 = 0 ∨ n % 4 = 1 ∨ n % 4 = 2 ∨ n % 4 = 3 := by omega
  by_cases hs : 0 ≤ n
  · rcases h4 with h4 | h4 | h4 | h4
    · by_cases h : 4 ≤ n ∧ n ≤ 262144
      · rw [(kind3 n).2 ⟨h4, h⟩]; exact rKind_0_p_in n w h4 hs h.1 h.2
      · have e : kindOf n = 0 := by unfold kindOf; (repeat' split) <;> omega
        rw [e]; exact rKind_0_p_out n w h4 hs (by omega)
    · by_cases h : n ≤ 2147483647
      · rw [(kind1 n).2 (by omega)]; exact rKind_1_p_in n w h4 hs (by omega) h
      · have e : kindOf n = 0 := by unfold kindOf; (repeat' split) <;> omega
        rw [e]; exact rKind_1_p_out n w h4 hs (by omega)
    · by_cases h : n ≤ 16382
      · rw [(kind2 n).2 (by omega)]; exact rKind_2_p_in n w h4 hs (by omega) h
      · have e : kindOf n = 0 := by unfold kindOf; (repeat' split) <;> omega
        rw [e]; exact rKind_2_p_out n w h4 hs (by omega)
    · by_cases h : n ≤ 2147483647
      · rw [(kind1 n).2 (by omega)]; exact rKind_3_p_in n w h4 hs (by omega) h
      · have e : kindOf n = 0 := by unfold kindOf; (repeat' split) <;> omega
        rw [e]; exact rKind_3_p_out n w h4 hs (by omega)
  · have hs' : n < 0 := by omega
    rcases h4 with h4 | h4 | h4 | h4
    · have e : kindOf n = 0 := by unfold kindOf; (repeat' split) <;> omega
      rw [e]; exact rKind_0_n_out n w h4 hs' (by omega)
    · by_cases h : -2147483647 ≤ n
      · rw [(kind1 n).2 (by omega)]; exact rKind_1_n_in n w h4 hs' h (by omega)
      · have e : kindOf n = 0 := by unfold kindOf; (repeat' split) <;> omega
        rw [e]; exact rKind_1_n_out n w h4 hs' (by omega)
    · have e : kindOf n = 0 := by unfold kindOf; (repeat' split) <;> omega
      rw [e]; exact rKind_2_n_out n w h4 hs' (by omega)
    · by_cases h : -2147483647 ≤ n
      · rw [(kind1 n).2 (by omega)]; exact rKind_3_n_in n w h4 hs' h (by omega)
      · have e : kindOf n = 0 := by unfold kindOf; (repeat' split) <;> omega
        rw [e]; exact rKind_3_n_out n w h4 hs' (by omega)
/-- may the slot have the word? -/
def mfits (n : Int) (f : Nat) : Bool := if f = 0 then isW n else (decide (f = 1) && decide (0 ≤ n ∧ n < 256))
set_option maxHeartbeats 1000000 in
theorem fits_any (n : Int) (f : Nat) (w : World) :
    Calls Tryd.prog 60 #[.int .i64 n, .int .i64 f] w fun e w' => e = .returned (.bool (mfits n f)) ∧ ∃ n, w' = w.drewN n := by
  have hK := rKind_any n w
  by_cases h0 : f = 0
  · subst h0
    have e : Hid (mfits n 0 = (kindOf n != 0)) := rfl
    rcases kind_cases n with h | h | h | h
    all_goals
      rw [h] at hK e
      clear h
      generalize mfits n 0 = q at *
      go_enter Tryd.func60, Tryd.ntmps60
      go_wp2_with (go_at_call 59; refine hK.mono ?_; rintro e w' ⟨rfl, rfl⟩)
      go_ret
      exact ⟨ret_bool (by rw [e.out]; rfl), 0, rfl⟩
  · have hb : ((f : Int) == 0) = false := by simpa using h0
    by_cases h1 : f = 1
    · subst h1
      have e : Hid (mfits n 1 = decide (0 ≤ n ∧ n < 256)) := by show mfits n 1 = _; unfold mfits; simp
      generalize mfits n 1 = q at *
      clear hK hb h0
      by_cases ha : 0 ≤ n
      · go_enter Tryd.func60, Tryd.ntmps60
        go_wp2
        go_ret
        exact ⟨ret_bool (by rw [e.out]; simp [ha]), 0, rfl⟩
      · have ha' : n < 0 := by omega
        go_enter Tryd.func60, Tryd.ntmps60
        go_wp2
        go_ret
        exact ⟨ret_bool (by rw [e.out]; simp; omega), 0, rfl⟩
    · have e : Hid (mfits n f = false) := by show mfits n f = _; unfold mfits; rw [if_neg h0]; simp [h1]
      have hb1 : ((f : Int) == 1) = false := by simpa using (by omega : ¬ (f : Int) = 1)
      generalize mfits n f = q at *
      clear hK h0 h1
      go_enter Tryd.func60, Tryd.ntmps60
      go_wp2
      go_ret
      exact ⟨ret_bool (by rw [e.out]), 0, rfl⟩
end Go.Proofs.YtdkbnnhcjaibdaaDoor

namespace Go.Proofs.YtdkbnnhcjaibdaaDoor
open Go.RowKit
set_option linter.unusedVariables false
attribute [local go_sem ↓] Go.wp_at_zero Go.wp_at_succ
/-- the heap has the thing under the oop -/
structure Is (H : HS) (oop : Nat) (t : Th) : Prop where
  has : has H oop = true
  room : (H.seats.getD oop (0, 0, 0)).1 + lenN t.slots.length t.fmt ≤ H.mem.length
  cls : H.mem.getD (H.seats.getD oop (0, 0, 0)).1 0 = t.cls
  shape : H.mem.getD ((H.seats.getD oop (0, 0, 0)).1 + 1) 0 = ((2 * t.slots.length + t.fmt : Nat) : Int)
  fmt : t.fmt ≤ 1
  len : t.slots.length ≤ 8192
  word : t.fmt = 0 → ∀ i, i < t.slots.length → H.mem.getD ((H.seats.getD oop (0, 0, 0)).1 + 2 + i) 0 = t.slots.getD i 0
  byte : t.fmt = 1 → ∀ i, i < t.slots.length → ∃ old : Nat, H.mem.getD ((H.seats.getD oop (0, 0, 0)).1 + 2 + i / 4) 0 = (old : Int) ∧ (old : Int) ≤ 4294967295 ∧ t.slots.getD i 0 = ((getB old (i % 4) : Nat) : Int)
theorem lenN_byte (n i : Nat) (h : i < n) : 2 + i / 4 < lenN n 1 := by unfold lenN; rw [if_pos rfl]; omega
theorem lenN_word (n i f : Nat) (hf : f = 0) (h : i < n) : 2 + i < lenN n f := by unfold lenN; rw [if_neg (by omega)]; omega
theorem lenN_two (n f : Nat) : 2 ≤ lenN n f := by unfold lenN; split <;> omega
theorem Is.at {H : HS} {oop : Nat} {t : Th} (hi : Is H oop t) (i : Nat) (hin : i < t.slots.length) (a : Nat) (l : Lay) (hb : (H.mem.length : Int) ≤ 1048576) (w : World) (h : Rep w a l H) :
    Calls Tryd.prog 53 #[.pointer (some ⟨a, 0, none⟩), .int .i64 oop, .int .i64 i] w fun e w' => e = .returned (.tuple #[.int .i64 (t.slots.getD i 0), .int .i64 0]) ∧ Fr [] w w' := by
  obtain ⟨h1, h2, h3⟩ := has_yes hi.has
  have hr := hi.room
  have hl := hi.len
  have h2' := lenN_two t.slots.length t.fmt
  refine At_ok oop i t.slots.length t.fmt (t.slots.getD i 0) a l H w h hb h1 h2 h3 (by omega) hi.shape (by have := hi.fmt; omega) (by omega) (by omega) ?_
  intro W hW
  rcases (show t.fmt = 0 ∨ t.fmt = 1 from by have := hi.fmt; omega) with hf | hf
  · have := lenN_word t.slots.length i t.fmt hf hin
    rw [hf, ← hi.word hf i hin]
    exact slot_w _ i a l H W hW (by omega) hb
  · obtain ⟨old, o1, o2, o3⟩ := hi.byte hf i hin
    have := lenN_byte t.slots.length i hin
    rw [← hf] at this
    rw [hf, o3]
    exact getB_any _ i old a l H W hW (by omega) hb o1 (by omega)
def thv (t : Th) : Value := .agg #[.bool t.there, .int .i64 t.cls, .int .i64 t.fmt, .int .i64 t.place, .slice t.p t.slots.length t.c]
set_option maxRecDepth 20000 in
set_option maxHeartbeats 4000000 in
theorem same_ok (oop : Nat) (t : Th) (a : Nat) (l : Lay) (H : HS) (w : World) (h : Rep w a l H) (hi : Is H oop t) (hb : (H.mem.length : Int) ≤ 1048576)
    (hs : w.ownsRow 0 35 1 (.slice t.p t.slots.length t.c) t.slots.length (t.slots.map (Value.int .i64))) :
    Calls Tryd.prog 77 #[thv t, .pointer (some ⟨a, 0, none⟩), .int .i64 oop] w fun e w' => e = .returned (.bool true) ∧ Fr [] w w' := by
  have hr := hi.room
  have hl := hi.len
  have h2' := lenN_two t.slots.length t.fmt
  have HC : Hid (∀ W, Rep W a l H → Calls Tryd.prog 76 #[.pointer (some ⟨a, 0, none⟩), .int .i64 oop] W fun e w' => e = .returned (.tuple #[.int .i64 t.cls, .int .i64 0]) ∧ Fr [] W w') := by
    intro W hW
    rw [← hi.cls]
    exact Class_ok oop a l H W hW hi.has (by omega) hb
  have HZ : Hid (∀ W, Rep W a l H → Calls Tryd.prog 82 #[.pointer (some ⟨a, 0, none⟩), .int .i64 oop] W fun e w' => e = .returned (.tuple #[.int .i64 t.slots.length, .int .i64 t.fmt, .int .i64 0]) ∧ Fr [] W w') := by
    intro W hW
    exact Size_ok oop t.slots.length t.fmt a l H W hW hi.has hb (by omega) hi.shape (by have := hi.fmt; omega)
  have HA : Hid (∀ W, Rep W a l H → ∀ i, i < t.slots.length → Calls Tryd.prog 53 #[.pointer (some ⟨a, 0, none⟩), .int .i64 oop, .int .i64 i] W fun e w' => e = .returned (.tuple #[.int .i64 (t.slots.getD i 0), .int .i64 0]) ∧ Fr [] W w') :=
    fun W hW i hin => hi.at i hin a l hb W hW
  have HO : Hid (∀ W, Rep W a l H → Calls Tryd.prog 53 #[.pointer (some ⟨a, 0, none⟩), .int .i64 oop, .int .i64 t.slots.length] W fun e w' => e = .returned (.tuple #[.int .i64 0, .int .i64 21]) ∧ Fr [] W w') :=
    fun W hW => At_slot oop t.slots.length t.fmt t.slots.length a l H W hW hi.has hb (by omega) hi.shape (by have := hi.fmt; omega) (.inr (by omega))
  have HCell : Hid (∀ i, i < t.slots.length → ∃ g, t.p = some ⟨g, 0, none⟩ ∧ g < w.heap.size ∧ w.cell? ⟨g, i, none⟩ = some (.int .i64 (t.slots.getD i 0))) := by
    intro i hin
    obtain ⟨g, c, hv, _, hgl⟩ := hs.form (by omega)
    injection hv with hv1 hv2 hv3
    refine ⟨g, hv1, hgl, ?_⟩
    have hs' := hs
    rw [hv1] at hs'
    rw [hs'.cellAt i (by omega), List.getElem?_map, List.getD_eq_getElem?_getD, List.getElem?_eq_getElem hin]
    rfl
  have HR := mkHid h
  clear h hi hs hr h2'
  obtain ⟨th, cl, fm, pl, sl, tp, tc⟩ := t
  dsimp only [thv] at *
  go_enter Tryd.func77, Tryd.ntmps77
  go_wp2_with fail
  refine Calls.mono (HC.out _ (HR.out.alloc _)) ?_
  rintro e w1 ⟨rfl, hf1⟩
  have F1 := mkHid ((Fr.alloc [] w (.cells #[.bool th, .int .i64 cl, .int .i64 fm, .int .i64 pl, .slice tp sl.length tc] 116)).trans hf1 (by simp))
  have b1 := (hf1.block w.heap.size (by simp) (by simp)).trans (heap_alloc_new w _)
  clear hf1
  go_wp2_with fail
  refine Calls.mono (HZ.out _ (HR.out.keep F1.out (by simp))) ?_
  rintro e w2 ⟨rfl, hf2⟩
  have s1 := F1.out.size
  have b2 := (hf2.block w.heap.size (lt_of_heap b1) (by simp)).trans b1
  have F2 := mkHid (F1.out.trans hf2 (by simp))
  have d1 := cell_in b2 1
  have d2 := cell_in b2 2
  have d4 := cell_in b2 4
  have B2 := mkHid b2
  simp at d1 d2 d4
  clear b1 b2 hf2 F1
  go_wp2_with (go_at_call 11; refine (num_any _ _ (by omega) (by omega)).mono ?_; rintro e w1 ⟨rfl, hw1⟩; rw [hw1]; clear hw1 w1)
  go_loopw [12] (fun q wr => ∃ k : Nat, k ≤ sl.length ∧ q = .int .i64 k ∧ Hid (Fr [] w wr ∧ wr.heap[w.heap.size]? = some (.cells #[.bool th, .int .i64 cl, .int .i64 fm, .int .i64 pl, .slice tp sl.length tc] 116 (0, 0)))) (fun q _ => sl.length - (intOf q).toNat)
  case atStart => exact ⟨0, Nat.zero_le _, rfl, F2.out, B2.out⟩
  case round =>
    clear d1 d2 d4
    obtain ⟨k, hkn, rfl, hq⟩ := hrel
    by_cases hlt : k < sl.length
    · have k1 : (0 : Int) ≤ (k : Int) := by omega
      have k2 : (k : Int) < (sl.length : Int) := by omega
      go_wp2_with fail
      refine Calls.mono (HA.out _ (HR.out.keep hq.out.1 (by simp)) k hlt) ?_
      rintro e w3 ⟨rfl, hf3⟩
      obtain ⟨g, hg, hgl, hcg⟩ := HCell.out k hlt
      have F3 := mkHid (hq.out.1.trans hf3 (by simp))
      have cg := (F3.out.cell (p := ⟨g, k, none⟩) hgl (by simp)).trans hcg
      have B3 := mkHid ((hf3.block w.heap.size (lt_of_heap hq.out.2) (by simp)).trans hq.out.2)
      have d4 := cell_in B3.out 4
      simp at d4
      rw [hg] at d4
      clear hf3 hq hcg hg
      generalize sl.getD k 0 = v at *
      go_wp2_with (go_at_call 11; refine (num_any _ _ (by omega) (by omega)).mono ?_; rintro e w1 ⟨rfl, hw1⟩; rw [hw1]; clear hw1 w1)
      go_roundw
      case rel => exact ⟨k + 1, by omega, by go_num, F3.out, B3.out⟩
      case measure => simp [intOf]; omega
    · have hke : k = sl.length := by omega
      subst hke
      go_wp2_with fail
      refine Calls.mono (HO.out _ (HR.out.keep hq.out.1 (by simp))) ?_
      rintro e w3 ⟨rfl, hf3⟩
      have F3 := mkHid (hq.out.1.trans hf3 (by simp))
      clear hf3 hq
      go_wp2_with (go_at_call 11; refine (num_any _ _ (by omega) (by omega)).mono ?_; rintro e w1 ⟨rfl, hw1⟩; rw [hw1]; clear hw1 w1)
      go_ret
      exact ⟨rfl, F3.out⟩
end Go.Proofs.YtdkbnnhcjaibdaaDoor

