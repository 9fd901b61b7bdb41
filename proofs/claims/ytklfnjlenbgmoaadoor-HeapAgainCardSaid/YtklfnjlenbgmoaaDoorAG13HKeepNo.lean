import Derived.Test.YtklfnjlenbgmoaaDoorAG12HFree
namespace Go.Proofs.YtklfnjlenbgmoaaDoor
open Go.RowKit
set_option linter.unusedVariables false
attribute [local go_sem ↓] Go.wp_at_zero Go.wp_at_succ
def allTo (H : HS) (k : Nat) : List Nat := (List.range k).filter fun o => 0 < (H.seats.getD o (0, 0, 0)).2.1
theorem allTo_succ (H : HS) (k : Nat) : allTo H (k + 1) = allTo H k ++ (if 0 < (H.seats.getD k (0, 0, 0)).2.1 then [k] else []) := by
  unfold allTo
  rw [List.range_succ, List.filter_append]
  congr 1
  by_cases h : 0 < (H.seats.getD k (0, 0, 0)).2.1
  · rw [if_pos h, List.filter_cons_of_pos (by simpa using h)]; rfl
  · rw [if_neg h, List.filter_cons_of_neg (by simpa using h)]; rfl
theorem allTo_len (H : HS) (k : Nat) : (allTo H k).length ≤ k := by
  have := List.length_filter_le (fun o => decide (0 < (H.seats.getD o (0, 0, 0)).2.1)) (List.range k)
  unfold allTo
  rwa [List.length_range] at this
set_option maxRecDepth 20000 in
set_option maxHeartbeats 2000000 in
theorem All_ok (a : Nat) (l : Lay) (H : HS) (w : World) (h : Rep w a l H) (hs : (H.seats.length : Int) ≤ 65538) :
    Calls Tryd.prog 35 #[.pointer (some ⟨a, 0, none⟩)] w fun e w' => ∃ v, e = .returned v ∧ w'.ownsRow w.heap.size 3 1 v (allTo H H.seats.length).length ((allTo H H.seats.length).map I) ∧ Fr [] w w' := by
  have c0 := h.c0
  have c5 := h.c5
  have hal := h.lt a (by simp [foot])
  obtain ⟨j0, ji, jz0, jz1, jz2⟩ := info_parts info3
  have HR := mkHid h
  clear h
  go_enter Tryd.func35, Tryd.ntmps35
  go_wp2_with (go_at_call 44; refine (made_any _ _ c0).mono ?_; rintro e w1 ⟨rfl, hw1⟩; rw [hw1]; clear hw1 w1)
  go_loopw [3, 14] (fun v q wr => ∃ k : Nat, k ≤ H.seats.length ∧ q = .int .i64 k ∧ wr.ownsRow w.heap.size 3 1 v (allTo H k).length ((allTo H k).map I) ∧ Hid (Fr [] w wr)) (fun _ q _ => H.seats.length - (intOf q).toNat)
  case atStart => exact ⟨0, Nat.zero_le _, rfl, World.ownsRow_nil _ _ _ _, Fr.refl _ _⟩
  case round =>
    obtain ⟨k, hkn, rfl, hown, hfr⟩ := hrel
    by_cases hlt : k < H.seats.length
    · have hr := HR.out.keep hfr.out (by simp)
      obtain ⟨gs, hgs, hcs, hfs, hgsa, hgsl⟩ := hr.seatAt k hlt
      obtain ⟨q0, q1, q2⟩ := hcs k hlt
      simp only [I] at q0 q1 q2
      have hsu := allTo_succ H k
      have hle := allTo_len H k
      rw [hgs]
      have k1 : (0 : Int) ≤ (k : Int) := by omega
      have k2 : (k : Int) < (H.seats.length : Int) := by omega
      have hz := hfr.out.size
      clear hr hcs hfs c5 c0 hgs
      generalize (H.seats.getD k (0, 0, 0)).1 = y0 at *
      generalize (H.seats.getD k (0, 0, 0)).2.1 = y1 at *
      generalize (H.seats.getD k (0, 0, 0)).2.2 = y2 at *
      have HSU := mkHid hsu
      clear hsu
      generalize hX : allTo H k = X at *
      clear hX
      by_cases hy : 0 < y1
      · have hy' : (0 : Int) < (y1 : Int) := by omega
        have HS2 := HSU.out
        rw [if_pos hy] at HS2
        have HS3 := mkHid HS2
        clear HS2 HSU hy
        have hown2 := (hown.alloc (.cells #[.int .i64 (y0 : Int), .int .i64 (y1 : Int), .int .i64 (y2 : Int)] 103)).alloc (.cells #[.int .i64 (k : Int)] 3)
        have HFA : Hid (Fr [] w ((wr.alloc (.cells #[.int .i64 (y0 : Int), .int .i64 (y1 : Int), .int .i64 (y2 : Int)] 103)).alloc (.cells #[.int .i64 (k : Int)] 3))) := (hfr.out.trans (Fr.alloc [] _ _) (by simp)).trans (Fr.alloc [] _ _) (by simp)
        clear hown
        go_wp2_with (first
          | (at_builtin; refine wpList_append_own _ rfl (.tmp 22) (.tmp 24) 22 rfl w.heap.size 3 j0 (.int .i64 0) 1 8 Tryd.underlying22 ji jz0 jz1 jz2 rfl (by decide) _ _ _ rfl hown2 ⟨wr.heap.size + 1, 0, none⟩ 1 1 [.int .i64 (k : Int)] rfl rfl ?c1 ?c2 ?c3 ?c4 ?c5 ?_)
          | go_in)
        case c1 =>
          have := World.news_of_block (heap_alloc_new (wr.alloc (.cells #[.int .i64 (y0 : Int), .int .i64 (y1 : Int), .int .i64 (y2 : Int)] 103)) (.cells #[.int .i64 (k : Int)] 3))
          simpa using this
        case c2 => intro u hu; simp at hu; subst hu; rfl
        case c3 => unfold maxLen; omega
        case c4 => omega
        case c5 => simp; omega
        intro v' w1 hown' hgrow _
        have HG : Hid (Fr [] w w1) := by
          refine ⟨hgrow.os.trans HFA.out.os, hgrow.tape.trans HFA.out.tape, hgrow.output.trans HFA.out.output, Nat.le_trans HFA.out.size hgrow.size, fun i hi hn => ?_⟩
          rw [hgrow.block i (Nat.lt_of_lt_of_le hi HFA.out.size) (fun e => ?_)]
          · exact HFA.out.block i hi hn
          · have := (hown2.lt i e.symm).1
            omega
        have HO := mkHid hown'
        clear hown' hgrow hown2 HFA
        go_wp2
        go_roundw
        case rel => exact ⟨k + 1, by omega, by go_num, by rw [HS3.out]; simpa [I] using HO.out, HG⟩
        case measure => simp [intOf]; omega
      · have hy' : (y1 : Int) ≤ 0 := by omega
        have HS2 := HSU.out
        rw [if_neg hy, List.append_nil] at HS2
        have HS3 := mkHid HS2
        have HO := mkHid (hown.alloc (.cells #[.int .i64 (y0 : Int), .int .i64 (y1 : Int), .int .i64 (y2 : Int)] 103))
        have HFA : Hid (Fr [] w (wr.alloc (.cells #[.int .i64 (y0 : Int), .int .i64 (y1 : Int), .int .i64 (y2 : Int)] 103))) := hfr.out.trans (Fr.alloc [] _ _) (by simp)
        clear HS2 HSU hy hown
        go_wp2
        go_roundw
        case rel => exact ⟨k + 1, by omega, by go_num, by rw [HS3.out]; exact HO.out, HFA⟩
        case measure => simp [intOf]; omega
    · have hke : k = H.seats.length := by omega
      subst hke
      have HO := mkHid hown
      clear hown c5 c0
      go_wp2
      go_ret
      exact ⟨_, rfl, HO.out, hfr.out⟩
end Go.Proofs.YtklfnjlenbgmoaaDoor
namespace Go.Proofs.YtklfnjlenbgmoaaDoor
open Go.RowKit
set_option linter.unusedVariables false
attribute [local go_sem ↓] Go.wp_at_zero Go.wp_at_succ
set_option maxRecDepth 20000 in
set_option maxHeartbeats 4000000 in
theorem Exchange_same (i : Nat) (a : Nat) (l : Lay) (H : HS) (w : World) (h : Rep w a l H) (h1 : (1 : Int) ≤ i) (h2 : (i : Int) < H.seats.length) (h3 : (H.seats.getD i (0, 0, 0)).2.1 ≠ 0) (t1 : (H.seats.getD i (0, 0, 0)).2.2 < H.order.length) (hsl : (H.seats.length : Int) ≤ 65538) (hol : (H.order.length : Int) ≤ 1048576) (hage : (H.age : Int) ≤ 1000000000) :
    Calls Tryd.prog 46 #[.pointer (some ⟨a, 0, none⟩), .int .i64 i, .int .i64 i] w fun e w' => e = .returned (.int .i64 0) ∧ Rep w' a l (exchH H i i) ∧ Nx a l l w w' := by
  have hal := h.lt a (by simp [foot])
  have HS1 := mkHid (fun W (hW : Rep W a l H) => seatOf_yes i a l H W hW h1 h2 h3)
  have HS2 := mkHid (fun W (hW : Rep W a l H) => seatOf_yes i a l H W hW h1 h2 h3)
  have HR := mkHid h
  have HEX : Hid (exchH H i i = { H with seats := (H.seats.set i (H.seats.getD i (0, 0, 0))).set i (H.seats.getD i (0, 0, 0)), order := (H.order.set (H.seats.getD i (0, 0, 0)).2.2 i).set (H.seats.getD i (0, 0, 0)).2.2 i, age := H.age + 1 }) := rfl
  generalize exchH H i i = HX at *
  clear h h3
  obtain ⟨⟨x0, x1, x2⟩, hx⟩ : ∃ s, s = H.seats.getD i (0, 0, 0) := ⟨_, rfl⟩
  rw [← hx] at HS1 HS2 t1 HEX
  dsimp only [sv, I] at HS1 HS2 t1 HEX
  clear hx
  go_enter Tryd.func46, Tryd.ntmps46
  go_wp2_with fail
  refine Calls.mono (HS1.out _ HR.out) ?_
  rintro e w1 ⟨rfl, hf1⟩
  have hz1 := hf1.size
  have HF1 := mkHid hf1
  clear hf1
  go_wp2_with fail
  have F2 : Fr [] w (w1.alloc (.cells #[.int .i64 (x0 : Int), .int .i64 (x1 : Int), .int .i64 (x2 : Int)] 103)) := HF1.out.trans (Fr.alloc [] _ _) (by simp)
  refine Calls.mono (HS2.out _ (HR.out.keep F2 (by simp))) ?_
  rintro e w2 ⟨rfl, hf2⟩
  have z2 := hf2.size
  have s0 := hf2.cell (p := ⟨w1.heap.size, 0, none⟩) (by simp) (by simp)
  have s1 := hf2.cell (p := ⟨w1.heap.size, 1, none⟩) (by simp) (by simp)
  have s2 := hf2.cell (p := ⟨w1.heap.size, 2, none⟩) (by simp) (by simp)
  simp only [World.cell?_alloc_new, List.getElem?_toArray, List.getElem?_cons_succ, List.getElem?_cons_zero, World.size_alloc] at s0 s1 s2 z2
  have F3 := F2.trans hf2 (by simp)
  have HW0 := mkHid ((hf2.block w1.heap.size (by simp) (by simp)).trans (heap_alloc_new w1 _))
  have hr2 := HR.out.keep F3 (by simp)
  clear hf2 F2 HS1 HS2
  obtain ⟨gs, hgs, hcs, hfs, hgsa, hgsl⟩ := HR.out.seatAt i (by omega)
  obtain ⟨p0, p1, p2⟩ := hcs i (by omega)
  obtain ⟨q0, q1, q2⟩ := hcs i (by omega)
  have c5 := hr2.c5
  rw [hgs] at c5
  have cc : ∀ o, w2.cell? ⟨gs, o, none⟩ = w.cell? ⟨gs, o, none⟩ := fun o => F3.cell (p := ⟨gs, o, none⟩) hgsl (by simp)
  have ff : ∀ o, w2.frozen? ⟨gs, o, none⟩ = false := fun o => (F3.frozen (p := ⟨gs, o, none⟩) hgsl (by simp)).trans (hfs o)
  obtain ⟨o3, ho3⟩ : ∃ o3, o3 = Obj.cells #[.int .i64 (x0 : Int), .int .i64 (x1 : Int), .int .i64 (x2 : Int)] 103 := ⟨_, rfl⟩
  have P0 := ((World.cell?_alloc_lt w2 o3 ⟨gs, i * 3, none⟩ (by show gs < _; omega)).trans (cc _)).trans p0
  have P1 := ((World.cell?_alloc_lt w2 o3 ⟨gs, i * 3 + 1, none⟩ (by show gs < _; omega)).trans (cc _)).trans p1
  have P2 := ((World.cell?_alloc_lt w2 o3 ⟨gs, i * 3 + 2, none⟩ (by show gs < _; omega)).trans (cc _)).trans p2
  have Q0 := ((World.cell?_alloc_lt w2 o3 ⟨gs, i * 3, none⟩ (by show gs < _; omega)).trans (cc _)).trans q0
  have Q1 := ((World.cell?_alloc_lt w2 o3 ⟨gs, i * 3 + 1, none⟩ (by show gs < _; omega)).trans (cc _)).trans q1
  have Q2 := ((World.cell?_alloc_lt w2 o3 ⟨gs, i * 3 + 2, none⟩ (by show gs < _; omega)).trans (cc _)).trans q2
  simp only [I] at P0 P1 P2 Q0 Q1 Q2
  have fo : ∀ o, (w2.alloc o3).frozen? ⟨gs, o, none⟩ = false := fun o => (World.frozen?_alloc_old w2 o3 ⟨gs, o, none⟩ (by show gs ≠ _; omega)).trans (ff o)
  have e0 := fo (i * 3)
  have e1 := fo (i * 3 + 1)
  have e2 := fo (i * 3 + 2)
  have g0 := fo (i * 3)
  have g1 := fo (i * 3 + 1)
  have g2 := fo (i * 3 + 2)
  have C5 := (World.cell?_alloc_lt w2 o3 ⟨a, 5, none⟩ (by show a < _; omega)).trans c5
  have S0 := (World.cell?_alloc_lt w2 o3 ⟨w1.heap.size, 0, none⟩ (by show w1.heap.size < _; omega)).trans s0
  have S1 := (World.cell?_alloc_lt w2 o3 ⟨w1.heap.size, 1, none⟩ (by show w1.heap.size < _; omega)).trans s1
  have S2 := (World.cell?_alloc_lt w2 o3 ⟨w1.heap.size, 2, none⟩ (by show w1.heap.size < _; omega)).trans s2
  have hn3 := heap_alloc_new w2 o3
  rw [ho3] at hn3
  have T0 := cell_in hn3 0
  have T1 := cell_in hn3 1
  have T2 := cell_in hn3 2
  rw [← ho3] at T0 T1 T2
  simp only [List.getElem?_toArray, List.getElem?_cons_succ, List.getElem?_cons_zero] at T0 T1 T2
  have HF3 := mkHid (F3.trans (Fr.alloc [] w2 o3) (by simp))
  have hzz : (w2.alloc o3).heap.size = w2.heap.size + 1 := by simp
  have HB1 : Hid ((w2.alloc o3).heap[w1.heap.size]? = w2.heap[w1.heap.size]? ∧ (w2.alloc o3).heap[w2.heap.size]? = some (.cells #[.int .i64 (x0 : Int), .int .i64 (x1 : Int), .int .i64 (x2 : Int)] 103 (0, 0))) := ⟨Below.heap_alloc _ _ _ (by omega), by rw [ho3]; exact heap_alloc_new _ _⟩
  have HW1 : Hid (w2.heap[w1.heap.size]? = some (.cells #[.int .i64 (x0 : Int), .int .i64 (x1 : Int), .int .i64 (x2 : Int)] 103 (0, 0))) := HW0.out
  clear hcs hfs p0 p1 p2 q0 q1 q2 cc ff fo hn3 F3 hr2 s0 s1 s2 c5
  go_wp2
  rw [← ho3]
  clear ho3
  generalize w2.alloc o3 = w3 at *
  generalize (H.seats.getD i (0, 0, 0)).1 = ow0 at *
  generalize (H.seats.getD i (0, 0, 0)).2.1 = ox1 at *
  generalize (H.seats.getD i (0, 0, 0)).2.2 = ox2 at *
  have m1 : (0 : Int) ≤ (i : Int) := by omega
  have m2 : (0 : Int) ≤ (i : Int) := by omega
  have d1 : gs ≠ w1.heap.size := by omega
  have d2 : gs ≠ w2.heap.size := by omega
  have d3 : w1.heap.size ≠ w2.heap.size := by omega
  have HZZ := mkHid hzz
  clear hzz
  have HE1 : Hid (∀ W, Eqw ((((((w3.setCell ⟨gs, i * 3, none⟩ (.int .i64 (x0 : Int))).setCell ⟨gs, i * 3 + 1, none⟩ (.int .i64 (x1 : Int))).setCell ⟨gs, i * 3 + 2, none⟩ (.int .i64 (x2 : Int))).setCell ⟨gs, i * 3, none⟩ (.int .i64 (x0 : Int))).setCell ⟨gs, i * 3 + 1, none⟩ (.int .i64 (x1 : Int))).setCell ⟨gs, i * 3 + 2, none⟩ (.int .i64 (x2 : Int))) W → Rep W a l { H with seats := (H.seats.set i (x0, x1, x2)).set i (x0, x1, x2) } ∧ Nx a l l w W ∧ W.heap[w1.heap.size]? = w2.heap[w1.heap.size]? ∧ W.heap[w2.heap.size]? = some (.cells #[.int .i64 (x0 : Int), .int .i64 (x1 : Int), .int .i64 (x2 : Int)] 103 (0, 0))) := by
    intro W he
    have K := exch_seats (HR.out.keep HF3.out (by simp)) hgs i i (by omega) (by omega) (x0, x1, x2) (x0, x1, x2) W he
    exact ⟨K.1, (Nx.frw (HF3.out.mono (by simp)) : Nx a l l w w3).trans K.2.1, (K.2.2 _ (Ne.symm d1)).trans HB1.out.1, (K.2.2 _ (Ne.symm d2)).trans HB1.out.2⟩
  go_cut [] (fun W => Hid (Rep W a l { H with seats := (H.seats.set i (x0, x1, x2)).set i (x0, x1, x2) } ∧ Nx a l l w W ∧ W.heap[w1.heap.size]? = w2.heap[w1.heap.size]? ∧ W.heap[w2.heap.size]? = some (.cells #[.int .i64 (x0 : Int), .int .i64 (x1 : Int), .int .i64 (x2 : Int)] 103 (0, 0))))
  case first =>
    go_region_held3 (fun w' => w'.cell? ⟨a, 5, none⟩ = some (.slice (some ⟨gs, 0, none⟩) H.seats.length l.cs) ∧ w'.cell? ⟨w1.heap.size, 0, none⟩ = some (.int .i64 (x0 : Int)) ∧ w'.cell? ⟨w1.heap.size, 1, none⟩ = some (.int .i64 (x1 : Int)) ∧ w'.cell? ⟨w1.heap.size, 2, none⟩ = some (.int .i64 (x2 : Int)) ∧ w'.cell? ⟨w2.heap.size, 0, none⟩ = some (.int .i64 (x0 : Int)) ∧ w'.cell? ⟨w2.heap.size, 1, none⟩ = some (.int .i64 (x1 : Int)) ∧ w'.cell? ⟨w2.heap.size, 2, none⟩ = some (.int .i64 (x2 : Int))) (go_keep) (fail)
    all_goals go_wp2
    all_goals
      go_meet
      case rel =>
        refine mkHid (HE1.out _ ?_)
        exact eqw_drew _
  case rest =>
    obtain ⟨w4, hw4⟩ : ∃ w4, w4 = wc := ⟨_, rfl⟩
    subst hw4
    obtain ⟨hr4, hx4, hb4, hb5⟩ := hcut.out
    clear hcut P0 P1 P2 Q0 Q1 Q2 e0 e1 e2 g0 g1 g2 C5 T0 T1 T2
    have hz4 : w4.heap[w1.heap.size]? = some (.cells #[.int .i64 (x0 : Int), .int .i64 (x1 : Int), .int .i64 (x2 : Int)] 103 (0, 0)) := by rw [hb4]; exact HW1.out
    have s0 := cell_in hz4 0
    have s2 := cell_in hz4 2
    have u2 := cell_in hb5 2
    simp only [List.getElem?_toArray, List.getElem?_cons_succ, List.getElem?_cons_zero] at s0 s2 u2
    obtain ⟨go, hgo, hco, hfo, hgoa, hgol⟩ := hr4.orderAt x2 (by dsimp only; omega)
    have c6 := hr4.c6
    have c10 := hr4.c10
    have f10 := hr4.frozen 10
    rw [hgo] at c6
    have o1 := hco x2 (by dsimp only; omega)
    have o2 := hco x2 (by dsimp only; omega)
    have p1 := hfo x2
    have p2 := hfo x2
    dsimp only at c6 c10 o1 o2
    generalize H.order.getD x2 0 = ov1 at *
    generalize H.order.getD x2 0 = ov2 at *
    have hgn1 : go ≠ w1.heap.size := by
      intro e
      obtain ⟨cur, hcur⟩ := own_blk hr4.order go (by rw [hgo]; simp [blk])
      rw [e, hz4] at hcur
      simp at hcur
    have hgn2 : go ≠ w2.heap.size := by
      intro e
      obtain ⟨cur, hcur⟩ := own_blk hr4.order go (by rw [hgo]; simp [blk])
      rw [e, hb5] at hcur
      simp at hcur
    have HE : Hid (∀ W, Eqw (((w4.setCell ⟨go, x2, none⟩ (.int .i64 (i : Int))).setCell ⟨go, x2, none⟩ (.int .i64 (i : Int))).setCell ⟨a, 10, none⟩ (.int .i64 ((H.age : Int) + 1))) W → Rep W a l HX ∧ Nx a l l w W) := by
      intro W he
      have K := exch_order (H' := HX) hr4 hgo x2 x2 i i HEX.out W he
      exact ⟨K.1, hx4.trans K.2⟩
    have a1 : (0 : Int) ≤ (x2 : Int) := by omega
    have a2 : (0 : Int) ≤ (x2 : Int) := by omega
    have a3 : (x2 : Int) < (H.order.length : Int) := by omega
    have a4 : (x2 : Int) < (H.order.length : Int) := by omega
    clear hr4 hx4 hb4 hb5 hz4 hco hfo hgo HEX HR HF3 HB1
    go_wp2
    go_region_held3 (fun w' => w'.cell? ⟨a, 6, none⟩ = some (.slice (some ⟨go, 0, none⟩) H.order.length l.co) ∧ w'.cell? ⟨w1.heap.size, 2, none⟩ = some (.int .i64 (x2 : Int)) ∧ w'.cell? ⟨w2.heap.size, 2, none⟩ = some (.int .i64 (x2 : Int))) (go_keep) (fail)
    all_goals go_wp2
    all_goals
      go_ret
      exact ⟨rfl, HE.out _ ⟨rfl, rfl, rfl, rfl⟩⟩
end Go.Proofs.YtklfnjlenbgmoaaDoor
namespace Go.Proofs.YtklfnjlenbgmoaaDoor
open Go.RowKit
set_option linter.unusedVariables false
attribute [local go_sem ↓] Go.wp_at_zero Go.wp_at_succ
set_option maxRecDepth 20000 in
set_option maxHeartbeats 2000000 in
theorem Keep_no (zs : List Int) (j0 : Nat) (b off c : Nat) (a : Nat) (l : Lay) (H : HS) (w : World) (h : Rep w a l H) (hj0 : j0 < zs.length) (hpre : ∀ j, j < j0 → has H (zs.getD j 0) = true) (hbad : has H (zs.getD j0 0) = false)
    (ht1 : H.seats.length ≤ 65538) (hb : b < w.heap.size) (hbn : b ∉ foot a l) (hin : ∀ j, j < zs.length → w.cell? ⟨b, off + j, none⟩ = some (.int .i64 (zs.getD j 0))) (hkl : (zs.length : Int) ≤ 9223372036854775807) :
    Calls Tryd.prog 34 #[.pointer (some ⟨a, 0, none⟩), .slice (some ⟨b, off, none⟩) zs.length c] w fun e w' => e = .returned (.tuple #[.int .i64 0, .int .i64 0, .int .i64 20]) ∧ Rep w' a l H ∧ Nx a l l w w' := by
  have hal := h.lt a (by simp [foot])
  have c0 := h.c0
  have c5 := h.c5
  have hmk := make_bools H.seats.length (by omega)
  have HR := mkHid h
  have HIN := mkHid hin
  have HP := mkHid hpre
  have HBad := mkHid hbad
  clear h hin hpre hbad
  go_enter Tryd.func34, Tryd.ntmps34
  go_wp2_with (go_at_call 44; refine (made_any _ _ c0).mono ?_; rintro e w1 ⟨rfl, hw1⟩; rw [hw1]; clear hw1 w1)
  go_loopw [27] (fun q wr => ∃ k : Nat, k ≤ j0 ∧ q = .int .i64 k ∧ Hid (Rep wr a l H ∧ Nx a l l w wr ∧ ∃ C, C.size = H.seats.length ∧ wr.heap[w.heap.size]? = some (.cells C 4 (0, 0)))) (fun q _ => zs.length - (intOf q).toNat)
  case atStart => exact ⟨0, Nat.zero_le _, rfl, HR.out.alloc _, Nx.frw (Fr.alloc _ _ _), _, by simp [keptL_len], heap_alloc_new _ _⟩
  case round =>
    obtain ⟨k, hkn, rfl, hq⟩ := hrel
    obtain ⟨hr, hx, C, hCs, hkb⟩ := hq.out
    clear hq
    have hin := (hx.1.cell (p := ⟨b, off + k, none⟩) hb hbn).trans (HIN.out k (by omega))
    have k1 : (0 : Int) ≤ (k : Int) := by omega
    have k2 : (k : Int) < (zs.length : Int) := by omega
    by_cases hlt : k < j0
    · have hp := HP.out k hlt
      obtain ⟨j, hj⟩ : ∃ j : Nat, zs.getD k 0 = (j : Int) := by
        have h1 := of_decide_eq_true hp
        exact ⟨(zs.getD k 0).toNat, by omega⟩
      rw [hj] at hin hp
      obtain ⟨j1, j2, j3⟩ := has_yes hp
      have HSO := mkHid (seatOf_yes j a l H wr hr j1 j2 j3)
      obtain ⟨⟨p, L, t⟩, hs⟩ : ∃ s, s = H.seats.getD j (0, 0, 0) := ⟨_, rfl⟩
      rw [← hs] at HSO
      dsimp only [sv, I] at HSO
      have k3 : (0 : Int) ≤ (j : Int) := by omega
      have k4 : (j : Int) < (H.seats.length : Int) := by omega
      have hkl2 := lt_of_heap hkb
      have HRr := mkHid hr
      have HXr := mkHid hx
      have HKB := mkHid hkb
      have HCs := mkHid hCs
      clear hr hx hkb hs j3 hj hp hCs
      go_wp2_with fail
      refine Calls.mono HSO.out ?_
      rintro e w1 ⟨rfl, hf1⟩
      have z1 := hf1.size
      have hkb2 := (Below.heap_alloc w1 (.cells #[.int .i64 (p : Int), .int .i64 (L : Int), .int .i64 (t : Int)] 103) w.heap.size (by omega)).trans ((hf1.block _ hkl2 (by simp)).trans HKB.out)
      have cl := cell_in hkb2 j
      have fl := frozen_in hkb2 j
      rw [Array.getElem?_eq_getElem (by rw [HCs.out]; omega)] at cl
      have HE : Hid (∀ W, Eqw ((w1.alloc (.cells #[.int .i64 (p : Int), .int .i64 (L : Int), .int .i64 (t : Int)] 103)).setCell ⟨w.heap.size, j, none⟩ (.bool true)) W → Rep W a l H ∧ Nx a l l w W ∧ ∃ C, C.size = H.seats.length ∧ W.heap[w.heap.size]? = some (.cells C 4 (0, 0))) := by
        intro W he
        have F1 : Fr [] wr (w1.alloc (.cells #[.int .i64 (p : Int), .int .i64 (L : Int), .int .i64 (t : Int)] 103)) := hf1.trans (Fr.alloc [] _ _) (by simp)
        have hr1 := HRr.out.keep F1 (by simp)
        have hnf : w.heap.size ∉ foot a l := fun hm => by have := HR.out.lt _ hm; omega
        refine ⟨(hr1.congr fun g hg => set_else (fun e => hnf (by rw [← e]; exact hg))).eqw he, Nx.eqw ⟨?_, fun b hb => .inl hb⟩ he, C.setIfInBounds j (.bool true), by simpa using HCs.out, ?_⟩
        · refine (HXr.out.1.trans (F1.mono (S' := foot a l) (by simp)) (fun b hb => .inl hb)).trans (Fr.setCell (S := [w.heap.size]) _ _ _ (by simp)) (fun b hb => by simp at hb; subst hb; right; exact Nat.le_refl _)
        · rw [he.2.2.2, set_in hkb2 j (.bool true)]
      have HF1 := mkHid hf1
      generalize C[j]'(by rw [HCs.out]; omega) = old at cl
      clear hf1 hkb2 HSO
      go_wp2
      go_roundw
      case rel => exact ⟨k + 1, by omega, by go_num, HE.out _ ⟨rfl, rfl, rfl, rfl⟩⟩
      case measure => simp [intOf]; omega
    · have hke : k = j0 := by omega
      subst hke
      have HSO := mkHid (seatOf_none _ a l H wr hr HBad.out)
      have HRr := mkHid hr
      have HXr := mkHid hx
      generalize zs.getD k 0 = zv at *
      clear hr hx hkb hCs
      go_wp2_with fail
      refine Calls.mono HSO.out ?_
      rintro e w1 ⟨rfl, hf1⟩
      have F2 : Fr [] wr (w1.alloc (.cells #[.int .i64 0, .int .i64 0, .int .i64 0] 103)) := hf1.trans (Fr.alloc [] _ _) (by simp)
      have HF := mkHid F2
      clear hf1 F2 HSO
      go_wp2
      go_ret3
      exact ⟨rfl, HRr.out.keep HF.out (by simp), HXr.out.trans (Nx.frw (HF.out.mono (by simp)))⟩
end Go.Proofs.YtklfnjlenbgmoaaDoor
