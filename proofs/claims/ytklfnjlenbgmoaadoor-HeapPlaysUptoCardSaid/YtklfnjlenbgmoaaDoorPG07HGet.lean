import Derived.Test.YtklfnjlenbgmoaaDoorPHSlideW
set_option linter.unusedVariables false
namespace Go.Proofs.YtklfnjlenbgmoaaDoor
open Go.RowKit
attribute [local go_sem ↓] Go.wp_at_zero Go.wp_at_succ
theorem info4 : (Tryd.prog.info? 4).map (fun i => (i.zero, i.size, i.bytes)) = some (some (.bool false), 1, 1) := by kernel_rfl
def keptL (n : Nat) (ks : List Nat) : List Value := (List.range n).map fun i => .bool (decide (i ∈ ks))
theorem keptL_len (n : Nat) (ks : List Nat) : (keptL n ks).length = n := by simp [keptL]
theorem keptL_at (n : Nat) (ks : List Nat) (i : Nat) (h : i < n) : (keptL n ks)[i]? = some (.bool (decide (i ∈ ks))) := by simp [keptL, h]
theorem keptL_snoc (n : Nat) (ks : List Nat) (i : Nat) : (keptL n ks).set i (.bool true) = keptL n (ks ++ [i]) := by
 apply List.ext_getElem?
 intro j
 rw [List.getElem?_set]
 by_cases hj : j < n
 ·by_cases hij : i = j
  ·subst hij
   simp [keptL, hj]
  ·rw [if_neg hij, keptL_at _ _ _ hj, keptL_at _ _ _ hj]
   have : ¬ j = i := fun e => hij e.symm
   simp [this]
 ·have h1 : (keptL n ks).length ≤ j := by rw [keptL_len]; omega
  have h2 : (keptL n (ks ++ [i])).length ≤ j := by rw [keptL_len]; omega
  rw [List.getElem?_eq_none h2]
  by_cases hij : i = j
  ·subst hij
   rw [if_pos rfl, if_neg (by omega)]
  ·rw [if_neg hij, List.getElem?_eq_none h1]
theorem make_bools (n : Nat) (h2 : n ≤ 1048576) (W : World) :
  (Instr.makeSlice 128 (.int .i64 (n : Int)) (.int .i64 (n : Int))).run Tryd.prog W = .ok (.slice (some ⟨W.heap.size, 0, none⟩) n n) (W.alloc (.cells (keptL n []).toArray 4)) := by
 obtain ⟨i0, hi, hz0, hz1, hz2⟩ := info_parts info4
 have h := run_make (P := Tryd.prog) W 128 4 i0 (.bool false) Tryd.underlying128 hi hz0 .i64 .i64 n n (by omega) (by omega) (by rw [hz2]; omega) (by omega)
 have e : madeCells (Value.bool false).cells n = (keptL n []).toArray := by
  apply Array.toList_inj.1
  show (madeCells #[.bool false] n).toList = _
  rw [toList_madeCells_one]
  apply List.ext_getElem?
  intro j
  by_cases hj : j < n
  ·rw [List.getElem?_replicate, if_pos hj]
   simp [keptL, hj]
  ·rw [List.getElem?_replicate, if_neg hj, List.getElem?_eq_none (by rw [keptL_len]; omega)]
 rw [h, hz1, Nat.mul_one, Int.toNat_natCast, e]
def vacTo (H : HS) (ks : List Nat) : Nat → HS
 | 0 => H
 | k + 1 => if (vacTo H ks k).order.getD k 0 ≠ 0 ∧ (vacTo H ks k).order.getD k 0 ∉ ks then vacH (vacTo H ks k) ((vacTo H ks k).order.getD k 0) else vacTo H ks k
structure KeepOk (H : HS) (ks : List Nat) : Prop where
 all : ∀ j ∈ ks, 1 ≤ j ∧ j < H.seats.length ∧ (H.seats.getD j (0, 0, 0)).2.1 ≠ 0
 vac : ∀ k, k < H.order.length → (vacTo H ks k).order.getD k 0 ≠ 0 → (vacTo H ks k).order.getD k 0 < H.seats.length ∧ ((vacTo H ks k).order.getD k 0 ∉ ks → VacOk (vacTo H ks k) ((vacTo H ks k).order.getD k 0))
 sl : SlideOk (vacTo H ks H.order.length)
 m1 : H.mem.length ≤ 1048576
 r1 : H.order.length ≤ 1048576
 t1 : H.seats.length ≤ 65538
 c1 : H.count ≤ 65536
 a1 : H.age ≤ 1000000000
theorem vacTo_len (H : HS) (ks : List Nat) (hk : KeepOk H ks) : ∀ k, k ≤ H.order.length → (vacTo H ks k).mem.length = H.mem.length ∧ (vacTo H ks k).order.length = H.order.length ∧ (vacTo H ks k).seats.length = H.seats.length ∧ (vacTo H ks k).count ≤ H.count ∧ (vacTo H ks k).age = H.age := by
 intro k
 induction k with
 | zero => intro _; exact ⟨rfl, rfl, rfl, Nat.le_refl _, rfl⟩
 | succ k ih =>
  intro hle
  obtain ⟨h1, h2, h3, h4, h5⟩ := ih (by omega)
  have hv := hk.vac k (by omega)
  unfold vacTo
  split
  ·rename_i hc
   have hq := (hv hc.1).2 hc.2
   have := hq.s2
   unfold vacH remH wipeH
   refine ⟨?_, by simpa using h2, by simpa using h3, by dsimp only; omega, h5⟩
   dsimp only
   rw [length_splice _ _ _ (by rw [List.length_replicate]; omega)]
   exact h1
  ·exact ⟨h1, h2, h3, h4, h5⟩
theorem slideTo_rest (H : HS) : ∀ k, (slideTo H k).H.count = H.count ∧ (slideTo H k).H.age = H.age := by
 intro k
 induction k with
 | zero => exact ⟨rfl, rfl⟩
 | succ k ih =>
  show (slideStep (slideTo H k) k).H.count = _ ∧ (slideStep (slideTo H k) k).H.age = _
  unfold slideStep
  split
  ·exact ih
  ·exact ih
theorem slideH_len (H : HS) (hk : SlideOk H) : (slideH H).mem.length ≤ H.mem.length ∧ (slideH H).count = H.count ∧ (slideH H).age = H.age := by
 have h1 := slideTo_len H hk H.order.length (Nat.le_refl _)
 have h2 := slideTo_rest H H.order.length
 refine ⟨?_, h2.1, h2.2⟩
 show ((slideTo H H.order.length).H.mem.take _).length ≤ _
 rw [List.length_take]
 omega
def keepH (H : HS) (ks : List Nat) : HS := { slideH (vacTo H ks H.order.length) with age := H.age + 1 }
set_option maxRecDepth 20000 in
set_option maxHeartbeats 2000000 in
theorem Keep_any (ks : List Nat) (ao : Option Addr) (c : Nat) (a : Nat) (l : Lay) (H : HS) (w : World) (h : Rep w a l H) (hk : KeepOk H ks) (hin : ∀ j, j < ks.length → ∃ b, ao = some ⟨b, 0, none⟩ ∧ b < w.heap.size ∧ b ∉ foot a l ∧ w.cell? ⟨b, j, none⟩ = some (.int .i64 (ks.getD j 0 : Nat))) (hkl : (ks.length : Int) ≤ 9223372036854775807) :
  Calls Tryd.prog 34 #[.pointer (some ⟨a, 0, none⟩), .slice ao ks.length c] w fun e w' => e = .returned (.tuple #[.int .i64 ((H.count : Int) - (keepH H ks).count), .int .i64 ((H.mem.length : Int) - (keepH H ks).mem.length), .int .i64 0]) ∧ Rep w' a l (keepH H ks) ∧ Nx a l l w w' := by
 have hal := h.lt a (by simp [foot])
 have c0 := h.c0
 have c5 := h.c5
 have hmk := make_bools H.seats.length (by have := hk.t1; omega)
 have HK := mkHid hk
 have HR := mkHid h
 have HIN := mkHid hin
 have ht1 := hk.t1
 clear hk h hin
 go_enter Tryd.func34, Tryd.ntmps34
 go_wp2_with (go_at_call 44; refine (made_any _ _ c0).mono ?_; rintro e w1 ⟨rfl, hw1⟩; rw [hw1]; clear hw1 w1)
 go_loopw [27] (fun q wr => ∃ k : Nat, k ≤ ks.length ∧ q = .int .i64 k ∧ Hid (Rep wr a l H ∧ Nx a l l w wr ∧ wr.heap[w.heap.size]? = some (.cells (keptL H.seats.length (ks.take k)).toArray 4 (0, 0)))) (fun q _ => ks.length - (intOf q).toNat)
 case atStart => exact ⟨0, Nat.zero_le _, rfl, HR.out.alloc _, Nx.frw (Fr.alloc _ _ _), heap_alloc_new _ _⟩
 case round =>
  obtain ⟨k, hkn, rfl, hq⟩ := hrel
  obtain ⟨hr, hx, hkb⟩ := hq.out
  clear hq
  by_cases hlt : k < ks.length
  ·obtain ⟨j, hj⟩ : ∃ j, j = ks.getD k 0 := ⟨_, rfl⟩
   obtain ⟨b, rfl, hb, hbn, hin⟩ := HIN.out k hlt
   have hin := (hx.1.cell (p := ⟨b, k, none⟩) hb hbn).trans hin
   rw [← hj] at hin
   have hmem : j ∈ ks := by rw [hj]; simp [hlt]
   obtain ⟨j1, j2, j3⟩ := HK.out.all j hmem
   have HSO := mkHid (seatOf_yes j a l H wr hr (by omega) (by omega) j3)
   have HT : Hid (ks.take (k + 1) = ks.take k ++ [j]) := by
    unfold Hid
    rw [hj, List.take_succ_eq_append_getElem hlt]
    simp [hlt]
   obtain ⟨⟨p, L, t⟩, hs⟩ : ∃ s, s = H.seats.getD j (0, 0, 0) := ⟨_, rfl⟩
   rw [← hs] at HSO
   dsimp only [sv, I] at HSO
   have k1 : (0 : Int) ≤ (k : Int) := by omega
   have k2 : (k : Int) < (ks.length : Int) := by omega
   have k3 : (0 : Int) ≤ (j : Int) := by omega
   have k4 : (j : Int) < (H.seats.length : Int) := by omega
   have hkl2 := lt_of_heap hkb
   have HRr := mkHid hr
   have HXr := mkHid hx
   have HKB := mkHid hkb
   clear hr hx hkb hs j3 hmem hj
   go_wp2_with fail
   refine Calls.mono HSO.out ?_
   rintro e w1 ⟨rfl, hf1⟩
   have z1 := hf1.size
   have hkb1 := (hf1.block _ hkl2 (by simp)).trans HKB.out
   have hkb2 := (Below.heap_alloc w1 (.cells #[.int .i64 (p : Int), .int .i64 (L : Int), .int .i64 (t : Int)] 103) w.heap.size (by omega)).trans hkb1
   have cl := cell_in hkb2 j
   have fl := frozen_in hkb2 j
   rw [List.getElem?_toArray, keptL_at _ _ _ (by omega)] at cl
   have HE : Hid (∀ W, Eqw ((w1.alloc (.cells #[.int .i64 (p : Int), .int .i64 (L : Int), .int .i64 (t : Int)] 103)).setCell ⟨w.heap.size, j, none⟩ (.bool true)) W → Rep W a l H ∧ Nx a l l w W ∧ W.heap[w.heap.size]? = some (.cells (keptL H.seats.length (ks.take (k + 1))).toArray 4 (0, 0))) := by
    intro W he
    have F1 : Fr [] wr (w1.alloc (.cells #[.int .i64 (p : Int), .int .i64 (L : Int), .int .i64 (t : Int)] 103)) := hf1.trans (Fr.alloc [] _ _) (by simp)
    have hr1 := HRr.out.keep F1 (by simp)
    have hnf : w.heap.size ∉ foot a l := fun hm => by have := HR.out.lt _ hm; omega
    refine ⟨(hr1.congr fun g hg => set_else (fun e => hnf (by rw [← e]; exact hg))).eqw he, Nx.eqw ⟨?_, fun b hb => .inl hb⟩ he, ?_⟩
    ·refine (HXr.out.1.trans (F1.mono (S' := foot a l) (by simp)) (fun b hb => .inl hb)).trans (Fr.setCell (S := [w.heap.size]) _ _ _ (by simp)) (fun b hb => by simp at hb; subst hb; right; exact Nat.le_refl _)
    ·rw [he.2.2.2, set_in hkb2 j (.bool true), HT.out, ← keptL_snoc]
     simp
   have HF1 := mkHid hf1
   generalize decide (j ∈ ks.take k) = old at *
   clear hf1 hkb1 hkb2 HSO
   go_wp2
   go_roundw
   case rel => exact ⟨k + 1, by omega, by go_num, HE.out _ ⟨rfl, rfl, rfl, rfl⟩⟩
   case measure => simp [intOf]; omega
  ·have hke : k = ks.length := by omega
   subst hke
   rw [List.take_length] at hkb
   have c4 := hr.c4
   have c6 := hr.c6
   have c9 := hr.c9
   have hc1 := HK.out.c1
   have hr1 := HK.out.r1
   have HRr := mkHid hr
   have HXr := mkHid hx
   have HKB := mkHid hkb
   clear hr hx hkb hkn
   go_wp2
   go_quiet (fail)
   go_wp2
   go_loopw [59] (fun q W => ∃ k : Nat, k ≤ H.order.length ∧ q = .int .i64 k ∧ Hid (Rep W a l (vacTo H ks k) ∧ Nx a l l w W ∧ W.heap[w.heap.size]? = some (.cells (keptL H.seats.length ks).toArray 4 (0, 0)))) (fun q _ => H.order.length - (intOf q).toNat)
   case atStart => exact ⟨0, Nat.zero_le _, rfl, HRr.out.congr fun _ _ => rfl, HXr.out.eqw ⟨rfl, rfl, rfl, rfl⟩, HKB.out⟩
   case round =>
    clear c4 c6 c9
    obtain ⟨k, hkn, rfl, hq⟩ := hrel
    obtain ⟨hr, hx, hkb⟩ := hq.out
    clear hq
    obtain ⟨l1, l2, l3, l4, l5⟩ := vacTo_len H ks HK.out k hkn
    by_cases hlt : k < H.order.length
    ·have hv := HK.out.vac k hlt
     have hnext : Hid (vacTo H ks (k + 1) = if (vacTo H ks k).order.getD k 0 ≠ 0 ∧ (vacTo H ks k).order.getD k 0 ∉ ks then vacH (vacTo H ks k) ((vacTo H ks k).order.getD k 0) else vacTo H ks k) := rfl
     obtain ⟨Hk, hHk⟩ : ∃ x, x = vacTo H ks k := ⟨_, rfl⟩
     rw [← hHk] at hr l1 l2 l3 l4 l5 hv hnext
     clear hHk
     obtain ⟨go, hgo, hco, hfo, hgoa, hgol⟩ := hr.orderAt k (by omega)
     have o1 := hco k (by omega)
     have k1 : (0 : Int) ≤ (k : Int) := by omega
     have k2 : (k : Int) < (H.order.length : Int) := by omega
     generalize Hk.order.getD k 0 = o at *
     have HR2 := mkHid hr
     have HX2 := mkHid hx
     rw [hgo]
     clear hco hfo l1 l2 l4 l5
     by_cases h0 : o = 0
     ·subst h0
      have HN : Hid (vacTo H ks (k + 1) = Hk) := by
       rw [hnext.out]
       unfold Hid
       rw [if_neg (by simp)]
      clear hnext hv hr hx l3
      have HKB2 := mkHid hkb
      clear hkb
      go_wp2
      go_roundw
      case rel => exact ⟨k + 1, by omega, by go_num, by rw [HN.out]; exact ⟨HR2.out, HX2.out, HKB2.out⟩⟩
      case measure => simp [intOf]; omega
     ·have hob : ((o : Int) != 0) = true := by rw [bne_iff_ne]; omega
      obtain ⟨v1, v2⟩ := hv h0
      have cl := cell_in hkb o
      rw [List.getElem?_toArray, keptL_at _ _ _ v1] at cl
      have k3 : (0 : Int) ≤ (o : Int) := by omega
      have k4 : (o : Int) < (H.seats.length : Int) := by omega
      by_cases hin : o ∈ ks
      ·rw [decide_eq_true hin] at cl
       have HN : Hid (vacTo H ks (k + 1) = Hk) := by
        rw [hnext.out]
        unfold Hid
        rw [if_neg (fun h => h.2 hin)]
       have HKB2 := mkHid hkb
       clear hnext v2 hr hx l3 hkb hin
       go_wp2
       go_roundw
       case rel => exact ⟨k + 1, by omega, by go_num, by rw [HN.out]; exact ⟨HR2.out, HX2.out, HKB2.out⟩⟩
       case measure => simp [intOf]; omega
      ·rw [decide_eq_false hin] at cl
       have HN : Hid (vacTo H ks (k + 1) = vacH Hk o) := by
        rw [hnext.out]
        unfold Hid
        rw [if_pos ⟨h0, hin⟩]
       have HV := mkHid (vacate_ok o a l Hk wr hr (v2 hin))
       have HKB2 := mkHid hkb
       have hkl2 := lt_of_heap hkb
       have hnf : Hid (w.heap.size ∉ foot a l) := fun hm => by have := HR.out.lt _ hm; omega
       clear hnext v2 hr hx l3 hkb hin h0
       go_wp2_with fail
       refine Calls.mono HV.out ?_
       rintro e w2 ⟨rfl, hr2, hx2⟩
       have HF : Hid (Rep w2 a l (vacH Hk o) ∧ Nx a l l w w2 ∧ w2.heap[w.heap.size]? = some (.cells (keptL H.seats.length ks).toArray 4 (0, 0))) :=
        ⟨hr2, HX2.out.trans hx2, (hx2.1.block _ hkl2 hnf.out).trans HKB2.out⟩
       clear hr2 hx2 HV
       go_wp2
       go_roundw
       case rel => exact ⟨k + 1, by omega, by go_num, by rw [HN.out]; exact HF.out⟩
       case measure => simp [intOf]; omega
    ·have hke : k = H.order.length := by omega
     subst hke
     have HKH : Hid (keepH H ks = { slideH (vacTo H ks H.order.length) with age := H.age + 1 }) := rfl
     have HSL := mkHid (slide_ok a l _ wr hr HK.out.sl)
     have hsl := slideH_len (vacTo H ks H.order.length) HK.out.sl
     have ha1 := HK.out.a1
     have hm1 := HK.out.m1
     obtain ⟨Hk, hHk⟩ : ∃ x, x = vacTo H ks H.order.length := ⟨_, rfl⟩
     rw [← hHk] at HKH HSL l1 l4 l5 hsl
     obtain ⟨Hs, hHs⟩ : ∃ x, x = slideH Hk := ⟨_, rfl⟩
     rw [← hHs] at HKH HSL hsl
     have HX2 := mkHid hx
     clear hr hx hkb l2 l3 hHk
     go_wp2_with fail
     refine Calls.mono HSL.out ?_
     rintro e w2 ⟨rfl, hr2, hx2⟩
     have d4 := hr2.c4
     have d9 := hr2.c9
     have d10 := hr2.c10
     have e10 := hr2.frozen 10
     have b1 : (Hs.mem.length : Int) ≤ 1048576 := by omega
     have b2 : (Hs.count : Int) ≤ 65536 := by omega
     have b3 : (Hs.age : Int) ≤ 1000000000 := by omega
     have HAG : Hid (Hs.age = H.age) := by unfold Hid; omega
     have HF : Hid (∀ W, Eqw (w2.setCell ⟨a, 10, none⟩ (.int .i64 ((Hs.age : Int) + 1))) W → Rep W a l (keepH H ks) ∧ Nx a l l w W) := by
      intro W he
      rw [HKH.out, ← HAG.out]
      have K := hr2.set (H' := { Hs with age := Hs.age + 1 }) 10 (.int .i64 ((Hs.age : Int) + 1)) rfl rfl rfl rfl rfl
      exact ⟨K.eqw he, ((HX2.out.trans hx2).trans (Nx.fr (Fr.setCell (S := [a]) _ _ _ (by simp)))).eqw he⟩
     clear hr2 hx2 HSL l1 l4 l5 hsl hHs
     go_wp2
     go_quiet (fail)
     go_wp2
     go_ret3
     refine ⟨?_, HF.out _ ⟨rfl, rfl, rfl, rfl⟩⟩
     rw [HKH.out]
     rfl
theorem has_yes {H : HS} {oop : Nat} (h : has H oop = true) : (1 : Int) ≤ oop ∧ (oop : Int) < H.seats.length ∧ (H.seats.getD oop (0, 0, 0)).2.1 ≠ 0 := by
 have := of_decide_eq_true h
 simpa using this
theorem seatOf_none (oop : Int) (a : Nat) (l : Lay) (H : HS) (w : World) (h : Rep w a l H) (hh : has H oop = false) :
  Calls Tryd.prog 70 #[.pointer (some ⟨a, 0, none⟩), .int .i64 oop] w fun e w' => e = .returned (.tuple #[.agg #[.int .i64 0, .int .i64 0, .int .i64 0], .int .i64 20]) ∧ Fr [] w w' := seatOf_no oop a l H w h hh
set_option maxHeartbeats 1000000 in
theorem Class_no (oop : Int) (a : Nat) (l : Lay) (H : HS) (w : World) (h : Rep w a l H) (hh : has H oop = false) :
  Calls Tryd.prog 68 #[.pointer (some ⟨a, 0, none⟩), .int .i64 oop] w fun e w' => e = .returned (.tuple #[.int .i64 0, .int .i64 20]) ∧ Fr [] w w' := by
 have HSO := mkHid (seatOf_none oop a l H w h hh)
 clear h hh
 go_enter Tryd.func68, Tryd.ntmps68
 go_wp2_with fail
 refine Calls.mono HSO.out ?_
 rintro e w1 ⟨rfl, hf1⟩
 have HF := mkHid (hf1.trans (Fr.alloc [] w1 (.cells #[.int .i64 0, .int .i64 0, .int .i64 0] 103)) (by simp))
 clear hf1 HSO
 go_wp2
 go_ret2
 exact ⟨rfl, HF.out⟩
set_option maxHeartbeats 1000000 in
theorem Size_no (oop : Int) (a : Nat) (l : Lay) (H : HS) (w : World) (h : Rep w a l H) (hh : has H oop = false) :
  Calls Tryd.prog 81 #[.pointer (some ⟨a, 0, none⟩), .int .i64 oop] w fun e w' => e = .returned (.tuple #[.int .i64 0, .int .i64 0, .int .i64 20]) ∧ Fr [] w w' := by
 have HSO := mkHid (seatOf_none oop a l H w h hh)
 clear h hh
 go_enter Tryd.func81, Tryd.ntmps81
 go_wp2_with fail
 refine Calls.mono HSO.out ?_
 rintro e w1 ⟨rfl, hf1⟩
 have HF := mkHid (hf1.trans (Fr.alloc [] w1 (.cells #[.int .i64 0, .int .i64 0, .int .i64 0] 103)) (by simp))
 clear hf1 HSO
 go_wp2
 go_ret3
 exact ⟨rfl, HF.out⟩
set_option maxHeartbeats 1000000 in
theorem SetClass_no (oop v : Int) (a : Nat) (l : Lay) (H : HS) (w : World) (h : Rep w a l H) (hh : has H oop = false) :
  Calls Tryd.prog 30 #[.pointer (some ⟨a, 0, none⟩), .int .i64 oop, .int .i64 v] w fun e w' => e = .returned (.int .i64 20) ∧ Fr [] w w' := by
 have HSO := mkHid (seatOf_none oop a l H w h hh)
 clear h hh
 go_enter Tryd.func30, Tryd.ntmps30
 go_wp2_with fail
 refine Calls.mono HSO.out ?_
 rintro e w1 ⟨rfl, hf1⟩
 have HF := mkHid (hf1.trans (Fr.alloc [] w1 (.cells #[.int .i64 0, .int .i64 0, .int .i64 0] 103)) (by simp))
 clear hf1 HSO
 go_wp2
 go_ret
 exact ⟨rfl, HF.out⟩
set_option maxHeartbeats 1000000 in
theorem Put_no (oop i v : Int) (a : Nat) (l : Lay) (H : HS) (w : World) (h : Rep w a l H) (hh : has H oop = false) :
  Calls Tryd.prog 29 #[.pointer (some ⟨a, 0, none⟩), .int .i64 oop, .int .i64 i, .int .i64 v] w fun e w' => e = .returned (.int .i64 20) ∧ Fr [] w w' := by
 have HSO := mkHid (seatOf_none oop a l H w h hh)
 clear h hh
 go_enter Tryd.func29, Tryd.ntmps29
 go_wp2_with fail
 refine Calls.mono HSO.out ?_
 rintro e w1 ⟨rfl, hf1⟩
 have HF := mkHid (hf1.trans (Fr.alloc [] w1 (.cells #[.int .i64 0, .int .i64 0, .int .i64 0] 103)) (by simp))
 clear hf1 HSO
 go_wp2
 go_ret
 exact ⟨rfl, HF.out⟩
set_option maxHeartbeats 1000000 in
theorem At_no (oop i : Int) (a : Nat) (l : Lay) (H : HS) (w : World) (h : Rep w a l H) (hh : has H oop = false) :
  Calls Tryd.prog 47 #[.pointer (some ⟨a, 0, none⟩), .int .i64 oop, .int .i64 i] w fun e w' => e = .returned (.tuple #[.int .i64 0, .int .i64 20]) ∧ Fr [] w w' := by
 have HSO := mkHid (seatOf_none oop a l H w h hh)
 clear h hh
 go_enter Tryd.func47, Tryd.ntmps47
 go_wp2_with fail
 refine Calls.mono HSO.out ?_
 rintro e w1 ⟨rfl, hf1⟩
 have HF := mkHid (hf1.trans (Fr.alloc [] w1 (.cells #[.int .i64 0, .int .i64 0, .int .i64 0] 103)) (by simp))
 clear hf1 HSO
 go_wp2
 go_ret2
 exact ⟨rfl, HF.out⟩
set_option maxHeartbeats 1000000 in
theorem Free_no (oop : Int) (a : Nat) (l : Lay) (H : HS) (w : World) (h : Rep w a l H) (hh : has H oop = false) :
  Calls Tryd.prog 64 #[.pointer (some ⟨a, 0, none⟩), .int .i64 oop] w fun e w' => e = .returned (.int .i64 20) ∧ Fr [] w w' := by
 have HSO := mkHid (seatOf_none oop a l H w h hh)
 clear h hh
 go_enter Tryd.func64, Tryd.ntmps64
 go_wp2_with fail
 refine Calls.mono HSO.out ?_
 rintro e w1 ⟨rfl, hf1⟩
 have HF := mkHid (hf1.trans (Fr.alloc [] w1 (.cells #[.int .i64 0, .int .i64 0, .int .i64 0] 103)) (by simp))
 clear hf1 HSO
 go_wp2
 go_ret
 exact ⟨rfl, HF.out⟩
set_option maxHeartbeats 1000000 in
theorem Exchange_no1 (i j : Int) (a : Nat) (l : Lay) (H : HS) (w : World) (h : Rep w a l H) (hh : has H i = false) :
  Calls Tryd.prog 46 #[.pointer (some ⟨a, 0, none⟩), .int .i64 i, .int .i64 j] w fun e w' => e = .returned (.int .i64 20) ∧ Fr [] w w' := by
 have HSO := mkHid (seatOf_none i a l H w h hh)
 clear h hh
 go_enter Tryd.func46, Tryd.ntmps46
 go_wp2_with fail
 refine Calls.mono HSO.out ?_
 rintro e w1 ⟨rfl, hf1⟩
 have HF := mkHid (hf1.trans (Fr.alloc [] w1 (.cells #[.int .i64 0, .int .i64 0, .int .i64 0] 103)) (by simp))
 clear hf1 HSO
 go_wp2
 go_ret
 exact ⟨rfl, HF.out⟩
set_option maxHeartbeats 1000000 in
theorem Exchange_no2 (i : Nat) (j : Int) (a : Nat) (l : Lay) (H : HS) (w : World) (h : Rep w a l H) (hi : has H i = true) (hh : has H j = false) :
  Calls Tryd.prog 46 #[.pointer (some ⟨a, 0, none⟩), .int .i64 i, .int .i64 j] w fun e w' => e = .returned (.int .i64 20) ∧ Fr [] w w' := by
 obtain ⟨h1, h2, h3⟩ := has_yes hi
 have HSO1 := mkHid (seatOf_yes i a l H w h h1 h2 h3)
 have HSO2 := mkHid (fun W (hW : Rep W a l H) => seatOf_none j a l H W hW hh)
 have HR := mkHid h
 obtain ⟨⟨p, L, t⟩, hs⟩ : ∃ s, s = H.seats.getD i (0, 0, 0) := ⟨_, rfl⟩
 rw [← hs] at HSO1
 dsimp only [sv, I] at HSO1
 clear h hh hi h1 h2 h3 hs
 go_enter Tryd.func46, Tryd.ntmps46
 go_wp2_with fail
 refine Calls.mono HSO1.out ?_
 rintro e w1 ⟨rfl, hf1⟩
 have F2 : Fr [] w (w1.alloc (.cells #[.int .i64 (p : Int), .int .i64 (L : Int), .int .i64 (t : Int)] 103)) := hf1.trans (Fr.alloc [] _ _) (by simp)
 have HF2 := mkHid F2
 clear hf1 HSO1 F2
 go_wp2_with fail
 refine Calls.mono (HSO2.out _ (HR.out.keep HF2.out (by simp))) ?_
 rintro e w2 ⟨rfl, hf2⟩
 have HF := mkHid ((HF2.out.trans hf2 (by simp)).trans (Fr.alloc [] w2 (.cells #[.int .i64 0, .int .i64 0, .int .i64 0] 103)) (by simp))
 clear hf2 HSO2 HF2
 go_wp2
 go_ret
 exact ⟨rfl, HF.out⟩
set_option maxRecDepth 20000 in
set_option maxHeartbeats 1000000 in
theorem Class_ok (oop : Nat) (a : Nat) (l : Lay) (H : HS) (w : World) (h : Rep w a l H) (hi : has H oop = true) (hm : (H.seats.getD oop (0, 0, 0)).1 < H.mem.length) (hb : (H.mem.length : Int) ≤ 1048576) :
  Calls Tryd.prog 68 #[.pointer (some ⟨a, 0, none⟩), .int .i64 oop] w fun e w' => e = .returned (.tuple #[.int .i64 (H.mem.getD (H.seats.getD oop (0, 0, 0)).1 0), .int .i64 0]) ∧ Fr [] w w' := by
 obtain ⟨h1, h2, h3⟩ := has_yes hi
 have HSO := mkHid (seatOf_yes oop a l H w h h1 h2 h3)
 obtain ⟨g, hg, hcg, hfg, hga, hgl⟩ := h.memBlock (by omega)
 have q := hcg _ hm
 have c4 := h.c4
 rw [hg] at c4
 have hal := h.lt a (by simp [foot])
 obtain ⟨⟨p, L, t⟩, hs⟩ : ∃ s, s = H.seats.getD oop (0, 0, 0) := ⟨_, rfl⟩
 rw [← hs] at HSO hm q
 rw [← hs]
 dsimp only [sv, I] at *
 clear h hcg hfg hs h1 h2 h3 hi
 generalize H.mem.getD p 0 = v at *
 generalize H.mem.length = m at *
 have k1 : (0 : Int) ≤ (p : Int) := by omega
 have k2 : (p : Int) < (m : Int) := by omega
 go_enter Tryd.func68, Tryd.ntmps68
 go_wp2_with fail
 refine Calls.mono HSO.out ?_
 rintro e w1 ⟨rfl, hf1⟩
 have z1 := hf1.size
 have d4 := (hf1.cell (p := ⟨a, 4, none⟩) hal (by simp)).trans c4
 have dq := (hf1.cell (p := ⟨g, p, none⟩) hgl (by simp)).trans q
 have D4 := (World.cell?_alloc_lt w1 (.cells #[.int .i64 (p : Int), .int .i64 (L : Int), .int .i64 (t : Int)] 103) ⟨a, 4, none⟩ (by show a < _; omega)).trans d4
 have DQ := (World.cell?_alloc_lt w1 (.cells #[.int .i64 (p : Int), .int .i64 (L : Int), .int .i64 (t : Int)] 103) ⟨g, p, none⟩ (by show g < _; omega)).trans dq
 have HF := mkHid (hf1.trans (Fr.alloc [] w1 (.cells #[.int .i64 (p : Int), .int .i64 (L : Int), .int .i64 (t : Int)] 103)) (by simp))
 clear hf1 HSO d4 dq
 go_wp2
 go_quiet (fail)
 go_wp2
 go_ret2
 exact ⟨rfl, HF.out.trans (Fr.drewN [] _ _) (by simp)⟩
set_option maxRecDepth 20000 in
set_option maxHeartbeats 1000000 in
theorem Size_ok (oop n f : Nat) (a : Nat) (l : Lay) (H : HS) (w : World) (h : Rep w a l H) (hi : has H oop = true) (hb : (H.mem.length : Int) ≤ 1048576) (h4 : (H.seats.getD oop (0, 0, 0)).1 + 1 < H.mem.length) (h5 : H.mem.getD ((H.seats.getD oop (0, 0, 0)).1 + 1) 0 = ((2 * n + f : Nat) : Int)) (hf : (f : Int) ≤ 1) :
  Calls Tryd.prog 81 #[.pointer (some ⟨a, 0, none⟩), .int .i64 oop] w fun e w' => e = .returned (.tuple #[.int .i64 n, .int .i64 f, .int .i64 0]) ∧ Fr [] w w' := by
 obtain ⟨h1, h2, h3⟩ := has_yes hi
 have HSO := mkHid (seatOf_yes oop a l H w h h1 h2 h3)
 obtain ⟨⟨p, L, t⟩, hs⟩ : ∃ s, s = H.seats.getD oop (0, 0, 0) := ⟨_, rfl⟩
 rw [← hs] at HSO h4 h5
 have HSH : Hid (∀ W, Rep W a l H → Calls Tryd.prog 71 #[.pointer (some ⟨a, 0, none⟩), .agg #[.int .i64 (p : Int), .int .i64 (L : Int), .int .i64 (t : Int)]] W fun e w' => e = .returned (.tuple #[.int .i64 (n : Int), .int .i64 (f : Int)]) ∧ Fr [] W w') := by
  intro W hW
  have := shape_of (p, L, t) (2 * n + f) a l H W hW h4 h5 hb
  rw [show (2 * n + f) / 2 = n from by omega, show (2 * n + f) % 2 = f from by omega] at this
  exact this
 have HR := mkHid h
 clear h hs h1 h2 h3 hi h4 h5
 dsimp only [sv, I] at HSO
 go_enter Tryd.func81, Tryd.ntmps81
 go_wp2_with fail
 refine Calls.mono HSO.out ?_
 rintro e w1 ⟨rfl, hf1⟩
 have F2 : Fr [] w (w1.alloc (.cells #[.int .i64 (p : Int), .int .i64 (L : Int), .int .i64 (t : Int)] 103)) := hf1.trans (Fr.alloc [] _ _) (by simp)
 have HF2 := mkHid F2
 clear hf1 HSO F2
 go_wp2_with fail
 refine Calls.mono (HSH.out _ (HR.out.keep HF2.out (by simp))) ?_
 rintro e w2 ⟨rfl, hf2⟩
 have HF := mkHid (HF2.out.trans hf2 (by simp))
 clear hf2 HSH HF2
 go_wp2
 go_ret3
 exact ⟨rfl, HF.out⟩
end Go.Proofs.YtklfnjlenbgmoaaDoor
