import Derived.Test.YtpaekbghnejhoaaDoorEG22KAdd
namespace Go.Proofs.YtpaekbghnejhoaaDoor
open Go.RowKit
set_option linter.unusedVariables false
attribute [local go_sem ↓] Go.wp_at_zero Go.wp_at_succ
/-- a list with all but its first number gone -/
def zeroTo (l : List Int) (i : Nat) : List Int := (List.range l.length).map fun k => if 1 ≤ k ∧ k < i then 0 else l.getD k 0
theorem zeroTo_len (l : List Int) (i : Nat) : (zeroTo l i).length = l.length := by simp [zeroTo]
theorem zeroTo_one (l : List Int) : zeroTo l 1 = l := by
  refine List.ext_getElem (by simp [zeroTo]) fun k h1 h2 => ?_
  have : ¬ (1 ≤ k ∧ k < 1) := by omega
  simp only [zeroTo, List.getElem_map, List.getElem_range]
  rw [if_neg this, List.getD_eq_getElem?_getD, List.getElem?_eq_getElem h2]
  rfl
theorem zeroTo_set (l : List Int) (i : Nat) (hi : 1 ≤ i) (m : List Int) : (zeroTo l i ++ m).set i 0 = if i < l.length then zeroTo l (i + 1) ++ m else (zeroTo l i ++ m).set i 0 := by
  by_cases h : i < l.length
  · rw [if_pos h, List.set_append_left _ _ (by rw [zeroTo_len]; exact h)]
    congr 1
    refine List.ext_getElem (by simp [zeroTo]) fun k h1 h2 => ?_
    rw [List.getElem_set]
    by_cases e : i = k
    · subst e
      simp [zeroTo, hi]
    · rw [if_neg e]
      simp only [zeroTo, List.getElem_map, List.getElem_range]
      by_cases c : 1 ≤ k ∧ k < i
      · rw [if_pos c, if_pos ⟨c.1, by omega⟩]
      · rw [if_neg c, if_neg (by omega)]
  · rw [if_neg h]
set_option maxRecDepth 20000 in
set_option maxHeartbeats 2000000 in
theorem runs_any (x y z : Int) (ov rv : Value) (la : List OI) (roots : List Int) (W : World) (ha : SAt W ov la) (hr : Rd W rv roots) (hT : Tab W) (hT0 : 0 < W.heap.size) :
    Calls Tryd.prog 6 #[.agg #[.int .i64 x, .int .i64 y, .int .i64 z, ov], rv] W fun e w' => e = .returned (.bool true) ∧ Fr [] W w' := by
  obtain ⟨pa, ca, rfl, -⟩ := ha.at_
  obtain ⟨pr, cr, rfl, -⟩ := hr.at_
  obtain ⟨W1, hW1⟩ : ∃ W1, W1 = W.alloc (.cells #[.int .i64 x, .int .i64 y, .int .i64 z, .slice pa la.length ca] 24) := ⟨_, rfl⟩
  have F1 : Hid (Fr [] W W1) := by rw [hW1]; exact Fr.alloc [] _ _
  have hB : W1.heap[W.heap.size]? = some (.cells #[.int .i64 x, .int .i64 y, .int .i64 z, .slice pa la.length ca] 24 (0, 0)) := by rw [hW1]; exact heap_alloc_new _ _
  have c0 : W1.cell? ⟨W.heap.size, 0, none⟩ = some (.int .i64 x) := by rw [cell_in hB]; rfl
  have c1 : W1.cell? ⟨W.heap.size, 1, none⟩ = some (.int .i64 y) := by rw [cell_in hB]; rfl
  have c2 : W1.cell? ⟨W.heap.size, 2, none⟩ = some (.int .i64 z) := by rw [cell_in hB]; rfl
  have c3 : W1.cell? ⟨W.heap.size, 3, none⟩ = some (.slice pa la.length ca) := by rw [cell_in hB]; rfl
  have HR : Hid (∀ V, Fr [] W1 V → Rd V (.slice pr roots.length cr) roots) := fun V hV => hr.idle (F1.out.trans hV (by simp))
  have HTb : Hid (∀ V, Fr [] W1 V → Tab V ∧ 0 < V.heap.size) := fun V hV => ⟨hT.fr (F1.out.trans hV (by simp)) hT0, Nat.lt_of_lt_of_le hT0 (F1.out.trans hV (by simp)).size⟩
  have s1 := ha.short
  have s2 := hr.short
  have HLd := mkHid (loaded_ok x y z _ la W1 (ha.idle F1.out) (HTb.out W1 (Fr.refl _ _)).1 (HTb.out W1 (Fr.refl _ _)).2)
  clear ha hr hT hT0 hB
  go_enter Tryd.func6, Tryd.ntmps6
  go_wp2_with fail
  rw [← hW1]
  refine Calls.mono HLd.out ?_
  clear HLd hW1 c0 c1 c2 c3
  rintro e w1 (⟨rfl, hf⟩ | ⟨xn, yn, zn, a, B, r, l, H, M, R, rfl, htw, hturn, hf, hnew, hWB, hBw⟩)
  · have HF1 := mkHid hf
    have HHd := mkHid (hand_ok roots _ w1 (HR.out w1 hf) s2)
    clear hf
    go_wp2_with fail
    refine Calls.mono HHd.out ?_
    rintro e w2 ⟨gv, rfl, hg⟩
    obtain ⟨g, cg, rfl, hgb, hgl⟩ := hg.own.form (by simp)
    have hcap : roots.length + 2 ≤ cg := by
      obtain ⟨-, h2⟩ := hg.own
      rcases h2 with ⟨h2, h3⟩ | ⟨g', cap, cur, h2, h3, h4, h5, h6⟩
      · cases h2
      · injection h2 with _ _ e; subst e; simpa using h5
    have HG2 := mkHid hg
    have hk1 : (0 : Int) ≤ (roots.length : Int) := by omega
    have hk2 : (roots.length : Int) ≤ (cg : Int) := by omega
    clear hg HHd
    go_wp2_with fail
    refine Calls.mono (Run_nil _ w2) ?_
    rintro e w3 ⟨rfl, hf3⟩
    have HE3 := mkHid hf3
    clear hf3
    go_wp2_with fail
    refine Calls.mono (rRun_nil _ w3) ?_
    rintro e w' ⟨rfl, hw'⟩
    rw [hw']
    clear hw' w'
    go_wp2_with fail
    refine Calls.mono (Room_nil w3) ?_
    rintro e w' ⟨rfl, hw'⟩
    rw [hw']
    clear hw' w'
    go_wp2_with fail
    refine Calls.mono (rRoom_nil w3) ?_
    rintro e w' ⟨rfl, hw'⟩
    rw [hw']
    clear hw' w'
    have hll : (roots ++ [-71, -72]).length = roots.length + 2 := by simp
    have HG3 := mkHid (HG2.out.idle HE3.out)
    have HG6 := mkHid HG3.out.own
    rw [hll] at HG6
    have HF3 : Hid (Fr [] W1 w3) := (HF1.out.trans HG2.out.fr (by simp)).trans HE3.out (by simp)
    clear hll
    go_wp2_with fail
    refine Calls.mono (num_any 2 w3 (by omega) (by omega)) ?_
    rintro e w' ⟨rfl, hw'⟩
    rw [hw']
    clear hw' w'
    go_wp2_with fail
    refine Calls.mono (left_ok roots g cg _ _ w3 HG6.out (HR.out w3 HF3.out) hcap) ?_
    rintro e w7 ⟨rfl, hf7⟩
    have HE7 := mkHid hf7
    clear hf7
    go_wp2_with fail
    refine Calls.mono (State_nil w7) ?_
    rintro e w8 ⟨rfl, hf8⟩
    have HE8 : Hid (Fr [] w3 w8) := HE7.out.trans hf8 (by simp)
    clear hf8 HE7
    go_wp2_with fail
    refine Calls.mono (rState_nil w8) ?_
    rintro e w9 ⟨rfl, hf9⟩
    have HE9 : Hid (Fr [] w3 w9) := HE8.out.trans hf9 (by simp)
    clear hf9 HE8
    go_wp2_with fail
    refine Calls.mono (sameState_at 0 0 0 _ _ [] [] w9 (sat_nil w9) (sat_nil w9) rfl) ?_
    rintro e w10 ⟨rfl, hf10⟩
    have HE10 : Hid (Fr [] w3 w10) := HE9.out.trans hf10 (by simp)
    have HG10 := mkHid (own_congr HG6.out fun b hb => HE10.out.block b (HG6.out.lt b hb).2 (by simp))
    have HF10 : Hid (Fr [] W1 w10) := HF3.out.trans HE10.out (by simp)
    have hg10 : w1.heap.size ≤ g ∧ g < w10.heap.size := HG10.out.lt g rfl
    clear hf10 HE9 HE10 HG6 HG3
    go_wp2_with fail
    go_loopw [19] (fun q wr => ∃ i : Nat, 1 ≤ i ∧ (i ≤ roots.length ∨ i = 1) ∧ q = .int .i64 i ∧ Hid (wr.ownsRow w1.heap.size 40 1 (.slice (some ⟨g, 0, none⟩) (roots.length + 2) cg) (roots.length + 2) ((zeroTo roots i ++ [-71, -72]).map (Value.int .i64))) ∧ Hid (Fr [g] w10 wr)) (fun q _ => roots.length - (intOf q).toNat)
    case atStart => exact ⟨1, Nat.le_refl _, .inr rfl, rfl, by rw [zeroTo_one]; exact HG10, Fr.refl _ _⟩
    case round =>
      obtain ⟨i, hi1, hi2, rfl, hown, hfr⟩ := hrel
      have i1 : (0 : Int) ≤ (i : Int) := by omega
      by_cases hlt : i < roots.length
      · have i2 : (i : Int) < (roots.length : Int) := by omega
        have i3 : (i : Int) < ((roots.length + 2 : Nat) : Int) := by omega
        have x1 := own_get hown.out i (by simp [zeroTo_len]; omega)
        obtain ⟨cur, hcur⟩ := own_blk hown.out g (by simp [blk])
        have z1 : wr.frozen? ⟨g, i, none⟩ = false := frozen_in hcur i
        have HO2 : Hid ((wr.setCell ⟨g, i, none⟩ (.int .i64 0)).ownsRow w1.heap.size 40 1 (.slice (some ⟨g, 0, none⟩) (roots.length + 2) cg) (roots.length + 2) ((zeroTo roots (i + 1) ++ [-71, -72]).map (Value.int .i64))) := by
          have h1 := (hown.out.stored i (.int .i64 0)).1
          have h2 := zeroTo_set roots i hi1 [-71, -72]
          rw [if_pos hlt] at h2
          rw [← List.map_set, h2] at h1
          exact h1
        have HF2 : Hid (Fr [g] w10 (wr.setCell ⟨g, i, none⟩ (.int .i64 0))) := hfr.out.trans (Fr.setCell wr ⟨g, i, none⟩ _ (S := [g]) (by simp)) (by simp)
        clear hown hcur
        go_wp2_with fail
        go_roundw
        case rel => exact ⟨i + 1, by omega, .inl (by omega), by go_num, HO2, HF2⟩
        case measure => simp [intOf]; omega
      · have i2 : (roots.length : Int) ≤ (i : Int) := by omega
        have HF11 : Hid (Fr [] W1 wr) := HF10.out.trans hfr.out (fun b hb => .inr (by have e1 : b = g := (by simpa using hb); have := HF1.out.size; omega))
        clear hown hfr
        go_wp2_with fail
        refine Calls.mono (rRun_nil _ wr) ?_
        rintro e w' ⟨rfl, hw'⟩
        rw [hw']
        clear hw' w'
        go_wp2_with fail
        refine Calls.mono (Run_nil _ wr) ?_
        rintro e w13 ⟨rfl, hf13⟩
        have HF13 : Hid (Fr [] W1 w13) := HF11.out.trans hf13 (by simp)
        clear hf13
        go_wp2_with fail
        refine Calls.mono (num_any 2 w13 (by omega) (by omega)) ?_
        rintro e w' ⟨rfl, hw'⟩
        rw [hw']
        clear hw' w'
        go_wp2_with fail
        refine Calls.mono (State_nil w13) ?_
        rintro e w14 ⟨rfl, hf8⟩
        have HE8 := mkHid hf8
        clear hf8
        go_wp2_with fail
        refine Calls.mono (rState_nil w14) ?_
        rintro e w15 ⟨rfl, hf9⟩
        have HE9 : Hid (Fr [] w13 w15) := HE8.out.trans hf9 (by simp)
        clear hf9 HE8
        go_wp2_with fail
        refine Calls.mono (sameState_at 0 0 0 _ _ [] [] w15 (sat_nil w15) (sat_nil w15) rfl) ?_
        rintro e w16 ⟨rfl, hf16⟩
        have HFz : Hid (Fr [] W w16) := ((F1.out.trans HF13.out (by simp)).trans HE9.out (by simp)).trans hf16 (by simp)
        clear hf16
        go_wp2_with fail
        go_ret
        exact ⟨rfl, HFz.out⟩
  · have HTw := mkHid htw
    have HF1 := mkHid hf
    have HNew := mkHid hnew
    have hage0 : H.age ≤ 0 := by have := htw.age; omega
    have hturn0 : R.turn ≤ 0 := by omega
    generalize hNN : w1.heap.size = N at *
    have hN1 : N ≤ w1.heap.size := by omega
    have hN2 : w1.heap.size ≤ N := by omega
    have HHd := mkHid (hand_ok roots _ w1 (HR.out w1 hf) s2)
    generalize hks : la.map oiKey = ks at *
    clear htw hf hnew hNN hturn hks
    go_wp2_with fail
    refine Calls.mono HHd.out ?_
    rintro e w2 ⟨gv, rfl, hg⟩
    obtain ⟨g, cg, rfl, hgb, hgl⟩ := hg.own.form (by simp)
    have hcap : roots.length + 2 ≤ cg := by
      obtain ⟨-, h2⟩ := hg.own
      rcases h2 with ⟨h2, h3⟩ | ⟨g', cap, cur, h2, h3, h4, h5, h6⟩
      · cases h2
      · injection h2 with _ _ e; subst e; simpa using h5
    have hF12 : Fr [] W1 w2 := HF1.out.trans hg.fr (by simp)
    have HRun := mkHid (run_tw (some ⟨g, 0, none⟩) cg roots (HTw.out.rep.keep hg.fr (by simp)) HTw.out.ka (by omega) (HTb.out w2 hF12).1 (own_front hg.own s2))
    have HG2 := mkHid hg
    have HRR2 := mkHid (HTw.out.rrep.idle hg.fr)
    have HF2 := mkHid hF12
    have hk1 : (0 : Int) ≤ (roots.length : Int) := by omega
    have hk2 : (roots.length : Int) ≤ (cg : Int) := by omega
    clear hg hF12 HHd
    go_wp2_with fail
    refine Calls.mono HRun.out ?_
    rintro e w3 ⟨st, H3, M3, hst, rfl, hrep3, hka3, hage3, hnx3⟩
    have HFo : Hid (∀ b ∈ foot a l, W1.heap.size ≤ b ∧ b < B) := fun b hb => ⟨HNew.out b hb, HTw.out.apart b hb⟩
    have HF3 : Hid (Fr [] W1 w3) := HF2.out.trans hnx3.1 (fun b hb => .inr (HFo.out b hb).1)
    have HG3 := mkHid (HG2.out.keep hnx3.1 (fun b hb => by have := (HFo.out b hb).2; omega))
    have HRR3 := mkHid (HRR2.out.keep hnx3.1 (fun b hb => .inl (HFo.out b hb).2))
    have HRRun := mkHid (rRun_tw pr cr roots HRR3.out HTw.out.ka HTw.out.rk (by omega) (HR.out w3 HF3.out))
    have HSt := mkHid hst
    have HRep3 := mkHid hrep3
    have HKa3 := mkHid hka3
    have hage3' : H3.age ≤ 1 := by omega
    clear hst hrep3 hka3 hage3 hnx3 HRun HG2 HRR2 HF2
    go_wp2_with fail
    refine Calls.mono HRRun.out ?_
    rintro e w4 ⟨st', R4, hst', rfl, hrr4, hrk4, ht4, hf4⟩
    have est := Sts.one hst' HSt.out
    subst est
    have hrB : B ≤ r := HRR3.out.lo
    have HF4 : Hid (Fr [] W1 w4) := HF3.out.trans hf4 (fun b hb => .inr (by have e1 : b = r := (by simpa using hb); omega))
    have HG4 : Hid (w4.ownsRow w1.heap.size 40 1 (.slice (some ⟨g, 0, none⟩) (roots ++ [-71, -72]).length cg) (roots ++ [-71, -72]).length ((roots ++ [-71, -72]).map (Value.int .i64))) := own_congr HG3.out fun b hb => hf4.block b (HG3.out.lt b hb).2 (fun hm => by
      have e1 : b = r := by simpa using hm
      have e2 := (HG3.out.lt b hb).1
      have e3 := lt_of_heap HTw.out.rrep.top
      omega)
    have HRep4 := mkHid (HRep3.out.keep hf4 (fun b hb hm => by have e1 : b = r := (by simpa using hm); have := (HFo.out b hb).2; omega))
    have HRR4 := mkHid hrr4
    have HRK4 := mkHid hrk4
    have hturn4 : R4.turn ≤ 1 := by omega
    clear hst' hrr4 hrk4 ht4 hf4 HRep3 HRR3 HG3 HRRun HF3
    generalize hkk : keepK ks st' = k2 at *
    clear hkk
    go_wp2_with fail
    refine Calls.mono (room_of HRep4.out HKa3.out) ?_
    rintro e w5 ⟨rfl, hf5⟩
    have HF5 := mkHid hf5
    have HRR5 := mkHid (HRR4.out.idle hf5)
    clear hf5
    go_wp2_with fail
    refine Calls.mono (rRoom_of HRR5.out HRK4.out HKa3.out) ?_
    rintro e w6 ⟨rfl, hf6⟩
    have HF6 : Hid (Fr [] w4 w6) := HF5.out.trans hf6 (by simp)
    have HRep6 := mkHid (HRep4.out.keep HF6.out (by simp))
    have HRR6 := mkHid (HRR4.out.idle HF6.out)
    have HF7 : Hid (Fr [] W1 w6) := HF4.out.trans HF6.out (by simp)
    have hll : (roots ++ [-71, -72]).length = roots.length + 2 := by simp
    have HG6 : Hid (w6.ownsRow w1.heap.size 40 1 (.slice (some ⟨g, 0, none⟩) (roots ++ [-71, -72]).length cg) (roots ++ [-71, -72]).length ((roots ++ [-71, -72]).map (Value.int .i64))) := own_congr HG4.out fun b hb => HF6.out.block b (HG4.out.lt b hb).2 (by simp)
    rw [hll] at HG6
    clear hf6 HF5 HRR5 HRep4 HRR4 HG4 HF4 HF6 hll
    generalize endK k2 = ek2 at *
    generalize endK ks = ek1 at *
    generalize k2.length = n2 at *
    generalize ks.length = n1 at *
    go_wp2_with fail
    refine Calls.mono (num_any 0 w6 (by omega) (by omega)) ?_
    rintro e w' ⟨rfl, hw'⟩
    rw [hw']
    clear hw' w'
    go_wp2_with fail
    refine Calls.mono (left_ok roots g cg _ _ w6 HG6.out (HR.out w6 HF7.out) hcap) ?_
    rintro e w7 ⟨rfl, hf7⟩
    have HE7 := mkHid hf7
    clear hf7
    go_wp2_with fail
    refine Calls.mono (state_of (HRep6.out.keep HE7.out (by simp)) HKa3.out) ?_
    rintro e w8 ⟨p8, c8, l8, rfl, ht8, hf8⟩
    have HE8 : Hid (Fr [] w6 w8) := HE7.out.trans hf8 (by simp)
    have HT8 := mkHid ht8
    clear hf8 ht8 HE7
    go_wp2_with fail
    refine Calls.mono (rState_of (HRR6.out.idle HE8.out) HRK4.out HKa3.out) ?_
    rintro e w9 ⟨p9, c9, l9, rfl, ht9, hf9⟩
    have HE9 : Hid (Fr [] w6 w9) := HE8.out.trans hf9 (by simp)
    have HSS := mkHid (told_same (words := xn) (oops := yn) (mark := zn) (HT8.out.fr hf9 (by simp)) ht9)
    clear hf9 ht9 HT8 HE8
    go_wp2_with fail
    refine Calls.mono HSS.out ?_
    rintro e w10 ⟨rfl, hf10⟩
    have HE10 : Hid (Fr [] w6 w10) := HE9.out.trans hf10 (by simp)
    have HRep10 := mkHid (HRep6.out.keep HE10.out (by simp))
    have HRR10 := mkHid (HRR6.out.idle HE10.out)
    have HG10 := mkHid (own_congr HG6.out fun b hb => HE10.out.block b (HG6.out.lt b hb).2 (by simp))
    have HF10 : Hid (Fr [] W1 w10) := HF7.out.trans HE10.out (by simp)
    have hg10 : w1.heap.size ≤ g ∧ g < w10.heap.size := HG10.out.lt g rfl
    clear hf10 HSS HE9 HE10 HRep6 HRR6 HG6 HF7
    go_wp2_with fail
    go_loopw [19] (fun q wr => ∃ i : Nat, 1 ≤ i ∧ (i ≤ roots.length ∨ i = 1) ∧ q = .int .i64 i ∧ Hid (wr.ownsRow w1.heap.size 40 1 (.slice (some ⟨g, 0, none⟩) (roots.length + 2) cg) (roots.length + 2) ((zeroTo roots i ++ [-71, -72]).map (Value.int .i64))) ∧ Hid (Fr [g] w10 wr)) (fun q _ => roots.length - (intOf q).toNat)
    case atStart => exact ⟨1, Nat.le_refl _, .inr rfl, rfl, by rw [zeroTo_one]; exact HG10, Fr.refl _ _⟩
    case round =>
      obtain ⟨i, hi1, hi2, rfl, hown, hfr⟩ := hrel
      have i1 : (0 : Int) ≤ (i : Int) := by omega
      by_cases hlt : i < roots.length
      · have i2 : (i : Int) < (roots.length : Int) := by omega
        have i3 : (i : Int) < ((roots.length + 2 : Nat) : Int) := by omega
        have x1 := own_get hown.out i (by simp [zeroTo_len]; omega)
        obtain ⟨cur, hcur⟩ := own_blk hown.out g (by simp [blk])
        have z1 : wr.frozen? ⟨g, i, none⟩ = false := frozen_in hcur i
        have HO2 : Hid ((wr.setCell ⟨g, i, none⟩ (.int .i64 0)).ownsRow w1.heap.size 40 1 (.slice (some ⟨g, 0, none⟩) (roots.length + 2) cg) (roots.length + 2) ((zeroTo roots (i + 1) ++ [-71, -72]).map (Value.int .i64))) := by
          have h1 := (hown.out.stored i (.int .i64 0)).1
          have h2 := zeroTo_set roots i hi1 [-71, -72]
          rw [if_pos hlt] at h2
          rw [← List.map_set, h2] at h1
          exact h1
        have HF2 : Hid (Fr [g] w10 (wr.setCell ⟨g, i, none⟩ (.int .i64 0))) := hfr.out.trans (Fr.setCell wr ⟨g, i, none⟩ _ (S := [g]) (by simp)) (by simp)
        clear hown hcur
        go_wp2_with fail
        go_roundw
        case rel => exact ⟨i + 1, by omega, .inl (by omega), by go_num, HO2, HF2⟩
        case measure => simp [intOf]; omega
      · have i2 : (roots.length : Int) ≤ (i : Int) := by omega
        obtain ⟨cur, hcur⟩ := own_blk hown.out g (by simp [blk])
        obtain ⟨cur0, hcur0⟩ := own_blk HG10.out g (by simp [blk])
        have hrr := HRR10.out.beside HRK4.out.own hcur0 (by omega) hfr.out
        have hrd := own_front hown.out (by rw [zeroTo_len]; exact s2)
        have hzl := zeroTo_len roots i
        generalize zeroTo roots i = roots2 at *
        rw [hzl] at hrd
        have hrd2 : Rd wr (.slice (some ⟨g, 0, none⟩) roots2.length cg) roots2 := by rw [hzl]; exact hrd
        have hRRun := rRun_tw (some ⟨g, 0, none⟩) cg roots2 hrr HKa3.out HRK4.out (by omega) hrd2
        rw [hzl] at hRRun
        have HRRun := mkHid hRRun
        have HRr := mkHid hrr
        have HRep11 := mkHid (HRep10.out.keep hfr.out (fun b hb hm => by have e1 : b = g := (by simpa using hm); have := (HFo.out b hb).2; omega))
        have HOw := mkHid hown.out
        have hsz11 : w10.heap.size ≤ wr.heap.size := hfr.out.size
        have HF11 : Hid (Fr [] W1 wr) := HF10.out.trans hfr.out (fun b hb => .inr (by have e1 : b = g := (by simpa using hb); have := HF1.out.size; omega))
        have HZL := mkHid hzl
        clear hrr hrd hrd2 hRRun hown hfr hcur hzl hcur0
        go_wp2_with fail
        refine Calls.mono HRRun.out ?_
        rintro e w12 ⟨st5, R5, hst5, rfl, hrr5, hrk5, ht5, hf12⟩
        have HRep12 := mkHid (HRep11.out.keep hf12 (fun b hb hm => by have e1 : b = r := (by simpa using hm); have := (HFo.out b hb).2; omega))
        have HF12 : Hid (Fr [] W1 w12) := HF11.out.trans hf12 (fun b hb => .inr (by have e1 : b = r := (by simpa using hb); omega))
        have hrd3 : Rd w12 (.slice (some ⟨g, 0, none⟩) roots2.length cg) roots2 := by
          refine own_front (b := w1.heap.size) (n := roots.length + 2) (ms := [-71, -72]) (own_congr HOw.out fun b hb => hf12.block b (HOw.out.lt b hb).2 (fun hm => ?_)) (by rw [HZL.out]; exact s2)
          have e1 : b = r := by simpa using hm
          have e2 := (HOw.out.lt b hb).1
          have e3 := lt_of_heap HTw.out.rrep.top
          omega
        have hRun := run_tw (some ⟨g, 0, none⟩) cg roots2 HRep12.out HKa3.out (by omega) (HTb.out w12 HF12.out).1 hrd3
        rw [HZL.out] at hRun
        have HRun := mkHid hRun
        have HSt5 := mkHid hst5
        have HRR5 := mkHid hrr5
        have HRK5 := mkHid hrk5
        clear hst5 hrr5 hrk5 ht5 hf12 hrd3 hRun HRRun HRep11 HOw
        go_wp2_with fail
        refine Calls.mono HRun.out ?_
        rintro e w13 ⟨st6, H6, M6, hst6, rfl, hrep6, hka6, hage6, hnx6⟩
        have est := Sts.one hst6 HSt5.out
        subst est
        have HF13 : Hid (Fr [] W1 w13) := HF12.out.trans hnx6.1 (fun b hb => .inr (HFo.out b hb).1)
        have HRR13 := mkHid (HRR5.out.keep hnx6.1 (fun b hb => .inl (HFo.out b hb).2))
        have HRep13 := mkHid hrep6
        have HKa6 := mkHid hka6
        clear hst6 hrep6 hka6 hage6 hnx6 HRun HRR5
        generalize keepK k2 st6 = k3 at *
        go_wp2_with fail
        refine Calls.mono (num_any 0 w13 (by omega) (by omega)) ?_
        rintro e w' ⟨rfl, hw'⟩
        rw [hw']
        clear hw' w'
        go_wp2_with fail
        refine Calls.mono (state_of HRep13.out HKa6.out) ?_
        rintro e w14 ⟨p8, c8, l8, rfl, ht8, hf8⟩
        have HE8 := mkHid hf8
        have HT8 := mkHid ht8
        clear hf8 ht8
        go_wp2_with fail
        refine Calls.mono (rState_of (HRR13.out.idle HE8.out) HRK5.out HKa6.out) ?_
        rintro e w15 ⟨p9, c9, l9, rfl, ht9, hf9⟩
        have HE9 : Hid (Fr [] w13 w15) := HE8.out.trans hf9 (by simp)
        have HSS := mkHid (told_same (words := xn) (oops := yn) (mark := zn) (HT8.out.fr hf9 (by simp)) ht9)
        clear hf9 ht9 HT8 HE8
        go_wp2_with fail
        refine Calls.mono HSS.out ?_
        rintro e w16 ⟨rfl, hf16⟩
        have HFz : Hid (Fr [] W w16) := ((F1.out.trans HF13.out (by simp)).trans HE9.out (by simp)).trans hf16 (by simp)
        clear hf16
        go_wp2_with fail
        go_ret
        exact ⟨rfl, HFz.out⟩
end Go.Proofs.YtpaekbghnejhoaaDoor
