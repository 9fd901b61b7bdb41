import Derived.Test.YtpaekbghnejhoaaDoorKG12CMarked
import Derived.Test.YtpaekbghnejhoaaDoorKG15CQuiet
import Derived.Test.YtpaekbghnejhoaaDoorKG10HTakesN
import Derived.WalkKit
import Derived.OpenShut
import Derived.LaidMore
import Derived.SizedLaws
import Derived.Deep.Slices
import Derived.ChangeSlices
import Derived.FnData
namespace Go.Proofs.YtpaekbghnejhoaaDoor
open Go.RowKit
set_option linter.unusedVariables false
attribute [local go_sem ↓] Go.wp_at_zero Go.wp_at_succ
set_option maxRecDepth 20000 in
set_option maxHeartbeats 4000000 in
theorem freely_any (x y z : Int) (ov rv nv : Value) (la : List OI) (roots sizes : List Int) (W : World) (ha : SAt W ov la) (hr : Rd W rv roots) (hn : Rd W nv sizes) (hT : Tab W) (hT2 : Tab64 W) (hT0 : 1 < W.heap.size) :
    Calls Tryd.prog 3 #[.agg #[.int .i64 x, .int .i64 y, .int .i64 z, ov], rv, nv] W fun e w' => e = .returned (.bool true) ∧ Fr [] W w' := by
  obtain ⟨pa, ca, rfl, -⟩ := ha.at_
  obtain ⟨pr, cr, rfl, -⟩ := hr.at_
  obtain ⟨pn, cn, rfl, -⟩ := hn.at_
  obtain ⟨W1, hW1⟩ : ∃ W1, W1 = W.alloc (.cells #[.int .i64 x, .int .i64 y, .int .i64 z, .slice pa la.length ca] 24) := ⟨_, rfl⟩
  have F1 : Hid (Fr [] W W1) := by rw [hW1]; exact Fr.alloc [] _ _
  have hB : W1.heap[W.heap.size]? = some (.cells #[.int .i64 x, .int .i64 y, .int .i64 z, .slice pa la.length ca] 24 (0, 0)) := by rw [hW1]; exact heap_alloc_new _ _
  have HS0 := mkHid hB
  have HS : Hid (∀ V, Fr [] W1 V → V.cell? ⟨W.heap.size, 0, none⟩ = some (.int .i64 x) ∧ V.cell? ⟨W.heap.size, 1, none⟩ = some (.int .i64 y) ∧ V.cell? ⟨W.heap.size, 2, none⟩ = some (.int .i64 z) ∧ V.cell? ⟨W.heap.size, 3, none⟩ = some (.slice pa la.length ca)) := fun V hV => by
    have hb := (hV.block _ (lt_of_heap hB) (by simp)).trans hB
    exact ⟨by rw [cell_in hb]; rfl, by rw [cell_in hb]; rfl, by rw [cell_in hb]; rfl, by rw [cell_in hb]; rfl⟩
  have HA : Hid (∀ V, Fr [] W1 V → SAt V (.slice pa la.length ca) la) := fun V hV => ha.idle (F1.out.trans hV (by simp))
  have HR : Hid (∀ V, Fr [] W1 V → Rd V (.slice pr roots.length cr) roots) := fun V hV => hr.idle (F1.out.trans hV (by simp))
  have HN : Hid (∀ V, Fr [] W1 V → Rd V (.slice pn sizes.length cn) sizes) := fun V hV => hn.idle (F1.out.trans hV (by simp))
  have HTb : Hid (∀ V, Fr [] W1 V → Tab V ∧ 0 < V.heap.size) := fun V hV => ⟨hT.fr (F1.out.trans hV (by simp)) (by omega), by have := (F1.out.trans hV (by simp)).size; omega⟩
  have HT64 : Hid (∀ V, Fr [] W1 V → Tab64 V) := fun V hV => hT2.keep (F1.out.trans hV (by simp)) (by omega) (by simp)
  have s1 := ha.short
  have s2 := hr.short
  have s3 := hn.short
  have HLd := mkHid (load_row x y z _ la W1 (HA.out W1 (Fr.refl _ _)) (HTb.out W1 (Fr.refl _ _)).1 (HTb.out W1 (Fr.refl _ _)).2)
  clear ha hr hn hT hT2 hB
  go_enter Tryd.func3, Tryd.ntmps3
  obtain ⟨c0, c1, c2, c3⟩ := HS.out W1 (Fr.refl _ _)
  go_wp2_with fail
  rw [← hW1]
  refine Calls.mono HLd.out ?_
  clear HLd hW1
  rintro e w1 (⟨n, hn0, hn1, hn2, rfl, hf⟩ | ⟨xn, yn, zn, l, H, M, rfl, rfl, rfl, hxn, hyn, rfl, hrep, hk, hf1, hnew⟩)
  · have hb : (n == 0) = false := by simpa using hn0
    have hb2 : (n != 0) = true := by simpa using hn0
    have HAl := mkHid (alive_ok w1 (HTb.out w1 hf).1 (HTb.out w1 hf).2)
    have HF := mkHid (F1.out.trans hf (by simp))
    clear hn0 hf
    go_wp2_with fail
    refine Calls.mono (num_any n w1 (by omega) (by omega)) ?_
    rintro e w2 ⟨rfl, rfl⟩
    go_wp2_with fail
    refine Calls.mono HAl.out ?_
    rintro e w3 ⟨rfl, hf3⟩
    have HF3 := mkHid hf3
    clear hf3
    go_wp2_with fail
    go_ret
    exact ⟨rfl, HF.out.trans HF3.out (by simp)⟩
  · have h2a : 2 ≤ W1.heap.size + 1 := by have := F1.out.size; omega
    generalize ha : W1.heap.size + 1 = a at *
    have hagz := hk.age
    have HK := mkHid hk.ka
    have HRe := mkHid hrep
    have HF1 := mkHid hf1
    have HNw := mkHid hnew
    have HAge : Hid (H.age = 0) := hagz
    clear hk hrep hf1 hnew hagz
    go_wp2_with fail
    refine Calls.mono (num_any 0 w1 (by decide) (by decide)) ?_
    rintro e w2 ⟨rfl, rfl⟩
    obtain ⟨v3, V3, hr3, ho3, hf3⟩ := run_copy roots _ w2 (HR.out w2 HF1.out)
    have HR3 := mkHid hr3
    have HF3 : Hid (Fr [] w2 V3) := hf3
    have HRd3 := mkHid (own_rd ho3 s2)
    obtain ⟨p3, c3', rfl, -⟩ := HRd3.out.at_
    clear hr3 ho3 hf3
    go_wp2_with (at_builtin; refine Lib.wpList_append_run _ rfl (.const (.slice none 0 0)) (.tmp 43) 25 25 rfl _ _ rfl rfl _ _ HR3.out ?_)
    clear HR3
    refine Calls.mono (Run_ok a l H M p3 c3' roots V3 (HRe.out.keep HF3.out (by simp)) HK.out.inv (HTb.out V3 (HF1.out.trans HF3.out (by simp))).1 HRd3.out (by have := HAge.out; omega)) ?_
    rintro e w4 ⟨rs, hsr, rfl, hrep, -, hnx⟩
    have hlf := left_of HK.out hsr (by have := HAge.out; omega)
    have hstl : (stays H rs).length ≤ 65538 := by
      have h0 := HK.out.inv.told.seats
      have h1 : (stays H rs).length ≤ H.seats.length := Nat.le_trans (List.length_filter_le _ _) (allTo_len H _)
      omega
    generalize stays H rs = st at *
    have HFX : Hid (Fr [] W1 w4) := (HF1.out.trans HF3.out (by simp)).trans hnx.1 (fun b hb => .inr (HNw.out b hb))
    have HLf := mkHid hlf
    have HHold := mkHid (hlf.ka.hold (by show H.age + 1 ≤ 1000; have := HAge.out; omega))
    have HSt : Hid (∀ o : Nat, (∀ k ∈ (la.filter (inSt st)).map oiKey, k.1 ≠ (o : Int) + 1) → ((o : Int) + 1) ∉ zs st) := fun o ho hm => by
      obtain ⟨q, hq, e⟩ := mem_zs.1 hm
      rw [← hlf.all] at hq
      have h1 := (mem_all hlf.ka.inv q).1 hq
      obtain ⟨k, k1, k2⟩ := hlf.ka.only _ h1.2
      exact ho k k1 (by omega)
    have HR4 := mkHid hrep
    have hse := hlf.ka.inv.told.seats
    generalize ((H.count : Int) - ((keepH H st).count : Int)) = n1 at *
    generalize ((H.mem.length : Int) - ((keepH H st).mem.length : Int)) = n2 at *
    clear hsr hrep hnx hlf HF3 HRd3 HRe HK HF1
    go_wp2_with fail
    refine Calls.mono (All_ok a l (keepH H st) w4 HR4.out hse) ?_
    rintro e w5 ⟨v5, rfl, hrow5, hf5⟩
    rw [HLf.out.all] at hrow5
    have hzl : (zs st).length = st.length := by simp [zs]
    have hrd5 := own_rd (own_ints hrow5) (by omega)
    obtain ⟨p5, c5, rfl, -⟩ := hrd5.at_
    rw [hzl] at hrow5 hrd5 ⊢
    have HRow5 := mkHid hrow5
    have HF5 := mkHid hf5
    clear hrow5 hrd5 hf5 hse
    go_wp2_with fail
    refine Calls.mono (state_of (HR4.out.keep HF5.out (by simp)) HLf.out.ka) ?_
    rintro e w6 ⟨pt, ct, lo, rfl, htl, hf6⟩
    have hlen := HLf.out.len
    rw [List.length_map, hlen] at htl ⊢
    obtain ⟨W7, hW7⟩ : ∃ W7, W7 = w6.alloc (.cells #[.int .i64 (xn : Int), .int .i64 (yn : Int), .int .i64 (zn : Int), .slice pt st.length ct] 24) := ⟨_, rfl⟩
    have F7 : Hid (Fr [] w4 W7) := by rw [hW7]; exact (HF5.out.trans hf6 (by simp)).trans (Fr.alloc [] _ _) (by simp)
    have F57 : Hid (Fr [] w5 W7) := by rw [hW7]; exact hf6.trans (Fr.alloc [] _ _) (by simp)
    have HTl : Hid (Tld W7 w5.heap.size (.slice pt st.length ct) lo ((la.filter (inSt st)).map oiKey)) := by rw [hW7]; exact htl.fr (Fr.alloc [] _ _) (by simp)
    have HTB : Hid (W7.heap[w6.heap.size]? = some (.cells #[.int .i64 (xn : Int), .int .i64 (yn : Int), .int .i64 (zn : Int), .slice pt st.length ct] 24 (0, 0))) := by rw [hW7]; exact heap_alloc_new _ _
    have hTT : w4.heap.size ≤ w6.heap.size := Nat.le_trans HF5.out.size hf6.size
    generalize hT : w6.heap.size = T at *
    clear htl hf6
    go_wp2_with fail
    rw [← hW7]
    clear hW7
    refine Calls.mono (num_any 0 W7 (by decide) (by decide)) ?_
    rintro e w7 ⟨rfl, rfl⟩
    have HR7 := mkHid (HR4.out.keep F7.out (by simp))
    go_wp2_with fail
    refine Calls.mono (Mark_in 0 a l (keepH H st) w7 HR7.out (by decide)) ?_
    rintro e w8 ⟨rfl, hr8, hf8, hs8⟩
    have HR8 := mkHid hr8
    have HN8 : Hid (Nx a l l w7 w8) := Nx.fr hf8
    clear hr8 hf8 hs8
    go_wp2_with fail
    refine Calls.mono (num_any 0 w8 (by decide) (by decide)) ?_
    rintro e w9 ⟨rfl, rfl⟩
    have hal : a ∈ foot a l := by simp [foot]
    have HFo : Hid (∀ g ∈ foot a l, g < w4.heap.size) := HR4.out.lt
    have HV : Hid (∀ (l' : Lay) (V : World), Nx a l l' w9 V → Fr [] W1 V ∧ Rd V (.slice p5 st.length c5) (zs st) ∧ Tld V w5.heap.size (.slice pt st.length ct) lo ((la.filter (inSt st)).map oiKey) ∧ V.heap[T]? = some (.cells #[.int .i64 (xn : Int), .int .i64 (yn : Int), .int .i64 (zn : Int), .slice pt st.length ct] 24 (0, 0))) := fun l' V hV => by
      have hN := HN8.out.trans hV
      refine ⟨(HFX.out.trans F7.out (by simp)).trans hN.1 (fun b hb => .inr (HNw.out b hb)), ?_, HTl.out.fr hN.1 (fun g hg => Nat.lt_of_lt_of_le (HFo.out g hg) HF5.out.size), ?_⟩
      · have h1 := own_congr (own_congr HRow5.out fun g hg => F57.out.block g (HRow5.out.lt g hg).2 (by simp)) (w' := V) fun g hg => hN.1.block g (Nat.lt_of_lt_of_le (HRow5.out.lt g hg).2 F57.out.size) (fun hm => by have h1 := (HRow5.out.lt g hg).1; have h2 := HFo.out g hm; omega)
        exact own_rd (own_ints h1) (by omega)
      · exact (hN.1.block _ (lt_of_heap HTB.out) (fun hm => by have := HFo.out _ hm; omega)).trans HTB.out
    clear F7 F57 HTl HTB HR7 HN8 HRow5 HFX HF5 HR4
    go_wp2_with fail
    go_loopw [14] (fun q wr => ∃ i : Nat, i ≤ sizes.length ∧ q = .int .i64 i ∧ Hid (∃ l' H' M', Rep wr a l' H' ∧ Hold xn yn ((la.filter (inSt st)).map oiKey) H' M' ∧ Nx a l l' w9 wr)) (fun q _ => sizes.length - (intOf q).toNat)
    case atStart => exact ⟨0, Nat.zero_le _, rfl, l, _, _, HR8.out, HHold.out, Nx.refl _ _ _⟩
    case round =>
      obtain ⟨i, hin, rfl, hq⟩ := hrel
      have i1 : (0 : Int) ≤ (i : Int) := by omega
      by_cases hlt : i < sizes.length ∧ i < 100
      · obtain ⟨hlt, h100⟩ := hlt
        have i2 : (i : Int) < (sizes.length : Int) := by omega
        have i3 : (i : Int) < 100 := by omega
        obtain ⟨l', H', M', hr', hh', hx'⟩ := hq.out
        obtain ⟨hfw, hrl, -, -⟩ := HV.out l' wr hx'
        obtain ⟨p', c', ep, hat⟩ := (HN.out wr hfw).at_
        injection ep with ep1 _ ep2
        subst ep1 ep2
        obtain ⟨gs, os, rfl, hgl, hcs⟩ := hat (by omega)
        have hz := hcs i hlt
        generalize sizes.getD i 0 = zz at *
        have hz1 : -50 < zz.tmod 50 ∧ zz.tmod 50 < 50 := by
          have h1 := Int.emod_nonneg zz (show (50 : Int) ≠ 0 by decide)
          have h2 := Int.emod_lt_of_pos zz (show (0 : Int) < 50 by decide)
          rw [Int.tmod_eq_emod]
          split <;> omega
        have hw1 : IntKind.i64.wrap (zz.tmod 50 + 50) = zz.tmod 50 + 50 := by rw [iwrap]; unfold wrap64; omega
        obtain ⟨nn, hnn⟩ : ∃ nn : Nat, (zz.tmod 50 + 50).tmod 50 = (nn : Int) := by
          rw [Int.tmod_eq_emod_of_nonneg (by omega)]
          exact ⟨((zz.tmod 50 + 50) % 50).toNat, by have := Int.emod_nonneg (zz.tmod 50 + 50) (show (50 : Int) ≠ 0 by decide); omega⟩
        have hn50 : nn < 50 := by
          have h1 := Int.tmod_lt_of_pos (zz.tmod 50 + 50) (show (0 : Int) < 50 by decide)
          omega
        have HAl := mkHid (free_alloc hh' a l' wr hr' (HTb.out wr hfw).1 (HT64.out wr hfw) h2a nn (by omega))
        have HX := mkHid hx'
        have HRl := mkHid hr'
        have HHh := mkHid hh'
        clear hq hr' hh' hx' hat hcs hrl
        go_wp2_with fail
        refine Calls.mono HAl.out ?_
        rintro e w10 (⟨rfl, hr10, hx10⟩ | ⟨o, l2, H2, M2, rfl, hr10, hx10, hh10, hne, ho, hth, hfm, hsl⟩)
        · have HNx : Hid (∃ l' H' M', Rep w10 a l' H' ∧ Hold xn yn ((la.filter (inSt st)).map oiKey) H' M' ∧ Nx a l l' w9 w10) := ⟨l', H', M', hr10, HHh.out, HX.out.trans hx10⟩
          clear HAl HX HRl HHh hr10 hx10
          go_wp2_with fail
          refine Calls.mono (num_any 23 w10 (by decide) (by decide)) ?_
          rintro e w11 ⟨rfl, rfl⟩
          go_wp2_with fail
          refine Calls.mono (num_any 23 w11 (by decide) (by decide)) ?_
          rintro e w12 ⟨rfl, rfl⟩
          go_wp2_with fail
          go_roundw
          case rel => exact ⟨i + 1, by omega, by go_num, HNx⟩
          case measure => simp [intOf]; omega
        · have hxt := HX.out.trans hx10
          obtain ⟨hfw2, hrl2, -, -⟩ := HV.out l2 w10 hxt
          have hni := HSt.out o hne
          have HIn := mkHid (in_ok (zs st) ((o : Int) + 1) _ w10 hrl2)
          rw [decide_eq_false hni] at HIn
          have HPut := mkHid (free_put hh10 a l2 w10 hr10 (HTb.out w10 hfw2).1 o nn hne hth hfm hsl)
          have HXt := mkHid hxt
          clear HAl HX HRl HHh hr10 hx10 hh10 hne hth hfm hsl hxt hrl2 hni
          go_wp2_with fail
          refine Calls.mono (num_any 0 w10 (by decide) (by decide)) ?_
          rintro e w11 ⟨rfl, rfl⟩
          go_wp2_with fail
          refine Calls.mono HIn.out ?_
          rintro e w12 ⟨rfl, rfl⟩
          go_wp2_with fail
          refine Calls.mono (num_any 0 w12 (by decide) (by decide)) ?_
          rintro e w13 ⟨rfl, rfl⟩
          go_wp2_with fail
          refine Calls.mono HPut.out ?_
          rintro e w14 ⟨zr, H3, M3, rfl, hr14, hx14, hh14⟩
          have HNx : Hid (∃ l' H' M', Rep w14 a l' H' ∧ Hold xn yn ((la.filter (inSt st)).map oiKey) H' M' ∧ Nx a l l' w9 w14) := ⟨l2, H3, M3, hr14, hh14, HXt.out.trans hx14⟩
          clear HIn HPut hr14 hx14 hh14 HXt
          go_wp2_with fail
          go_roundw
          case rel => exact ⟨i + 1, by omega, by go_num, HNx⟩
          case measure => simp [intOf]; omega
      · obtain ⟨l', H', M', hr', hh', hx'⟩ := hq.out
        obtain ⟨hfw, -, htl, htb⟩ := HV.out l' wr hx'
        have HRw := mkHid hr'
        have HHw := mkHid hh'
        have HFw := mkHid hfw
        have HNw2 : Hid (∀ b ∈ foot a l', W1.heap.size ≤ b) := fun b hb => by
          rcases hx'.2 b hb with h1 | h1
          · exact HNw.out b h1
          · have h2 := hfw.size
            have h3 := (HV.out l w9 (Nx.refl _ _ _)).1.size
            omega
        have HTw := mkHid htl
        have HBw := mkHid htb
        have HC0 : Hid (∀ V, Fr [] wr V → V.cell? ⟨T, 3, none⟩ = some (.slice pt st.length ct)) := fun V hV => by
          have hb := (hV.block _ (lt_of_heap HBw.out) (by simp)).trans HBw.out
          rw [cell_in hb]; rfl
        have hkl : (lo.map toOI).length = st.length := by
          have h1 := congrArg List.length htl.keys
          rw [List.length_map, List.length_map, List.length_map, hlen] at h1
          rw [List.length_map]; exact h1
        clear hq hr' hh' hx' hfw htl htb HR8 HHold HV HSt
        generalize hwe : wr = we at *
        clear hwe
        have hcase : (¬ (i : Int) < 100 ∧ (i : Int) < (sizes.length : Int)) ∨ ¬ (i : Int) < (sizes.length : Int) := by omega
        rcases hcase with ⟨h100, i2⟩ | i2
        all_goals
          clear hlt
          go_wp2_with fail
          go_loopw [18] (fun q wr => ∃ j : Nat, j ≤ st.length ∧ q = .int .i64 j ∧ Hid (Fr [] we wr)) (fun q _ => st.length - (intOf q).toNat)
          case atStart => exact ⟨0, Nat.zero_le _, rfl, Fr.refl _ _⟩
          case round =>
            obtain ⟨j, hjn, rfl, hq⟩ := hrel
            have j1 : (0 : Int) ≤ (j : Int) := by omega
            have t3 := HC0.out _ hq.out
            by_cases hj : j < st.length
            · have j2 : (j : Int) < (st.length : Int) := by omega
              have htk := HTw.out.fr hq.out (by simp)
              obtain ⟨pt', ct', ept, htat⟩ := htk.sat.at_
              rw [hkl] at ept htat
              injection ept with ep1 _ ep2
              subst ep1 ep2
              obtain ⟨gt, ot, rfl, hct⟩ := htat (by omega)
              obtain ⟨o', ho', u0, u1, u2, u3⟩ := hct j hj
              have hrt := htk.sat.slots o' (List.mem_of_getElem? ho')
              have hkm : oiKey o' ∈ (la.filter (inSt st)).map oiKey := by rw [← htk.keys]; exact List.mem_map_of_mem (List.mem_of_getElem? ho')
              obtain ⟨oo, oc, of_, os, ovv⟩ := o'
              dsimp only at *
              have hos := hrt.short
              have HRo := mkHid hrt
              obtain ⟨pv, cv, rfl, -⟩ := hrt.at_
              have HKm := mkHid hkm
              clear htat hct ho' hrt hkm htk
              generalize hV1 : wr.alloc (.cells #[.int .i64 oo, .int .i64 oc, .int .i64 of_, .slice pv os.length cv] 44) = V1
              have HF1 : Hid (Fr [] wr V1) := by rw [← hV1]; exact Fr.alloc [] _ _
              have HBX : Hid (V1.heap[wr.heap.size]? = some (.cells #[.int .i64 oo, .int .i64 oc, .int .i64 of_, .slice pv os.length cv] 44 (0, 0))) := by rw [← hV1]; exact heap_alloc_new _ _
              have HFV : Hid (Fr [] we V1) := hq.out.trans HF1.out (by simp)
              have HCl : Hid (∀ V, Fr [] V1 V → V.cell? ⟨wr.heap.size, 0, none⟩ = some (.int .i64 oo) ∧ V.cell? ⟨wr.heap.size, 3, none⟩ = some (.slice pv os.length cv)) := fun V hV => by
                have hb := (hV.block _ (lt_of_heap HBX.out) (by simp)).trans HBX.out
                exact ⟨by rw [cell_in hb]; rfl, by rw [cell_in hb]; rfl⟩
              have HRo2 : Hid (∀ V, Fr [] V1 V → Rd V (.slice pv os.length cv) os) := fun V hV => (HRo.out.idle HF1.out).idle hV
              have HAtk : Hid (∀ V, Fr [] V1 V → ∀ k, k < os.length → Calls Tryd.prog 17 #[.pointer (some ⟨a, 0, none⟩), .int .i64 oo, .int .i64 (k : Int)] V fun e w' => e = .returned (.tuple #[.int .i64 (os.getD k 0), .int .i64 0]) ∧ Fr [] V w') := fun V hV k hk =>
                free_at HHw.out a l' V (HRw.out.keep (HFV.out.trans hV (by simp)) (by simp)) (oo, oc, of_, os) HKm.out k hk
              clear HRo HKm
              go_wp2_with fail
              clear hV1
              go_loopw [20] (fun q wr2 => ∃ k : Nat, k ≤ os.length ∧ q = .int .i64 k ∧ Hid (Fr [] V1 wr2)) (fun q _ => os.length - (intOf q).toNat)
              case atStart => exact ⟨0, Nat.zero_le _, rfl, Fr.refl _ _⟩
              case round =>
                obtain ⟨k, hkn, rfl, hq3⟩ := hrel
                have kk1 : (0 : Int) ≤ (k : Int) := by omega
                obtain ⟨y0, y3⟩ := HCl.out _ hq3.out
                by_cases hk : k < os.length
                · have kk2 : (k : Int) < (os.length : Int) := by omega
                  have HC := mkHid (HAtk.out _ hq3.out k hk)
                  obtain ⟨pv', cv', epv, hpv⟩ := (HRo2.out _ hq3.out).at_
                  injection epv with ev1 _ ev2
                  subst ev1 ev2
                  obtain ⟨gv, ov2, rfl, hgv, hcv⟩ := hpv (by omega)
                  have hz := hcv k hk
                  generalize os.getD k 0 = zz at *
                  clear hpv hcv
                  go_wp2_with fail
                  refine Calls.mono HC.out ?_
                  rintro e w20 ⟨rfl, hf20⟩
                  have hz2 := (hf20.cell (p := ⟨gv, ov2 + k, none⟩) hgv (by simp)).trans hz
                  have HF20 : Hid (Fr [] V1 w20) := hq3.out.trans hf20 (by simp)
                  obtain ⟨y0', y3'⟩ := HCl.out _ HF20.out
                  clear hz y0 y3 hf20
                  go_wp2_with fail
                  refine Calls.mono (num_any 0 w20 (by decide) (by decide)) ?_
                  rintro e w21 ⟨rfl, rfl⟩
                  go_wp2_with fail
                  go_roundw
                  case rel => exact ⟨k + 1, by omega, by go_num, HF20⟩
                  case measure => simp [intOf]; omega
                · have hke : k = os.length := by omega
                  subst hke
                  have HF20 : Hid (Fr [] we _) := HFV.out.trans hq3.out (by simp)
                  clear hk
                  go_wp2_with fail
                  go_roundw
                  case rel => exact ⟨j + 1, by omega, by go_num, HF20⟩
                  case measure => simp [intOf]; omega
            · have hje : j = st.length := by omega
              subst hje
              have HFz : Hid (Fr [] W1 wr) := HFw.out.trans hq.out (by simp)
              have HRz := mkHid (HRw.out.keep hq.out (by simp))
              have hrd : Rd wr (.slice none ([] : List Int).length 0) [] := ⟨⟨none, 0, rfl, fun h => by simp at h⟩, fun c hc => by injection hc with _ _ e; exact e.symm, by simp⟩
              have HRun := mkHid (Run_ok a l' H' M' none 0 [] wr HRz.out HHw.out.inv (HTb.out wr HFz.out).1 hrd (by have := HHw.out.age; omega))
              clear hrd hj
              go_wp2_with fail
              refine Calls.mono HRun.out ?_
              rintro e w30 ⟨rs2, hsr2, rfl, hrep2, hinv2, hnx2⟩
              have hba := free_none HHw.out hsr2 hinv2
              have HFy : Hid (Fr [] W1 w30) := HFz.out.trans hnx2.1 (fun b hb => .inr (HNw2.out b hb))
              have HR30 := mkHid hrep2
              generalize keepH H' (stays H' rs2) = H5 at *
              generalize ((H'.count : Int) - (H5.count : Int)) = m1 at *
              generalize ((H'.mem.length : Int) - (H5.mem.length : Int)) = m2 at *
              have HBa := mkHid hba
              clear hsr2 hrep2 hinv2 hnx2 hba HRun
              go_wp2_with fail
              refine Calls.mono (Room_any a l' H5 w30 HR30.out HBa.out.small) ?_
              rintro e w31 ⟨rfl, n31, hw31⟩
              rw [HBa.out.room1, HBa.out.room2]
              have HF31 : Hid (Fr [] w30 w31) := by rw [hw31]; exact Fr.drewN [] _ _
              have HFx : Hid (Fr [] W1 w31) := HFy.out.trans HF31.out (by simp)
              obtain ⟨d0, d1, d2, d3⟩ := HS.out w31 HFx.out
              clear hw31
              go_wp2_with fail
              refine Calls.mono (num_any 0 w31 (by decide) (by decide)) ?_
              rintro e w32 ⟨rfl, rfl⟩
              go_wp2_with fail
              refine Calls.mono (All_ok a l' H5 w32 (HR30.out.keep HF31.out (by simp)) HBa.out.seats) ?_
              rintro e w33 ⟨v33, rfl, hrow33, hf33⟩
              rw [HBa.out.all] at hrow33
              obtain ⟨p33, c33, hv33, -⟩ := own_slot (ss := []) (by simpa using hrow33)
              subst hv33
              have HF33 : Hid (Fr [] W1 w33) := HFx.out.trans hf33 (by simp)
              have HAl := mkHid (alive_ok w33 (HTb.out w33 HF33.out).1 (HTb.out w33 HF33.out).2)
              clear hrow33 hf33 d0 d1 d2 d3
              go_wp2_with fail
              refine Calls.mono HAl.out ?_
              rintro e w34 ⟨rfl, hf34⟩
              have HF34 := mkHid hf34
              clear hf34
              go_wp2_with fail
              go_ret
              exact ⟨rfl, (F1.out.trans HF33.out (by simp)).trans HF34.out (by simp)⟩
end Go.Proofs.YtpaekbghnejhoaaDoor
namespace Go.Proofs.YtpaekbghnejhoaaDoor
open Go.ChangeShapes Go.WideShapes Go.RowKit
set_option linter.unusedVariables false
theorem weightsAll_mem {H : Type} {P : Program} {e : TypeId} {d : DataW H} : ∀ {ds : List (DataW H)}, d ∈ ds → ∀ n ∈ d.weights P e, n ∈ DataW.weightsAll P e ds := by
  intro ds
  induction ds with
  | nil => intro h; simp at h
  | cons x ds ih =>
    intro h n hn
    unfold DataW.weightsAll
    rcases List.mem_cons.1 h with rfl | h
    · exact List.mem_append_left _ hn
    · exact List.mem_append_right _ (ih h n hn)
namespace OpenS
theorem c106 : Tryd.prog.cellsOf 44 = 4 := by kernel_rfl
theorem c3 : Tryd.prog.cellsOf 3 = 1 := by kernel_rfl
theorem c33 : Tryd.prog.cellsOf 40 = 1 := by kernel_rfl
theorem c36 : Tryd.prog.cellsOf 22 = 1 := by kernel_rfl
theorem c80 : Tryd.prog.cellsOf 25 = 1 := by kernel_rfl
theorem b33 : Tryd.prog.bytesOf 40 = 8 := by kernel_rfl
theorem b106 : Tryd.prog.bytesOf 44 = 48 := by kernel_rfl
end OpenS
section
variable {H : Type} {enc : TypeId × Value → H} {w : World} {spare : Nat → Bool} {held : Bool}
/-- a list of words, opened -/
theorem open_words {fuel : Nat} {u : Value} {y : DataW H × List MemPlace} (h : DataW.trod enc Tryd.prog w 0 spare held fuel 25 [u] = some y) (hz : ∀ n ∈ y.1.weights Tryd.prog 25, n ≤ reachBytes) :
    ∃ zs : List Int, Rd w u zs := by
  rcases open_ints Tryd.underlying25 Tryd.underlying40 OpenS.c33 h with ⟨hcs, _⟩ | ⟨a, len, cap, zs, hcs, _, hl, hm, hzl, hx, hc, _⟩
  · simp at hcs
    exact ⟨[], ⟨none, 0, hcs, fun h => by simp at h⟩, fun c hc => by rw [hcs] at hc; injection hc with _ _ e; exact e.symm, by simp⟩
  · simp at hcs
    have hlz : len ≤ zs.length := by rw [hzl]; split <;> omega
    have htl : (zs.take len).length = len := by simp; omega
    refine ⟨zs.take len, ⟨some a, cap, by rw [htl]; exact hcs, fun hpos => ?_⟩, fun c hc => (by rw [hcs] at hc; injection hc with e; cases e), ?_⟩
    · rw [htl] at hpos
      obtain ⟨b, off, spot⟩ := a
      have hspot : spot = none := by simpa [Addr.add] using World.cell?_spot (hc 0 (by omega))
      subst hspot
      have hcell : ∀ j, j < len → w.cell? ⟨b, off + j, none⟩ = some (.int .i64 (zs.getD j 0)) := fun j hj => by
        have := hc j (by omega)
        rwa [Addr.add_mid] at this
      refine ⟨b, off, rfl, World.block_lt_of_cell? w ⟨b, off + 0, none⟩ (hcell 0 hpos), fun j hj => ?_⟩
      rw [htl] at hj
      rw [hcell j hj, List.getD_eq_getElem?_getD, List.getD_eq_getElem?_getD, List.getElem?_take, if_pos hj]
    · rw [htl]
      have hw := hz (((lits (H := H) .i64 (zs.take len)).length + (lits (H := H) .i64 (zs.drop len)).length) * Tryd.prog.bytesOf 40) (by rw [hx]; simp [DataW.weights, Tryd.underlying25])
      have e1 : (lits (H := H) .i64 (zs.take len)).length = len := by simp [lits]; omega
      rw [e1, OpenS.b33] at hw
      unfold reachBytes at hw
      omega
set_option maxRecDepth 20000 in
/-- the objects of a state, opened -/
theorem open_objs {fuel : Nat} {u : Value} {x : DataW H × List MemPlace} (h : DataW.trod enc Tryd.prog w 0 spare held fuel 22 [u] = some x) (hz : ∀ n ∈ x.1.weights Tryd.prog 22, n ≤ reachBytes) :
    ∃ la : List OI, SAt w u la := by
  rcases Go.Deep.open_slice Tryd.underlying22 h with ⟨hcs, rfl⟩ | ⟨a, len, cap, m, n, D, Pl, hcs, _, hl, hm, hmm, rfl, hx⟩
  · simp at hcs
    exact ⟨[], ⟨none, 0, hcs, fun h => by simp at h⟩, by simp, by simp⟩
  · simp at hcs
    by_cases h0 : len = 0
    · subst h0
      exact ⟨[], ⟨some a, cap, hcs, fun h => by simp at h⟩, by simp, by simp⟩
    · have hlm : len ≤ m := by rw [hmm]; split <;> omega
      rw [OpenS.c106] at hx
      obtain ⟨b, off, spot⟩ := a
      have hspot : spot = none := by
        obtain ⟨cs', h1, h2⟩ := hx 0 (by omega)
        obtain ⟨_, hlen, hcell⟩ := World.cells?_some h1
        have := hcell 0 (by omega)
        rw [Go.Deep.add_add] at this
        match cs', hlen with
        | u :: _, _ => simpa [Addr.add] using World.cell?_spot this
      subst hspot
      have hstep : ∀ i, i < len → ∃ o : OI, w.cell? ⟨b, off + i * 4, none⟩ = some (.int .i64 o.oop) ∧ w.cell? ⟨b, off + i * 4 + 1, none⟩ = some (.int .i64 o.cls) ∧ w.cell? ⟨b, off + i * 4 + 2, none⟩ = some (.int .i64 o.fmt) ∧ w.cell? ⟨b, off + i * 4 + 3, none⟩ = some o.v ∧ Rd w o.v o.slots := fun i hi => by
        obtain ⟨cs', h1, h2⟩ := hx i (by omega)
        obtain ⟨_, hlen, hcell⟩ := World.cells?_some h1
        obtain ⟨xs, k, hk, hxy, _, hxl, hf⟩ := DataW.trod_struct Tryd.underlying44 h2
        match xs, hxl, cs', hlen with
        | [y0, y1, y2, y3], _, [t0, t1, t2, t3], _ =>
          have g0 := hf 0 _ rfl
          have g1 := hf 1 _ rfl
          have g2 := hf 2 _ rfl
          have g3 := hf 3 _ rfl
          simp [OpenS.c3, OpenS.c33, OpenS.c80] at g0 g1 g2 g3
          obtain ⟨A, e0, -, -⟩ := DataW.trod_int Tryd.underlying3 g0
          obtain ⟨B, e1, -, -⟩ := DataW.trod_int Tryd.underlying40 g1
          obtain ⟨C, e2, -, -⟩ := DataW.trod_int Tryd.underlying3 g2
          simp at e0 e1 e2
          obtain ⟨zs, hls⟩ := open_words g3 (fun n hn => by
            refine hz n ?_
            have hd : D i = .agg [y0.1, y1.1, y2.1, y3.1] := by simpa using congrArg Prod.fst hxy
            have h3 : n ∈ (D i).weights Tryd.prog 44 := by
              rw [hd]
              simp only [DataW.weights, Tryd.underlying44]
              exact DataW.weights_mem_each (j := 3) (t := 25) (d := y3.1) rfl rfl n hn
            simp only [DataW.weights, Tryd.underlying22]
            refine List.mem_cons_of_mem _ (List.mem_append_left _ (weightsAll_mem (d := D i) ?_ n h3))
            exact List.mem_map.2 ⟨i, List.mem_range.2 hi, rfl⟩)
          have m0 := hcell 0 (by omega)
          have m1 := hcell 1 (by omega)
          have m2 := hcell 2 (by omega)
          have m3 := hcell 3 (by omega)
          rw [Addr.add_mid, Addr.add_mid] at m0 m1 m2 m3
          simp at m0 m1 m2 m3
          subst e0 e1 e2
          exact ⟨⟨A, B, C, zs, t3⟩, m0, m1, m2, m3, hls⟩
      obtain ⟨f, hf⟩ : ∃ f : Nat → OI, ∀ i, i < len → w.cell? ⟨b, off + i * 4, none⟩ = some (.int .i64 (f i).oop) ∧ w.cell? ⟨b, off + i * 4 + 1, none⟩ = some (.int .i64 (f i).cls) ∧ w.cell? ⟨b, off + i * 4 + 2, none⟩ = some (.int .i64 (f i).fmt) ∧ w.cell? ⟨b, off + i * 4 + 3, none⟩ = some (f i).v ∧ Rd w (f i).v (f i).slots := by
        refine ⟨fun i => if hi : i < len then Classical.choose (hstep i hi) else ⟨0, 0, 0, [], .bool true⟩, fun i hi => ?_⟩
        simp only [dif_pos hi]
        exact Classical.choose_spec (hstep i hi)
      refine ⟨(List.range len).map f, ⟨some ⟨b, off, none⟩, cap, by simpa using hcs, fun _ => ⟨b, off, rfl, fun k hk => ?_⟩⟩, fun o ho => ?_, ?_⟩
      · have hk2 : k < len := by simpa using hk
        obtain ⟨a0, a1, a2, a3, _⟩ := hf k hk2
        exact ⟨f k, by rw [List.getElem?_map, List.getElem?_range hk2]; rfl, a0, a1, a2, a3⟩
      · obtain ⟨i, hi, rfl⟩ := List.mem_map.1 ho
        exact (hf i (List.mem_range.1 hi)).2.2.2.2
      · rw [List.length_map, List.length_range]
        have hw := hz ((((List.range len).map D).length + ((List.range (m - len)).map fun j => D (len + j)).length) * Tryd.prog.bytesOf 44) (by simp only [DataW.weights, Tryd.underlying22]; exact List.mem_cons_self ..)
        rw [List.length_map, List.length_range, List.length_map, List.length_range, OpenS.b106] at hw
        unfold reachBytes at hw
        have h5 : len * 48 ≤ (len + (m - len)) * 48 := Nat.mul_le_mul_right _ (by omega)
        omega
end
end Go.Proofs.YtpaekbghnejhoaaDoor

namespace Go.Proofs.YtpaekbghnejhoaaDoor
open Go.ChangeShapes Go.WideShapes
/-- a table of integers, cell by cell -/
theorem int_table {H : Type} {enc : TypeId × Value → H} {P : Program} {w : World} {base : Nat} {spare : Nat → Bool} {held : Bool} {fuel n : Nat} {t e : TypeId} {k : IntKind} {cs : List Value} {vals : List Int} {p : List MemPlace}
    (ht : P.underlying t = some (.array n e)) (he : P.underlying e = some (.int k)) (ce : P.cellsOf e = 1)
    (hd : DataW.trod enc P w base spare held fuel t cs = some (.agg (vals.map fun v => .lit (.int k v)), p)) (i : Nat) (hi : i < vals.length) :
    cs[i]? = some (.int k (vals.getD i 0)) := by
  obtain ⟨xs, m, _, hx, _, hn, hel⟩ := DataW.trod_array ht hd
  simp only [Prod.mk.injEq, DataW.agg.injEq] at hx
  have hlen : xs.length = vals.length := by
    have := congrArg List.length hx.1
    simpa using this.symm
  have h := hel i (by omega)
  rw [ce, Nat.mul_one] at h
  obtain ⟨x, hxi⟩ : ∃ x, xs[i]? = some x := ⟨xs[i]'(by omega), by rw [List.getElem?_eq_getElem (by omega)]⟩
  rw [hxi] at h
  obtain ⟨v, e1, e2, _⟩ := DataW.trod_int he h
  have hv : vals[i]? = some v := by
    have h3 := congrArg (fun l => l[i]?) hx.1
    simp only [List.getElem?_map, hxi, e2] at h3
    cases hvi : vals[i]? with
    | none => rw [hvi] at h3; simp at h3
    | some y => rw [hvi] at h3; simp at h3; rw [h3]
  have h4 : cs[i]? = some (.int k v) := by
    have h5 := congrArg (fun l => l[0]?) e1
    simpa [List.getElem?_take, List.getElem?_drop] using h5
  rw [h4, List.getD_eq_getElem?_getD, hv]
  rfl
end Go.Proofs.YtpaekbghnejhoaaDoor
