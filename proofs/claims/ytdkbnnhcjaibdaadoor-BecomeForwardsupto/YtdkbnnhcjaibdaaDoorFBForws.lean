import Derived.Test.YtdkbnnhcjaibdaaDoorFG38BFs
import Derived.Test.YtdkbnnhcjaibdaaDoorFG36BWipe
import Derived.Deep.RegionHeld3
import Derived.BigQuiet
namespace Go.Proofs.YtdkbnnhcjaibdaaDoor
open Go.RowKit
set_option linter.unusedVariables false
set_option linter.unusedSimpArgs false
attribute [local go_sem ↓] Go.wp_at_zero Go.wp_at_succ
theorem cap_ofF {w : World} {b n c g : Nat} {t : TypeId} {xs : List Value} (h : w.ownsRow b t 1 (.slice (some ⟨g, 0, none⟩) n c) n xs) : n ≤ c := by
  obtain ⟨-, h2⟩ := h
  rcases h2 with ⟨h2, h3⟩ | ⟨g', cap, cur, h2, h3, h4, h5, h6⟩
  · cases h2
  · injection h2 with _ _ e; subst e; simpa using h5
set_option maxRecDepth 20000 in
set_option maxHeartbeats 4000000 in
theorem forwards_any (x y z : Int) (ov va vb : Value) (la : List OI) (sa sb : List Int) (W : World) (ha : SAt W ov la) (hra : Rd W va sa) (hrb : Rd W vb sb) (hT : Tab W) (hT0 : 0 < W.heap.size) (hs : sa.length + sb.length ≤ 1048576) :
    Calls Tryd.prog 6 #[.agg #[.int .i64 x, .int .i64 y, .int .i64 z, ov], va, vb] W fun e w' => e = .returned (.bool true) ∧ Fr [] W w' := by
  obtain ⟨pa, ca, rfl, -⟩ := ha.at_
  obtain ⟨p1, k1, rfl, -⟩ := hra.at_
  obtain ⟨p2, k2, rfl, -⟩ := hrb.at_
  obtain ⟨W1, hW1⟩ : ∃ W1, W1 = W.alloc (.cells #[.int .i64 x, .int .i64 y, .int .i64 z, .slice pa la.length ca] 45) := ⟨_, rfl⟩
  have F1 : Hid (Fr [] W W1) := by rw [hW1]; exact Fr.alloc [] _ _
  have hB : W1.heap[W.heap.size]? = some (.cells #[.int .i64 x, .int .i64 y, .int .i64 z, .slice pa la.length ca] 45 (0, 0)) := by rw [hW1]; exact heap_alloc_new _ _
  have c0 : W1.cell? ⟨W.heap.size, 0, none⟩ = some (.int .i64 x) := by rw [cell_in hB]; rfl
  have c1 : W1.cell? ⟨W.heap.size, 1, none⟩ = some (.int .i64 y) := by rw [cell_in hB]; rfl
  have c2 : W1.cell? ⟨W.heap.size, 2, none⟩ = some (.int .i64 z) := by rw [cell_in hB]; rfl
  have c3 : W1.cell? ⟨W.heap.size, 3, none⟩ = some (.slice pa la.length ca) := by rw [cell_in hB]; rfl
  have HRa : Hid (Rd W1 (.slice p1 sa.length k1) sa) := hra.idle F1.out
  have HRb : Hid (Rd W1 (.slice p2 sb.length k2) sb) := hrb.idle F1.out
  have HT1 : Hid (Tab W1 ∧ 0 < W1.heap.size) := ⟨hT.fr F1.out hT0, Nat.lt_of_lt_of_le hT0 F1.out.size⟩
  have HLd := mkHid (loadedF x y z _ la W1 (ha.idle F1.out) HT1.out.1 HT1.out.2)
  clear ha hra hrb hT hT0 hB
  go_enter Tryd.func6, Tryd.ntmps6
  go_wp2_with fail
  rw [← hW1]
  refine Calls.mono HLd.out ?_
  clear HLd hW1 c0 c1 c2 c3
  rintro e w1 ⟨d, S, B, P, Q, rfl, hps, hrs, hS, hB1, hB2, hlen, hf1⟩
  have HPs := mkHid hps
  have HRs := mkHid hrs
  have HSS := mkHid hS
  have HF1 := mkHid hf1
  have HH1 := mkHid (handI_ok sa _ w1 (HRa.out.idle hf1) (by omega))
  clear hps hrs hS hf1
  go_wp2_with fail
  refine Calls.mono HH1.out ?_
  rintro e w4 ⟨gv, rfl, hg⟩
  obtain ⟨g, cg, rfl, hgb, hgl⟩ := hg.own.form (by simp)
  have HH2 := mkHid (handI_ok sb _ w4 (HRb.out.idle (HF1.out.trans hg.fr (by simp))) (by omega))
  have HG := mkHid hg
  clear hg HH1
  go_wp2_with fail
  refine Calls.mono HH2.out ?_
  rintro e w5 ⟨gv, rfl, hh⟩
  obtain ⟨g', cg', rfl, hgb', hgl'⟩ := hh.own.form (by simp)
  obtain ⟨L, hL⟩ : ∃ L : Lif, L = ⟨S, B, w1.heap.size, P, Q, w1.heap.size, g, cg, g', cg'⟩ := ⟨_, rfl⟩
  have hx4 := HG.out.idle hh.fr
  have F15 : Fr [] w1 w5 := HG.out.fr.trans hh.fr (by simp)
  have hst : FwSt W1 L d d (sa ++ [-71, -72]) (sb ++ [-71, -72]) w5 := by
    subst hL
    have e1 := HG.out.own.lt g rfl
    have e2 := hh.own.lt g' rfl
    have e3 := HG.out.fr.size
    exact ⟨HPs.out.keep F15 (by simp), HRs.out.keep F15 (by simp), hx4.own, own_base hh.own (by omega), HSS.out, hB1, by show B ≤ w1.heap.size; omega, by show g ≠ g'; omega, HF1.out.trans F15 (by simp), HT1.out.1, HT1.out.2⟩
  have eP : L.P = P := by rw [hL]
  have eQ : L.Q = Q := by rw [hL]
  have egx : L.gx = g := by rw [hL]
  have ecx : L.cx = cg := by rw [hL]
  have egy : L.gy = g' := by rw [hL]
  have ecy : L.cy = cg' := by rw [hL]
  have hla : (sa ++ [-71, -72]).length = sa.length + 2 := by simp
  have hlb : (sb ++ [-71, -72]).length = sb.length + 2 := by simp
  have hcx : sa.length + 2 ≤ cg := by have := cap_ofF hx4.own; omega
  have hcy : sb.length + 2 ≤ cg' := by have := cap_ofF hh.own; omega
  have b1 : (0 : Int) ≤ (sa.length : Int) := by omega
  have b2 : (sa.length : Int) ≤ (cg : Int) := by omega
  have b3 : (0 : Int) ≤ (sb.length : Int) := by omega
  have b4 : (sb.length : Int) ≤ (cg' : Int) := by omega
  have HX0 : Hid (KAx d) := hst.ps.2
  have hst5 := hst.idle (Fr.drew [] w5)
  have hSw := fw_fwd hst5 sa sb _ _ (hst5.argX (ss := sa) rfl (by omega)) (hst5.argY (ss := sb) rfl (by omega))
  rw [eP, egx, ecx, egy, ecy] at hSw
  have HSw := mkHid hSw
  clear hSw hst5 hst F15 hx4 hh HG HPs HRs HSS HF1 HH2 hL
  go_wp2_with fail
  go_region_held3 (fun V => True) (trivial) (first | (go_at_call 39; refine HSw.out.mono ?_; rintro e w6 ⟨rfl, hst6⟩))
  have hRw := fw_rfwd hst6 HX0.out sa sb _ _ (hst6.argIn HRa.out) (hst6.argIn HRb.out) hs
  rw [eQ] at hRw
  have HRw := mkHid hRw
  obtain ⟨A, hA⟩ : ∃ A, A = swAns d sa sb := ⟨_, rfl⟩
  obtain ⟨C, hC⟩ : ∃ C, C = fwCnt d sa sb := ⟨_, rfl⟩
  rw [← hA, ← hC] at HRw
  rw [← hA, ← hC]
  clear hRw hst6 HSw hA hC
  go_wp2_with fail
  refine Calls.mono HRw.out ?_
  rintro e w7 ⟨rfl, hst7⟩
  generalize hd2 : fwD d sa sb = d2 at hst7
  have hx7 := hst7.x
  rw [hla, egx, ecx] at hx7
  have HL7 := mkHid (leftI_ok sa g cg _ _ w7 hx7 (HRa.out.idle hst7.fr) hcx)
  have HS7 := mkHid hst7
  clear hst7 hx7 HRw hd2
  go_wp2_with fail
  refine Calls.mono (num4_any A w7) ?_
  rintro e w' ⟨rfl, hw'⟩
  rw [hw']
  clear hw' w'
  go_wp2_with fail
  refine Calls.mono HL7.out ?_
  rintro e w8 ⟨rfl, hf8⟩
  have hst8 := HS7.out.idle hf8
  have hy8 := hst8.y
  rw [hlb, egy, ecy] at hy8
  have HL8 := mkHid (leftI_ok sb g' cg' _ _ w8 hy8 (HRb.out.idle hst8.fr) hcy)
  have HS8 := mkHid hst8
  clear hst8 hy8 hf8 HL7 HS7
  go_wp2_with fail
  refine Calls.mono HL8.out ?_
  rintro e w12 ⟨rfl, hf12⟩
  have hst12 := HS8.out.idle hf12
  have hx12 := hst12.x
  have hW12 := wiped_ok (sa ++ [-71, -72]) 1 _ _ _ w12 hx12 (by omega)
  rw [egx, ecx, hla] at hW12
  have HW12 := mkHid hW12
  have HS12 := mkHid hst12
  clear hst12 hx12 hW12 hf12 HL8 HS8
  go_wp2_with fail
  refine Calls.mono HW12.out ?_
  rintro e w13 ⟨rfl, hx13, hf13⟩
  have hst13 := HS12.out.wipeX (xs2 := List.replicate (sa.length + 2) 1) (by rw [egx]; exact hf13) (by simp) (by rw [egx, ecx, hla]; exact hx13)
  have hW13 := wiped_ok (sb ++ [-71, -72]) 2 _ _ _ w13 hst13.y (by omega)
  rw [egy, ecy, hlb] at hW13
  have HW13 := mkHid hW13
  have HS13 := mkHid hst13
  clear hst13 hx13 hf13 hW13 HW12 HS12
  go_wp2_with fail
  refine Calls.mono HW13.out ?_
  rintro e w14 ⟨rfl, hy14, hf14⟩
  have hst14 := HS13.out.wipeY (ys2 := List.replicate (sb.length + 2) 2) (by rw [egy]; exact hf14) (by simp) (by rw [egy, ecy, hlb]; exact hy14)
  clear hy14 hf14 HW13 HS13
  generalize hXS : List.replicate (sa.length + 2) (1 : Int) = XS at hst14
  generalize hYS : List.replicate (sb.length + 2) (2 : Int) = YS at hst14
  have HP18 : Hid (∀ V {d3 : Option Ds}, FwSt W1 L d3 d3 XS YS V → Calls Tryd.prog 18 #[.pointer P] V fun e w' => ∃ ov ls, e = .returned (.agg #[.int .i64 (wordsD d3 : Int), .int .i64 (oopsD d3 : Int), .int .i64 (markD d3 : Int), ov]) ∧ SAt w' ov ls ∧ ls.map oiKey = ksD d3 ∧ FwSt W1 L d3 d3 XS YS w') := fun V d3 hV => by
    have := fw_state hV
    rw [eP] at this
    exact this
  have HR27 : Hid (∀ V {d3 : Option Ds}, FwSt W1 L d3 d3 XS YS V → Calls Tryd.prog 27 #[.pointer Q] V fun e w' => ∃ ov ls, e = .returned (.agg #[.int .i64 (wordsD d3 : Int), .int .i64 (oopsD d3 : Int), .int .i64 (markD d3 : Int), ov]) ∧ SAt w' ov ls ∧ ls.map oiKey = ksD d3 ∧ FwSt W1 L d3 d3 XS YS w' ∧ Fr [] V w') := fun V d3 hV => by
    have := fw_rstate hV
    rw [eQ] at this
    exact this
  have HSm : Hid (∀ V {d3 : Option Ds} (o1 o2 : Value) (l1 l2 : List OI), SAt V o1 l1 → SAt V o2 l2 → l1.map oiKey = l2.map oiKey → FwSt W1 L d3 d3 XS YS V → Calls Tryd.prog 19 #[.agg #[.int .i64 (wordsD d3 : Int), .int .i64 (oopsD d3 : Int), .int .i64 (markD d3 : Int), o1], .agg #[.int .i64 (wordsD d3 : Int), .int .i64 (oopsD d3 : Int), .int .i64 (markD d3 : Int), o2]] V fun e w' => e = .returned (.bool true) ∧ FwSt W1 L d3 d3 XS YS w') := fun V d3 o1 o2 l1 l2 h1 h2 h3 hV =>
    (sameState_at _ _ _ o1 o2 l1 l2 V h1 h2 h3).mono fun e w' ⟨h4, h5⟩ => ⟨h4, hV.idle h5⟩
  have HS14 := mkHid hst14
  have HXY := mkHid (And.intro hXS hYS)
  clear hst14 hXS hYS
  go_wp2_with fail
  refine Calls.mono (HP18.out _ HS14.out) ?_
  rintro e w15 ⟨ov3, l3, rfl, hs3, hk3, hst15⟩
  have HR15 := mkHid (HR27.out _ hst15)
  have HSa := mkHid hs3
  have HKa := mkHid hk3
  clear hst15 hs3 hk3 HS14
  go_wp2_with fail
  refine Calls.mono HR15.out ?_
  rintro e w16 ⟨ov4, l4, rfl, hs4, hk4, hst16, hf16⟩
  have HM16 := mkHid (HSm.out _ _ _ _ _ (HSa.out.idle hf16) hs4 (HKa.out.trans hk4.symm) hst16)
  clear hs4 hk4 hst16 hf16 HR15 HSa HKa
  go_wp2_with fail
  refine Calls.mono HM16.out ?_
  rintro e w19 ⟨rfl, hst19⟩
  have hst19d := hst19.idle (Fr.drew [] w19)
  have eXS : XS = List.replicate sa.length 1 ++ [1, 1] := by rw [← HXY.out.1, ← List.replicate_append_replicate]; rfl
  have eYS : YS = List.replicate sb.length 2 ++ [2, 2] := by rw [← HXY.out.2, ← List.replicate_append_replicate]; rfl
  have HX2 : Hid (KAx d2) := hst19.ps.2
  have hRw2 := fw_rfwd hst19d HX2.out (List.replicate sa.length 1) (List.replicate sb.length 2) _ _ (hst19d.argX (ss := List.replicate sa.length 1) eXS (by simp; omega)) (hst19d.argY (ss := List.replicate sb.length 2) eYS (by simp; omega)) (by simp; omega)
  have hla2 : (List.replicate sa.length (1 : Int)).length = sa.length := List.length_replicate
  have hlb2 : (List.replicate sb.length (2 : Int)).length = sb.length := List.length_replicate
  obtain ⟨ra, hra⟩ : ∃ ra, ra = List.replicate sa.length (1 : Int) := ⟨_, rfl⟩
  obtain ⟨rb, hrb⟩ : ∃ rb, rb = List.replicate sb.length (2 : Int) := ⟨_, rfl⟩
  rw [← hra, ← hrb] at hRw2
  rw [← hra] at hla2 eXS
  rw [← hrb] at hlb2 eYS
  rw [eQ, egx, ecx, egy, ecy, hla2, hlb2] at hRw2
  obtain ⟨A3, hA3⟩ : ∃ A3, A3 = swAns d2 ra rb := ⟨_, rfl⟩
  obtain ⟨C3, hC3⟩ : ∃ C3, C3 = fwCnt d2 ra rb := ⟨_, rfl⟩
  rw [← hA3, ← hC3] at hRw2
  have HRw2 := mkHid hRw2
  have HA3 := mkHid hA3
  have HC3 := mkHid hC3
  clear hA3 hC3 hRw2 hst19d hst19 hra hrb HM16
  go_wp2_with fail
  go_region_held3 (fun V => True) (trivial) (first | (go_at_call 40; refine HRw2.out.mono ?_; rintro e w20 ⟨rfl, hst20⟩))
  have hst20d := hst20.idle (Fr.drew [] w20)
  have hSw2 := fw_fwd hst20d ra rb _ _ (hst20d.argX (ss := ra) eXS (by omega)) (hst20d.argY (ss := rb) eYS (by omega))
  rw [eP, egx, ecx, egy, ecy, hla2, hlb2, ← HA3.out, ← HC3.out] at hSw2
  have HSw2 := mkHid hSw2
  clear hSw2 hst20d hst20 HRw2
  go_wp2_with fail
  go_region_held3 (fun V => True) (trivial) (first | (go_at_call 39; refine HSw2.out.mono ?_; rintro e w21 ⟨rfl, hst21⟩))
  have HS21 := mkHid hst21
  clear hst21 HSw2
  go_wp2_with fail
  refine Calls.mono (num4_any A3 w21) ?_
  rintro e w' ⟨rfl, hw'⟩
  rw [hw']
  clear hw' w'
  go_wp2_with fail
  refine Calls.mono (HP18.out _ HS21.out) ?_
  rintro e w22 ⟨ov5, l5, rfl, hs5, hk5, hst22⟩
  have HR22 := mkHid (HR27.out _ hst22)
  have HSa := mkHid hs5
  have HKa := mkHid hk5
  clear hst22 hs5 hk5 HS21
  go_wp2_with fail
  refine Calls.mono HR22.out ?_
  rintro e w23 ⟨ov6, l6, rfl, hs6, hk6', hst23, hf23⟩
  have HM23 := mkHid (HSm.out _ _ _ _ _ (HSa.out.idle hf23) hs6 (HKa.out.trans hk6'.symm) hst23)
  clear hs6 hk6' hst23 hf23 HR22 HSa HKa
  go_wp2_with fail
  refine Calls.mono HM23.out ?_
  rintro e w24 ⟨rfl, hst24⟩
  have HFz : Hid (Fr [] W w24) := F1.out.trans hst24.fr (by simp)
  clear hst24 HM23
  go_wp2_with fail
  go_ret
  exact ⟨rfl, HFz.out⟩
end Go.Proofs.YtdkbnnhcjaibdaaDoor
