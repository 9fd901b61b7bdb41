import Derived.Test.YtdkbnnhcjaibdaaDoorSBSt
import Derived.Deep.RegionHeld3
import Derived.BigQuiet
namespace Go.Proofs.YtdkbnnhcjaibdaaDoor
open Go.RowKit
set_option linter.unusedVariables false
set_option linter.unusedSimpArgs false
attribute [local go_sem ↓] Go.wp_at_zero Go.wp_at_succ
theorem SwSt.cells {W : World} {L : Lie} {d d' : Option Ds} {ag tn : Nat} {fr : Option Nat} {xs ys : List Int} {w : World} (h : SwSt W L d d' ag tn fr xs ys w) :
    (w.cell? ⟨L.X, 0, none⟩ = some (.pointer L.P) ∧ w.cell? ⟨L.X, 1, none⟩ = some (.int .i64 0) ∧ w.cell? ⟨L.X, 2, none⟩ = some (.int .i64 (L.n : Int))) ∧ (w.cell? ⟨L.Y, 0, none⟩ = some (.pointer L.Q) ∧ w.cell? ⟨L.Y, 1, none⟩ = some (.int .i64 (L.bn : Int)) ∧ w.cell? ⟨L.Y, 2, none⟩ = some (.int .i64 0)) := by
  refine ⟨⟨?_, ?_, ?_⟩, ?_, ?_, ?_⟩
  · rw [cell_in h.p]; rfl
  · rw [cell_in h.p]; rfl
  · rw [cell_in h.p]; rfl
  · rw [cell_in h.q]; rfl
  · rw [cell_in h.q]; rfl
  · rw [cell_in h.q]; rfl
theorem cap_of {w : World} {b n c g : Nat} {t : TypeId} {xs : List Value} (h : w.ownsRow b t 1 (.slice (some ⟨g, 0, none⟩) n c) n xs) : n ≤ c := by
  obtain ⟨-, h2⟩ := h
  rcases h2 with ⟨h2, h3⟩ | ⟨g', cap, cur, h2, h3, h4, h5, h6⟩
  · cases h2
  · injection h2 with _ _ e; subst e; simpa using h5
set_option maxRecDepth 20000 in
set_option maxHeartbeats 4000000 in
theorem swaps_any (x y z : Int) (ov va vb : Value) (la : List OI) (sa sb : List Int) (W : World) (ha : SAt W ov la) (hra : Rd W va sa) (hrb : Rd W vb sb) (hT : Tab W) (hT0 : 0 < W.heap.size) (hs : sa.length + sb.length ≤ 1048576) :
    Calls Tryd.prog 7 #[.agg #[.int .i64 x, .int .i64 y, .int .i64 z, ov], va, vb] W fun e w' => e = .returned (.bool true) ∧ Fr [] W w' := by
  obtain ⟨pa, ca, rfl, -⟩ := ha.at_
  obtain ⟨p1, k1, rfl, -⟩ := hra.at_
  obtain ⟨p2, k2, rfl, -⟩ := hrb.at_
  obtain ⟨W1, hW1⟩ : ∃ W1, W1 = W.alloc (.cells #[.int .i64 x, .int .i64 y, .int .i64 z, .slice pa la.length ca] 45) := ⟨_, rfl⟩
  have F1 : Hid (Fr [] W W1) := by rw [hW1]; exact Fr.alloc [] _ _
  have hB : W1.heap[W.heap.size]? = some (.cells #[.int .i64 x, .int .i64 y, .int .i64 z, .slice pa la.length ca] 45 (0, 0)) := by rw [hW1]; exact heap_alloc_new _ _
  have c0 : W1.cell? ⟨W.heap.size, 0, none⟩ = some (.int .i64 x) := by rw [cell_in hB]; rfl
  have c1 : W1.cell? ⟨W.heap.size, 1, none⟩ = some (.int .i64 y) := by rw [cell_in hB]; rfl
  have c2 : W1.cell? ⟨W.heap.size, 2, none⟩ = some (.int .i64 z) := by rw [cell_in hB]; rfl
  have c3 : W1.cell? ⟨W.heap.size, 3, none⟩ = some (.slice pa la.length ca) := by rw [cell_in hB]; rfl
  have HRa : Hid (Rd W1 (.slice p1 sa.length k1) sa) := hra.idle F1.out
  have HRb : Hid (Rd W1 (.slice p2 sb.length k2) sb) := hrb.idle F1.out
  have HLd := mkHid (loadedD x y z _ la W1 (ha.idle F1.out) (hT.fr F1.out hT0) (Nat.lt_of_lt_of_le hT0 F1.out.size))
  clear ha hra hrb hT hT0 hB
  go_enter Tryd.func7, Tryd.ntmps7
  go_wp2_with fail
  rw [← hW1]
  refine Calls.mono HLd.out ?_
  clear HLd hW1 c0 c1 c2 c3
  rintro e w1 ⟨d, S, B, bn, P, Q, rfl, hps, hrs, hS, hB1, hB2, hbn, hlen, hf1⟩
  obtain ⟨n, hn⟩ : ∃ n, n = (ksD d).length := ⟨_, rfl⟩
  have HPt : Hid (Calls Tryd.prog 43 #[.pointer P] w1 fun e w' => e = .returned (.agg #[.pointer P, .int .i64 0, .int .i64 (n : Int)]) ∧ Fr [] w1 w') := by
    have := p_point hps
    rw [← hn] at this
    exact this
  have HPs := mkHid hps
  have HRs := mkHid hrs
  have HSS := mkHid hS
  have HBn := mkHid hbn
  have HF1 := mkHid hf1
  have HN := mkHid hn
  clear hps hrs hS hbn hf1 hn
  go_wp2_with fail
  refine Calls.mono HPt.out ?_
  rintro e w2 ⟨rfl, hf2⟩
  obtain ⟨W2, hW2⟩ : ∃ W2, W2 = w2.alloc (.cells #[.pointer P, .int .i64 0, .int .i64 (n : Int)] 91) := ⟨_, rfl⟩
  have HB2 : Hid (W2.heap[w2.heap.size]? = some (.cells #[.pointer P, .int .i64 0, .int .i64 (n : Int)] 91 (0, 0))) := by rw [hW2]; exact heap_alloc_new _ _
  have F2 : Hid (Fr [] w1 W2) := by rw [hW2]; exact hf2.trans (Fr.alloc [] _ _) (by simp)
  have hX : w1.heap.size ≤ w2.heap.size := hf2.size
  have HRp : Hid (Calls Tryd.prog 44 #[.pointer Q] W2 fun e w' => e = .returned (.agg #[.pointer Q, .int .i64 (bn : Int), .int .i64 0]) ∧ Fr [] W2 w') := r_point (HRs.out.idle F2.out) HBn.out
  clear hf2 HPt
  go_wp2_with fail
  rw [← hW2]
  clear hW2
  generalize hXX : w2.heap.size = X at *
  clear hXX
  refine Calls.mono HRp.out ?_
  rintro e w3 ⟨rfl, hf3⟩
  obtain ⟨W3, hW3⟩ : ∃ W3, W3 = w3.alloc (.cells #[.pointer Q, .int .i64 (bn : Int), .int .i64 0] 94) := ⟨_, rfl⟩
  have HB3 : Hid (W3.heap[w3.heap.size]? = some (.cells #[.pointer Q, .int .i64 (bn : Int), .int .i64 0] 94 (0, 0))) := by rw [hW3]; exact heap_alloc_new _ _
  have F3 : Hid (Fr [] W2 W3) := by rw [hW3]; exact hf3.trans (Fr.alloc [] _ _) (by simp)
  have hY : W2.heap.size ≤ w3.heap.size := hf3.size
  have hW23 : w1.heap.size ≤ W2.heap.size := F2.out.size
  have HF3 : Hid (Fr [] W1 W3) := (HF1.out.trans F2.out (by simp)).trans F3.out (by simp)
  have HH1 := mkHid (handI_ok sa _ W3 (HRa.out.idle HF3.out) (by omega))
  clear hf3 HRp
  go_wp2_with fail
  rw [← hW3]
  clear hW3
  generalize hYY : w3.heap.size = Y at *
  clear hYY
  refine Calls.mono HH1.out ?_
  rintro e w4 ⟨gv, rfl, hg⟩
  obtain ⟨g, cg, rfl, hgb, hgl⟩ := hg.own.form (by simp)
  have HH2 := mkHid (handI_ok sb _ w4 (HRb.out.idle (HF3.out.trans hg.fr (by simp))) (by omega))
  have HG := mkHid hg
  clear hg HH1
  go_wp2_with fail
  refine Calls.mono HH2.out ?_
  rintro e w5 ⟨gv, rfl, hh⟩
  obtain ⟨g', cg', rfl, hgb', hgl'⟩ := hh.own.form (by simp)
  obtain ⟨L, hL⟩ : ∃ L : Lie, L = ⟨S, B, w1.heap.size, P, Q, X, Y, W3.heap.size, g, cg, g', cg', n, bn⟩ := ⟨_, rfl⟩
  have hx4 := HG.out.idle hh.fr
  have F15 : Fr [] w1 w5 := ((F2.out.trans F3.out (by simp)).trans HG.out.fr (by simp)).trans hh.fr (by simp)
  have hst : SwSt W1 L d d 0 0 (some bn) (sa ++ [-71, -72]) (sb ++ [-71, -72]) w5 := by
    subst hL
    have e1 := HG.out.own.lt g rfl
    have e2 := hh.own.lt g' rfl
    have e3 := HG.out.fr.size
    have e4 := F3.out.size
    have hp5 := (((F3.out.trans HG.out.fr (by simp)).trans hh.fr (by simp)).block _ (lt_of_heap HB2.out) (by simp)).trans HB2.out
    have hq5 := ((HG.out.fr.trans hh.fr (by simp)).block _ (lt_of_heap HB3.out) (by simp)).trans HB3.out
    exact ⟨HPs.out.idle F15, HRs.out.idle F15, hx4.own, own_base hh.own (by omega), hp5, hq5, HSS.out, hB1, by show B ≤ W3.heap.size; omega, by show B ≤ X; omega, by show B ≤ Y; omega, by show g ≠ g'; omega, hlen, (HF3.out.trans HG.out.fr (by simp)).trans hh.fr (by simp)⟩
  have eP : L.P = P := by rw [hL]
  have eQ : L.Q = Q := by rw [hL]
  have eX : L.X = X := by rw [hL]
  have eY : L.Y = Y := by rw [hL]
  have egx : L.gx = g := by rw [hL]
  have ecx : L.cx = cg := by rw [hL]
  have egy : L.gy = g' := by rw [hL]
  have ecy : L.cy = cg' := by rw [hL]
  have en : L.n = n := by rw [hL]
  have ebn : L.bn = bn := by rw [hL]
  have hla : (sa ++ [-71, -72]).length = sa.length + 2 := by simp
  have hlb : (sb ++ [-71, -72]).length = sb.length + 2 := by simp
  have hcx : sa.length + 2 ≤ cg := by have := cap_of hx4.own; omega
  have hcy : sb.length + 2 ≤ cg' := by have := cap_of hh.own; omega
  have b1 : (0 : Int) ≤ (sa.length : Int) := by omega
  have b2 : (sa.length : Int) ≤ (cg : Int) := by omega
  have b3 : (0 : Int) ≤ (sb.length : Int) := by omega
  have b4 : (sb.length : Int) ≤ (cg' : Int) := by omega
  have hst5 := hst.idle (Fr.drew [] w5)
  have hSw := sw_swap hst5 sa sb _ _ (hst5.argX (ss := sa) rfl (by omega)) (hst5.argY (ss := sb) rfl (by omega)) (by omega)
  rw [eP, egx, ecx, egy, ecy] at hSw
  have HSw := mkHid hSw
  clear hSw hst5 hst F15 hx4 hh HG HB2 HB3 F2 F3 HF3 HPs HRs HSS HBn HF1 HH2 hL
  go_wp2_with fail
  go_region_held3 (fun V => True) (trivial) (first | (go_at_call 32; refine HSw.out.mono ?_; rintro e w6 ⟨rfl, hst6, hk6⟩))
  have hRw := sw_rswap hst6 sa sb _ _ (Arg.in_ HRa.out hst6.fr) (Arg.in_ HRb.out hst6.fr) hs (by omega)
  rw [eQ] at hRw
  have HRw := mkHid hRw
  obtain ⟨A, hA⟩ : ∃ A, A = swAns d sa sb := ⟨_, rfl⟩
  rw [← hA] at HRw
  rw [← hA]
  clear hRw hst6 HSw hA
  go_wp2_with fail
  refine Calls.mono HRw.out ?_
  rintro e w7 ⟨rfl, hst7⟩
  generalize hd2 : swD d sa sb = d2 at hst7
  generalize hk2 : swN d sa sb = kk at hst7 hk6
  have hx7 := hst7.x
  rw [hla, egx, ecx] at hx7
  have HL7 := mkHid (leftI_ok sa g cg _ _ w7 hx7 (HRa.out.idle hst7.fr) hcx)
  have HS7 := mkHid hst7
  have HKD := mkHid hd2
  clear hst7 hx7 HRw hd2 hk2
  go_wp2_with fail
  refine Calls.mono (num4_any A w7) ?_
  rintro e w' ⟨rfl, hw'⟩
  rw [hw']
  clear hw' w'
  go_wp2_with fail
  refine Calls.mono HL7.out ?_
  rintro e w8 ⟨rfl, hf8⟩
  have hst8 := HS7.out.idle hf8
  have hy8 := hst8.y
  rw [hlb, egy, ecy] at hy8
  have HL8 := mkHid (leftI_ok sb g' cg' _ _ w8 hy8 (HRb.out.idle hst8.fr) hcy)
  have HS8 := mkHid hst8
  clear hst8 hy8 hf8 HL7 HS7
  go_wp2_with fail
  refine Calls.mono HL8.out ?_
  rintro e w9 ⟨rfl, hf9⟩
  have hst9 := HS8.out.idle hf9
  have hp9 := p_state hst9.ps
  rw [eP] at hp9
  have HP9 := mkHid hp9
  have HS9 := mkHid hst9
  clear hst9 hp9 hf9 HL8 HS8
  go_wp2_with fail
  refine Calls.mono HP9.out ?_
  rintro e w10 ⟨ov1, l1, rfl, hs1, hk1, hf10⟩
  have hst10 := HS9.out.idle hf10
  have hr10 := r_state hst10.rs hst10.ps
  rw [eQ] at hr10
  have HR10 := mkHid hr10
  have HS10 := mkHid hst10
  have HSa := mkHid hs1
  have HKa := mkHid hk1
  clear hst10 hr10 hs1 hk1 hf10 HP9 HS9
  go_wp2_with fail
  refine Calls.mono HR10.out ?_
  rintro e w11 ⟨ov2, l2, rfl, hs2, hk2, hf11⟩
  have HSm := mkHid (sameState_at (wordsD d2) (oopsD d2) (markD d2) ov1 ov2 l1 l2 w11 (HSa.out.idle hf11) hs2 (by rw [HKa.out, hk2]))
  have HS11 := mkHid (HS10.out.idle hf11)
  clear hs2 hk2 hf11 HR10 HS10 HSa HKa
  go_wp2_with fail
  refine Calls.mono HSm.out ?_
  rintro e w12 ⟨rfl, hf12⟩
  have hst12 := HS11.out.idle hf12
  have hx12 := hst12.x
  have hW12 := wiped_ok (sa ++ [-71, -72]) 1 _ _ _ w12 hx12 (by omega)
  rw [egx, ecx, hla] at hW12
  have HW12 := mkHid hW12
  have HS12 := mkHid hst12
  clear hst12 hx12 hW12 hf12 HSm HS11
  go_wp2_with fail
  refine Calls.mono HW12.out ?_
  rintro e w13 ⟨rfl, hx13, hf13⟩
  have hst13 := HS12.out.wipeX (xs2 := List.replicate (sa.length + 2) 1) (by rw [egx]; exact hf13) (by simp) (by rw [egx, ecx, hla]; exact hx13)
  have hW13 := wiped_ok (sb ++ [-71, -72]) 2 _ _ _ w13 hst13.y (by omega)
  rw [egy, ecy, hlb] at hW13
  have HW13 := mkHid hW13
  have HS13 := mkHid hst13
  clear hst13 hx13 hf13 hW13 HW12 HS12
  go_wp2_with fail
  refine Calls.mono HW13.out ?_
  rintro e w14 ⟨rfl, hy14, hf14⟩
  have hst14 := HS13.out.wipeY (ys2 := List.replicate (sb.length + 2) 2) (by rw [egy]; exact hf14) (by simp) (by rw [egy, ecy, hlb]; exact hy14)
  clear hy14 hf14 HW13 HS13
  generalize hXS : List.replicate (sa.length + 2) (1 : Int) = XS at hst14
  generalize hYS : List.replicate (sb.length + 2) (2 : Int) = YS at hst14
  generalize hfr2 : (if kk = 0 then some bn else none) = fr2 at hst14
  have hnd : n = (ksD d2).length := by rw [← HKD.out, swD_len]; exact HN.out
  have hst14d := hst14.idle (Fr.drew [] w14)
  obtain ⟨A2, hA2⟩ : ∃ A2, A2 = bkAns d2 (decide (0 = 0 + kk)) := ⟨_, rfl⟩
  obtain ⟨K2, hK2⟩ : ∃ K2, K2 = bkN d2 (decide (0 = 0 + kk)) := ⟨_, rfl⟩
  have hK2' : K2 ≤ 1 := by
    rw [hK2]
    unfold bkN
    split
    · omega
    · split <;> omega
  have hBk := sw_back hst14d (fun _ => by rw [en]; exact hnd) (by omega)
  rw [eP, en, ← hA2, ← hK2] at hBk
  have HBk := mkHid hBk
  have HRbk : Hid (∀ V, SwSt W1 L d2 d2 (0 + kk + K2) (0 + kk) fr2 XS YS V → Calls Tryd.prog 47 #[.pointer Q, .agg #[.pointer Q, .int .i64 (bn : Int), .int .i64 0]] V fun e w' => e = .returned (.int .i64 A2) ∧ SwSt W1 L d2 d2 (0 + kk + K2) (0 + kk + K2) none XS YS w') := fun V hV => by
    have := sw_rback hV (fun h0 => by rw [← hfr2, if_pos (by omega), ebn]) (by omega)
    rw [eQ, ebn, ← hA2, ← hK2] at this
    exact this
  have HP18 : Hid (∀ V {ag tn : Nat} {fr : Option Nat} {d3 : Option Ds}, SwSt W1 L d3 d3 ag tn fr XS YS V → Calls Tryd.prog 18 #[.pointer P] V fun e w' => ∃ ov ls, e = .returned (.agg #[.int .i64 (wordsD d3 : Int), .int .i64 (oopsD d3 : Int), .int .i64 (markD d3 : Int), ov]) ∧ SAt w' ov ls ∧ ls.map oiKey = ksD d3 ∧ SwSt W1 L d3 d3 ag tn fr XS YS w') := fun V ag tn fr d3 hV => by
    have := p_state hV.ps
    rw [eP] at this
    exact this.mono fun e w' ⟨ov, ls, h1, h2, h3, h4⟩ => ⟨ov, ls, h1, h2, h3, hV.idle h4⟩
  have HR27 : Hid (∀ V {ag tn : Nat} {fr : Option Nat} {d3 : Option Ds}, SwSt W1 L d3 d3 ag tn fr XS YS V → Calls Tryd.prog 27 #[.pointer Q] V fun e w' => ∃ ov ls, e = .returned (.agg #[.int .i64 (wordsD d3 : Int), .int .i64 (oopsD d3 : Int), .int .i64 (markD d3 : Int), ov]) ∧ SAt w' ov ls ∧ ls.map oiKey = ksD d3 ∧ SwSt W1 L d3 d3 ag tn fr XS YS w' ∧ Fr [] V w') := fun V ag tn fr d3 hV => by
    have := r_state hV.rs hV.ps
    rw [eQ] at this
    exact this.mono fun e w' ⟨ov, ls, h1, h2, h3, h4⟩ => ⟨ov, ls, h1, h2, h3, hV.idle h4, h4⟩
  have HSm : Hid (∀ V {ag tn : Nat} {fr : Option Nat} {d3 : Option Ds} (o1 o2 : Value) (l1 l2 : List OI), SAt V o1 l1 → SAt V o2 l2 → l1.map oiKey = l2.map oiKey → SwSt W1 L d3 d3 ag tn fr XS YS V → Calls Tryd.prog 19 #[.agg #[.int .i64 (wordsD d3 : Int), .int .i64 (oopsD d3 : Int), .int .i64 (markD d3 : Int), o1], .agg #[.int .i64 (wordsD d3 : Int), .int .i64 (oopsD d3 : Int), .int .i64 (markD d3 : Int), o2]] V fun e w' => e = .returned (.bool true) ∧ SwSt W1 L d3 d3 ag tn fr XS YS w') := fun V ag tn fr d3 o1 o2 l1 l2 h1 h2 h3 hV =>
    (sameState_at _ _ _ o1 o2 l1 l2 V h1 h2 h3).mono fun e w' ⟨h4, h5⟩ => ⟨h4, hV.idle h5⟩
  have hcl : ∀ V {ag tn : Nat} {fr : Option Nat}, SwSt W1 L d2 d2 ag tn fr XS YS V → (V.cell? ⟨X, 0, none⟩ = some (.pointer P) ∧ V.cell? ⟨X, 1, none⟩ = some (.int .i64 0) ∧ V.cell? ⟨X, 2, none⟩ = some (.int .i64 (n : Int))) ∧ (V.cell? ⟨Y, 0, none⟩ = some (.pointer Q) ∧ V.cell? ⟨Y, 1, none⟩ = some (.int .i64 (bn : Int)) ∧ V.cell? ⟨Y, 2, none⟩ = some (.int .i64 0)) := fun V ag tn fr hV => by
    have := hV.cells
    rw [eX, eY, eP, eQ, en, ebn] at this
    exact this
  have HCL := mkHid hcl
  have HS14 := mkHid hst14d
  have HXY := mkHid (And.intro hXS hYS)
  clear hcl hst14 hst14d hBk hXS hYS hfr2 hA2 hK2 hnd
  go_wp2_with fail
  go_region_held3 (fun V => (V.cell? ⟨X, 0, none⟩ = some (.pointer P) ∧ V.cell? ⟨X, 1, none⟩ = some (.int .i64 0) ∧ V.cell? ⟨X, 2, none⟩ = some (.int .i64 (n : Int))) ∧ (V.cell? ⟨Y, 0, none⟩ = some (.pointer Q) ∧ V.cell? ⟨Y, 1, none⟩ = some (.int .i64 (bn : Int)) ∧ V.cell? ⟨Y, 2, none⟩ = some (.int .i64 0)))
    (first
      | exact HCL.out _ hst19
      | exact HCL.out _ hst18
      | exact HCL.out _ hst17
      | exact HCL.out _ hst16
      | exact HCL.out _ hst15
      | exact HCL.out _ HS14.out)
    (first
      | (go_at_call 46; refine HBk.out.mono ?_; rintro e w15 ⟨rfl, hst15⟩)
      | (go_at_call 29; refine (num4_any _ _).mono ?_; rintro e w' ⟨rfl, hw'⟩; subst hw')
      | (go_at_call 47; refine (HRbk.out _ hst15).mono ?_; rintro e w16 ⟨rfl, hst16⟩)
      | (go_at_call 18; refine (HP18.out _ hst16).mono ?_; rintro e w17 ⟨ov3, l3, rfl, hs3, hk3, hst17⟩)
      | (go_at_call 27; refine (HR27.out _ hst17).mono ?_; rintro e w18 ⟨ov4, l4, rfl, hs4, hk4, hst18, hf18⟩)
      | (go_at_call 19; refine (HSm.out _ _ _ _ _ (hs3.idle hf18) hs4 (hk3.trans hk4.symm) hst18).mono ?_; rintro e w19 ⟨rfl, hst19⟩))
  have hst19d := hst19.idle (Fr.drew [] w19)
  have eXS : XS = List.replicate sa.length 1 ++ [1, 1] := by rw [← HXY.out.1, ← List.replicate_append_replicate]; rfl
  have eYS : YS = List.replicate sb.length 2 ++ [2, 2] := by rw [← HXY.out.2, ← List.replicate_append_replicate]; rfl
  have hRw2 := sw_rswap hst19d (List.replicate sa.length 1) (List.replicate sb.length 2) _ _ (hst19d.argX (ss := List.replicate sa.length 1) eXS (by simp; omega)) (hst19d.argY (ss := List.replicate sb.length 2) eYS (by simp; omega)) (by simp; omega) (by omega)
  have hla2 : (List.replicate sa.length (1 : Int)).length = sa.length := List.length_replicate
  have hlb2 : (List.replicate sb.length (2 : Int)).length = sb.length := List.length_replicate
  obtain ⟨ra, hra⟩ : ∃ ra, ra = List.replicate sa.length (1 : Int) := ⟨_, rfl⟩
  obtain ⟨rb, hrb⟩ : ∃ rb, rb = List.replicate sb.length (2 : Int) := ⟨_, rfl⟩
  rw [← hra, ← hrb] at hRw2
  rw [← hra] at hla2 eXS
  rw [← hrb] at hlb2 eYS
  rw [eQ, egx, ecx, egy, ecy, hla2, hlb2] at hRw2
  obtain ⟨A3, hA3⟩ : ∃ A3, A3 = swAns d2 ra rb := ⟨_, rfl⟩
  rw [← hA3] at hRw2
  have HRw2 := mkHid hRw2
  have HA3 := mkHid hA3
  clear hA3 hRw2 hst19d hst19 hst18 hst17 hst16 hst15 hs3 hs4 hk3 hk4 hf18 hra hrb HBk HRbk HS14
  go_wp2_with fail
  go_region_held3 (fun V => True) (trivial) (first | (go_at_call 45; refine HRw2.out.mono ?_; rintro e w20 ⟨rfl, hst20⟩))
  have hst20d := hst20.idle (Fr.drew [] w20)
  have hSw2 := sw_swap hst20d ra rb _ _ (hst20d.argX (ss := ra) eXS (by omega)) (hst20d.argY (ss := rb) eYS (by omega)) (by omega)
  rw [eP, egx, ecx, egy, ecy, hla2, hlb2, ← HA3.out] at hSw2
  have HSw2 := mkHid hSw2
  clear hSw2 hst20d hst20 HRw2
  go_wp2_with fail
  go_region_held3 (fun V => True) (trivial) (first | (go_at_call 32; refine HSw2.out.mono ?_; rintro e w21 ⟨rfl, hst21, hk21⟩))
  have HS21 := mkHid hst21
  clear hst21 hk21 HSw2
  go_wp2_with fail
  refine Calls.mono (num4_any A3 w21) ?_
  rintro e w' ⟨rfl, hw'⟩
  rw [hw']
  clear hw' w'
  go_wp2_with fail
  refine Calls.mono (HP18.out _ HS21.out) ?_
  rintro e w22 ⟨ov5, l5, rfl, hs5, hk5, hst22⟩
  have HR22 := mkHid (HR27.out _ hst22)
  have HSa := mkHid hs5
  have HKa := mkHid hk5
  clear hst22 hs5 hk5 HS21
  go_wp2_with fail
  refine Calls.mono HR22.out ?_
  rintro e w23 ⟨ov6, l6, rfl, hs6, hk6', hst23, hf23⟩
  have HM23 := mkHid (HSm.out _ _ _ _ _ (HSa.out.idle hf23) hs6 (HKa.out.trans hk6'.symm) hst23)
  clear hs6 hk6' hst23 hf23 HR22 HSa HKa
  go_wp2_with fail
  refine Calls.mono HM23.out ?_
  rintro e w24 ⟨rfl, hst24⟩
  have HFz : Hid (Fr [] W w24) := F1.out.trans hst24.fr (by simp)
  clear hst24 HM23
  go_wp2_with fail
  go_ret
  exact ⟨rfl, HFz.out⟩
end Go.Proofs.YtdkbnnhcjaibdaaDoor
