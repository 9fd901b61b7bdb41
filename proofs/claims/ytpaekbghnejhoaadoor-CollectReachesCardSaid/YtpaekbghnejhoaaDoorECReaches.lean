import Derived.Test.YtpaekbghnejhoaaDoorEG25CRe0
import Derived.Test.YtpaekbghnejhoaaDoorECRuns
namespace Go.Proofs.YtpaekbghnejhoaaDoor
open Go.RowKit
set_option linter.unusedVariables false
set_option linter.unusedSimpArgs false
attribute [local go_sem ↓] Go.wp_at_zero Go.wp_at_succ
set_option maxRecDepth 20000 in
set_option maxHeartbeats 4000000 in
theorem reaches_any (x y z : Int) (ov rv : Value) (la : List OI) (roots : List Int) (W : World) (ha : SAt W ov la) (hr : Rd W rv roots) (hT : Tab W) (hT0 : 0 < W.heap.size) :
    Calls Tryd.prog 5 #[.agg #[.int .i64 x, .int .i64 y, .int .i64 z, ov], rv] W fun e w' => e = .returned (.bool true) ∧ Fr [] W w' := by
  obtain ⟨pa, ca, rfl, -⟩ := ha.at_
  obtain ⟨pr, cr, rfl, -⟩ := hr.at_
  obtain ⟨W1, hW1⟩ : ∃ W1, W1 = W.alloc (.cells #[.int .i64 x, .int .i64 y, .int .i64 z, .slice pa la.length ca] 24) := ⟨_, rfl⟩
  have F1 : Hid (Fr [] W W1) := by rw [hW1]; exact Fr.alloc [] _ _
  have hB : W1.heap[W.heap.size]? = some (.cells #[.int .i64 x, .int .i64 y, .int .i64 z, .slice pa la.length ca] 24 (0, 0)) := by rw [hW1]; exact heap_alloc_new _ _
  have c0 : W1.cell? ⟨W.heap.size, 0, none⟩ = some (.int .i64 x) := by rw [cell_in hB]; rfl
  have c1 : W1.cell? ⟨W.heap.size, 1, none⟩ = some (.int .i64 y) := by rw [cell_in hB]; rfl
  have c2 : W1.cell? ⟨W.heap.size, 2, none⟩ = some (.int .i64 z) := by rw [cell_in hB]; rfl
  have c3 : W1.cell? ⟨W.heap.size, 3, none⟩ = some (.slice pa la.length ca) := by rw [cell_in hB]; rfl
  have HR1 : Hid (Rd W1 (.slice pr roots.length cr) roots) := hr.idle F1.out
  have s2 := hr.short
  have HLd := mkHid (hp_loaded x y z _ la W1 (ha.idle F1.out) (hT.fr F1.out hT0) (Nat.lt_of_lt_of_le hT0 F1.out.size))
  clear ha hr hT hT0 hB
  go_enter Tryd.func5, Tryd.ntmps5
  go_wp2_with fail
  rw [← hW1]
  refine Calls.mono HLd.out ?_
  clear HLd hW1 c0 c1 c2 c3
  rintro e w1 ⟨P, Q, E, IsR, rfl, hp, hf1⟩
  have HHp := mkHid hp
  have HF1 := mkHid hf1
  have HR : Hid (∀ V, Fr [] w1 V → Rd V (.slice pr roots.length cr) roots) := fun V hV => HR1.out.idle (HF1.out.trans hV (by simp))
  have hE : (-9223372036854775808 : Int) ≤ E ∧ E ≤ 9223372036854775807 := by rcases hp.err with e | e <;> omega
  have HNum : Hid (∀ V, Calls Tryd.prog 8 #[.int .i64 E] V fun e w' => e = .returned (.int .i64 E) ∧ w' = V) := fun V => num_any E V hE.1 hE.2
  have HHd := mkHid (hand_ok roots _ w1 (HR.out w1 (Fr.refl _ _)) s2)
  clear hp hf1 hE
  go_wp2_with fail
  refine Calls.mono HHd.out ?_
  rintro e w2 ⟨gv, rfl, hg⟩
  obtain ⟨g, cg, rfl, hgb, hgl⟩ := hg.own.form (by simp)
  have hcap : roots.length + 2 ≤ cg := by
    obtain ⟨-, h2⟩ := hg.own
    rcases h2 with ⟨h2, h3⟩ | ⟨g', cap, cur, h2, h3, h4, h5, h6⟩
    · cases h2
    · injection h2 with _ _ e; subst e; simpa using h5
  have hll : (roots ++ [-71, -72]).length = roots.length + 2 := by simp
  have hk1 : (0 : Int) ≤ (roots.length : Int) := by omega
  have hk2 : (roots.length : Int) ≤ (cg : Int) := by omega
  obtain ⟨B, hBB⟩ : ∃ B, B = w2.heap.size := ⟨_, rfl⟩
  have hst2 : Rs3 w1 B g cg roots.length (roots ++ [-71, -72]) w2 := ⟨hg.fr, by have := hg.own; rw [hll] at this; exact this, by rw [hBB]; exact hgl, by rw [hBB]; exact hg.fr.size⟩
  have HArg : Hid (∀ {V : World}, Rs3 w1 B g cg roots.length (roots ++ [-71, -72]) V → Rd V (.slice (some ⟨g, 0, none⟩) roots.length cg) roots) := fun {V} hV => own_front hV.gv s2
  have HRe := mkHid (HHp.out.reach w2 hst2.fr (some ⟨g, 0, none⟩) cg roots (HArg.out hst2))
  have HS2 := mkHid hst2
  clear hg hst2 HHd
  go_wp2_with fail
  refine Calls.mono HRe.out ?_
  rintro e w3 ⟨vl, L, rfl, hL, htl, hf3⟩
  have hLl := HHp.out.len _ _ hL
  obtain ⟨xl, rfl, hl3⟩ := htl.lst hLl
  rw [← hBB] at hl3
  have hst3 := HS2.out.idle hf3
  have HRm := mkHid (HHp.out.rreach w3 hst3.fr pr cr roots (HR.out w3 hst3.fr))
  have z3 : B ≤ w3.heap.size := by rw [hBB]; exact hf3.size
  have HIL := mkHid hL
  have HL3 := mkHid hl3
  have HS3 := mkHid hst3
  clear hL htl hl3 hst3 hf3 HRe HS2
  obtain ⟨lp, ln, lc⟩ := xl
  simp only [Le.v]
  go_wp2_with fail
  refine Calls.mono HRm.out ?_
  rintro e w4 ⟨vm, L', rfl, hL', htm, hf4⟩
  have e1 := HHp.out.one _ _ _ hL' HIL.out
  subst e1
  obtain ⟨xm, rfl, hm4⟩ := htm.lst hLl
  have hst4 := HS3.out.idle hf4
  have hl4 := HL3.out.idle hf4
  have z4 := hf4.size
  have HSm := mkHid (same_lst hl4 hm4)
  have HL4 := mkHid hl4
  have HM4 := mkHid hm4
  have HS4 := mkHid hst4
  generalize hn3 : w3.heap.size = n3 at *
  generalize hn4 : w4.heap.size = n4 at *
  obtain ⟨mp, mn, mc⟩ := xm
  simp only [Le.v] at HSm ⊢
  clear hL' htm hm4 hl4 hst4 hf4 HRm HL3 HS3 hn3
  go_wp2_with fail
  refine Calls.mono (HNum.out w4) ?_
  rintro e w' ⟨rfl, hw'⟩
  rw [hw']
  clear hw' w'
  go_wp2_with fail
  refine Calls.mono HSm.out ?_
  rintro e w5 ⟨rfl, hf5⟩
  have hst5 := HS4.out.idle hf5
  have HLf := mkHid (left_ok roots g cg _ _ w5 hst5.gv (HR.out w5 hst5.fr) hcap)
  have HF5 := mkHid hf5
  have HS5 := mkHid hst5
  clear hst5 hf5 HSm
  go_wp2_with fail
  refine Calls.mono HLf.out ?_
  rintro e w6 ⟨rfl, hf6⟩
  obtain ⟨sx, sy, sz, ks, hTa, hTb⟩ := HHp.out.told
  have HTa := mkHid hTa
  have HTb := mkHid hTb
  have HF6 : Hid (Fr [] w4 w6) := HF5.out.trans hf6 (by simp)
  have HS6 := mkHid (HS5.out.idle hf6)
  clear hf6 HLf HF5 HS5 hTa hTb
  go_wp2_with fail
  refine Calls.mono (HTa.out w6 HS6.out.fr) ?_
  rintro e w7 ⟨ov1, l1, rfl, hs1, hk1', hf7⟩
  have HF7 : Hid (Fr [] w4 w7) := HF6.out.trans hf7 (by simp)
  have HS7 := mkHid (HS6.out.idle hf7)
  have HSa := mkHid hs1
  have HKa := mkHid hk1'
  clear hs1 hk1' hf7 HF6 HS6
  go_wp2_with fail
  refine Calls.mono (HTb.out w7 HS7.out.fr) ?_
  rintro e w8 ⟨ov2, l2, rfl, hs2, hk2', hf8⟩
  have HSS := mkHid (sameState_at sx sy sz ov1 ov2 l1 l2 w8 (HSa.out.idle hf8) hs2 (by rw [HKa.out, hk2']))
  have HF8 : Hid (Fr [] w4 w8) := HF7.out.trans hf8 (by simp)
  have HS8 := mkHid (HS7.out.idle hf8)
  clear hs2 hk2' hf8 HF7 HS7 HSa HKa HTa HTb
  go_wp2_with fail
  refine Calls.mono HSS.out ?_
  rintro e w9 ⟨rfl, hf9⟩
  have hF9 := HF8.out.trans hf9 (by simp)
  obtain ⟨W9, hW9⟩ : ∃ W9, W9 = w9.alloc (.cells #[.slice none 0 0, .slice none 0 0, .slice none 0 0, .slice none 0 0, .slice none 0 0, .slice none 0 0, .slice none 0 0, .slice none 0 0, .slice none 0 0] 70) := ⟨_, rfl⟩
  have hb9 : W9.heap[w9.heap.size]? = some (.cells #[N0, N0, N0, N0, N0, N0, N0, N0, N0] 70 (0, 0)) := by rw [hW9]; exact heap_alloc_new _ _
  have hF9' : Fr [] w9 W9 := by rw [hW9]; exact Fr.alloc [] _ _
  have hst9 := (HS8.out.idle hf9).idle hF9'
  have z9 : n4 ≤ w9.heap.size := by rw [← hn4]; exact hF9.size
  have z9' : w9.heap.size < W9.heap.size := lt_of_heap hb9
  have hbk9 : Bk W9 B w9.heap.size [] [] [] noLe noLe noLe := Bk.new hb9 (by omega)
  have HL9 := mkHid ((HL4.out.idle hF9).idle hF9')
  have HM9 := mkHid ((HM4.out.idle hF9).idle hF9')
  have HBk9 := mkHid hbk9
  have HRe := mkHid (HHp.out.reach W9 hst9.fr (some ⟨g, 0, none⟩) cg roots (HArg.out hst9))
  have HS9 := mkHid hst9
  clear hst9 hF9 hF9' hf9 hb9 hbk9 HF8 HS8 HSS HL4 HM4 HS4
  go_wp2_with fail
  rw [← hW9]
  clear hW9
  generalize hbb : w9.heap.size = b at *
  clear hbb
  refine Calls.mono HRe.out ?_
  rintro e w10 ⟨vt, L2, rfl, hL2, htt, hf10⟩
  have e2 := HHp.out.one _ _ _ HIL.out hL2
  subst e2
  obtain ⟨xt, rfl, ht10⟩ := htt.lst hLl
  have hst10 := HS9.out.idle hf10
  have hl10 := HL9.out.idle hf10
  have hm10 := HM9.out.idle hf10
  have HBk10 := mkHid (HBk9.out.keep hf10 (by simp))
  have z10 := hf10.size
  have HSm1 := mkHid (same_lst ht10 hm10)
  have HL10 := mkHid hl10
  have HM10 := mkHid hm10
  have HT10 := mkHid ht10
  have HS10 := mkHid hst10
  generalize hn9 : W9.heap.size = n9 at *
  generalize hn10 : w10.heap.size = n10 at *
  obtain ⟨tp, tn, tc⟩ := xt
  simp only [Le.v] at HSm1 ⊢
  clear hL2 htt ht10 hl10 hm10 hst10 hf10 HRe HL9 HM9 HS9 HBk9 hn9
  go_wp2_with fail
  refine Calls.mono (HNum.out w10) ?_
  rintro e w' ⟨rfl, hw'⟩
  rw [hw']
  clear hw' w'
  go_wp2_with fail
  refine Calls.mono HSm1.out ?_
  rintro e w11 ⟨rfl, hf11⟩
  have HSm2 := mkHid (same_lst (HL10.out.idle hf11) (HM10.out.idle hf11))
  have HF11 := mkHid hf11
  simp only [Le.v] at HSm2
  clear hf11 HSm1
  go_wp2_with fail
  refine Calls.mono HSm2.out ?_
  rintro e w12 ⟨rfl, hf12⟩
  have hF12 := HF11.out.trans hf12 (by simp)
  have hl12 := HL10.out.idle hF12
  have hm12 := HM10.out.idle hF12
  have ht12 := HT10.out.idle hF12
  have hbk12 := HBk10.out.keep hF12 (by simp)
  have hst12 := HS10.out.idle hF12
  have z12 : n10 ≤ w12.heap.size := by rw [← hn10]; exact hF12.size
  have hzl : (zs L').length = ln := by rw [show ln = L'.length from hl12.n]; simp [zs]
  have hzt : (zs L').length = tn := by rw [show tn = L'.length from ht12.n]; simp [zs]
  have HN1 := mkHid (numbers_ok B b [] [] [] noLe noLe noLe ⟨lp, ln, lc⟩ (zs L') w12 hbk12 hzl (by have := hl12.own; rw [I_map] at this; exact this) (by show ln ≤ _; rw [← hzl]; simp [zs]; omega) (by simp) (fun g hg => by simp [noLe, blk]) (fun g hg j hj => by simp at hj) (fun g hg j hj => by simp at hj) (by omega))
  have HL12 := mkHid hl12
  have HM12 := mkHid hm12
  have HT12 := mkHid ht12
  have HS12 := mkHid hst12
  simp only [Le.v] at HN1
  clear hl12 hm12 ht12 hst12 hbk12 hf12 hF12 HF11 HSm2 HL10 HM10 HT10 HS10 HBk10 hn10
  go_wp2_with fail
  refine Calls.mono HN1.out ?_
  rintro e w13 ⟨rfl, vI1, vK1, hbk13, hnI, hnK, hf13⟩
  have hnI' : ∀ g ∈ blk vI1.p, w12.heap.size ≤ g := fun g hg => by
    rcases hnI g hg with h | h
    · simp [noLe, blk] at h
    · exact h
  have hnK' : ∀ g ∈ blk vK1.p, w12.heap.size ≤ g := fun g hg => by
    rcases hnK g hg with h | h
    · simp [noLe, blk] at h
    · exact h
  have hlB := HL12.out.at_
  have htB := HT12.out.at_
  have hbB : B ≤ b := hbk13.lo
  have hS13 : ∀ q ∈ blk lp ++ b :: (blk noLe.p ++ blk noLe.p), q = b ∨ (B ≤ q ∧ q < n3) := fun q hq => by
    rcases List.mem_append.1 hq with hq | hq
    · exact .inr (hlB q hq)
    · rcases List.mem_cons.1 hq with hq | hq
      · exact .inl hq
      · simp [noLe, blk] at hq
  have hm13 := HM12.out.keep hf13 (fun q hq => by rcases hS13 q hq with e | e <;> omega)
  have ht13 := HT12.out.keep hf13 (fun q hq => by rcases hS13 q hq with e | e <;> omega)
  have hst13 := HS12.out.keep hf13 (fun q hq => by rcases hS13 q hq with e | e <;> omega)
  have z13 := hf13.size
  have hk13 : ([] ++ [markOfN ([] : List Int).length] : List Int).length = 1 := rfl
  have HN2 := mkHid (numbers_ok B b _ [] _ vI1 noLe vK1 ⟨tp, tn, tc⟩ (zs L') w13 hbk13 hzt (by have := own_base (b0 := B) ht13.own (by omega); rw [I_map] at this; exact this) (by show tn ≤ _; rw [← hzt]; simp [zs]; omega) (by rw [hk13]; omega)
    (fun q hq hm => by have h1 := htB q hq; have h2 := hnK' q hm; omega)
    (fun q hq j hj hm => by
      rw [hk13] at hj
      have e : j = 0 := by omega
      subst e
      have h1 := htB q hq
      have h2 := hlB q hm
      omega)
    (fun q hq j hj => by simp at hj) (by omega))
  have HNs := mkHid (And.intro hnI' (And.intro hnK' (And.intro hlB htB)))
  have HTy13 : Hid ((∀ q ∈ blk vI1.p, B ≤ q) ∧ ∀ q ∈ blk vK1.p, B ≤ q) := ⟨fun q hq => (hbk13.tyI hq).1, fun q hq => (hbk13.tyK hq).1⟩
  have HM13 := mkHid hm13
  have HS13 := mkHid hst13
  simp only [Le.v] at HN2
  clear hbk13 hnI hnK hnI' hnK' hlB htB hS13 hm13 ht13 hst13 hf13 HN1 HM12 HS12 hk13
  go_wp2_with fail
  refine Calls.mono HN2.out ?_
  rintro e w14 ⟨rfl, vI2, vK2, hbk14, -, -, hf14⟩
  obtain ⟨hnI', hnK', hlB, htB⟩ := HNs.out
  have hS14 : ∀ q ∈ blk tp ++ b :: (blk vI1.p ++ blk vK1.p), B ≤ q ∧ n4 ≤ q := fun q hq => by
    rcases List.mem_append.1 hq with hq | hq
    · have := htB q hq
      omega
    · rcases List.mem_cons.1 hq with hq | hq
      · omega
      · rcases List.mem_append.1 hq with hq | hq
        · have := hnI' q hq
          omega
        · have := hnK' q hq
          omega
  have hm14 := HM13.out.keep hf14 (fun q hq => .inr (hS14 q hq).2)
  have hst14 := HS13.out.keep hf14 (fun q hq => (hS14 q hq).1)
  have z14 := hf14.size
  have HRe := mkHid (HHp.out.reach w14 hst14.fr (some ⟨g, 0, none⟩) cg roots (HArg.out hst14))
  have HBk14 := mkHid hbk14
  have HM14 := mkHid hm14
  have HS14 := mkHid hst14
  clear hbk14 hm14 hst14 hf14 hS14 HN2 HM13 HS13 HNs HTy13 hnI' hnK'
  generalize hIs : (([] ++ [(⟨lp, ln, lc⟩ : Le)]) ++ [(⟨tp, tn, tc⟩ : Le)]) = Is at *
  generalize hKs : (([] ++ [markOfN ([] : List Int).length]) ++ [markOfN ([] ++ [markOfN ([] : List Int).length] : List Int).length] : List Int) = Ks at *
  have hKl : Ks.length = 2 := by rw [← hKs]; rfl
  have HIn : Hid (∀ i, i < Ks.length → (Is.getD i noLe).n ≤ 1000000) := fun i hi => by
    rw [hKl] at hi
    have h1 : ln ≤ 65538 := by rw [← hzl]; simp [zs]; omega
    have h2 : tn ≤ 65538 := by rw [← hzt]; simp [zs]; omega
    rw [← hIs]
    rcases i with _ | _ | i
    · show ln ≤ _; omega
    · show tn ≤ _; omega
    · omega
  have HIb : Hid (∀ q ∈ (Is.flatMap fun x => blk x.p), (B ≤ q ∧ q < n3) ∨ (n9 ≤ q ∧ q < n10)) := fun q hq => by
    rw [← hIs] at hq
    have hq2 : q ∈ blk lp ++ (blk tp ++ []) := hq
    rcases List.mem_append.1 hq2 with h | h
    · exact .inl (hlB q h)
    · rw [List.append_nil] at h
      exact .inr (htB q h)
  clear hIs hKs hlB htB hzl hzt
  go_wp2_with fail
  refine Calls.mono HRe.out ?_
  rintro e w15 ⟨vq, L3, rfl, hL3, htq, hf15⟩
  have e3 := HHp.out.one _ _ _ HIL.out hL3
  subst e3
  obtain ⟨xq, rfl, hq15⟩ := htq.lst hLl
  have hm15 := HM14.out.idle hf15
  have HSm := mkHid (same_lst hq15 hm15)
  have HBk15 := mkHid (HBk14.out.keep hf15 (by simp))
  have HM15 := mkHid hm15
  have HQ15 := mkHid hq15
  have HS15 := mkHid (HS14.out.idle hf15)
  have z15 := hf15.size
  generalize hn14 : w14.heap.size = n14 at *
  generalize hn15 : w15.heap.size = n15 at *
  obtain ⟨qp, qn, qc⟩ := xq
  simp only [Le.v] at HSm ⊢
  clear hL3 htq hq15 hm15 hf15 HRe HBk14 HM14 HS14 hn14
  go_wp2_with fail
  refine Calls.mono (HNum.out w15) ?_
  rintro e w' ⟨rfl, hw'⟩
  rw [hw']
  clear hw' w'
  go_wp2_with fail
  refine Calls.mono HSm.out ?_
  rintro e w16 ⟨rfl, hf16⟩
  have hbk16 := HBk15.out.keep hf16 (by simp)
  have z16 : n15 ≤ w16.heap.size := by rw [← hn15]; exact hf16.size
  have HRt := mkHid (Right_ok B b Is [] Ks vI2 noLe vK2 w16 hbk16 (by omega) HIn.out (by omega))
  have HM16 := mkHid (HM15.out.idle hf16)
  have HQ16 := mkHid (HQ15.out.idle hf16)
  have HS16 := mkHid (HS15.out.idle hf16)
  clear hbk16 hf16 HSm HBk15 HM15 HQ15 HS15 hn15
  go_wp2_with fail
  refine Calls.mono HRt.out ?_
  rintro e w17 ⟨rfl, Ms', vM', hMl, hbk17, hf17⟩
  have hS17 : ∀ q ∈ gFoot b noLe Is, B ≤ q ∧ q < n14 ∧ (q < n3 ∨ n4 ≤ q) := fun q hq => by
    rcases List.mem_cons.1 hq with hq | hq
    · omega
    · rcases List.mem_append.1 hq with hq | hq
      · simp [noLe, blk] at hq
      · rcases HIb.out q hq with h | h <;> omega
  have hm17 := HM16.out.keep hf17 (fun q hq => (hS17 q hq).2.2)
  have hq17 := HQ16.out.keep hf17 (fun q hq => .inl (hS17 q hq).2.1)
  have hst17 := HS16.out.keep hf17 (fun q hq => (hS17 q hq).1)
  have z17 := hf17.size
  have HRe := mkHid (HHp.out.reach w17 hst17.fr (some ⟨g, 0, none⟩) cg roots (HArg.out hst17))
  have HBk17 := mkHid hbk17
  have HM17 := mkHid hm17
  have HQ17 := mkHid hq17
  have HS17 := mkHid hst17
  clear hbk17 hm17 hq17 hst17 hf17 hS17 HRt HM16 HQ16 HS16
  go_wp2_with fail
  refine Calls.mono HRe.out ?_
  rintro e w18 ⟨vz, L4, rfl, hL4, htz, hf18⟩
  have e4 := HHp.out.one _ _ _ HIL.out hL4
  subst e4
  obtain ⟨xz, rfl, hz18⟩ := htz.lst hLl
  have hm18 := HM17.out.idle hf18
  have HSm := mkHid (same_lst hz18 hm18)
  have HF18 := mkHid hf18
  obtain ⟨zp, zn, zc⟩ := xz
  simp only [Le.v] at HSm ⊢
  clear hL4 htz hz18 hm18 hf18 HRe
  go_wp2_with fail
  refine Calls.mono (HNum.out w18) ?_
  rintro e w' ⟨rfl, hw'⟩
  rw [hw']
  clear hw' w'
  go_wp2_with fail
  refine Calls.mono HSm.out ?_
  rintro e w19 ⟨rfl, hf19⟩
  have hF19 := HF18.out.trans hf19 (by simp)
  have HBk19 := mkHid (HBk17.out.keep hF19 (by simp))
  have HM19 := mkHid (HM17.out.idle hF19)
  have HQ19 := mkHid (HQ17.out.idle hF19)
  have HS19 := mkHid (HS17.out.idle hF19)
  have z19 : w17.heap.size ≤ w19.heap.size := hF19.size
  clear hF19 hf19 HF18 HSm HBk17 HM17 HQ17 HS17
  go_wp2_with fail
  go_loopw [20] (fun q wr => ∃ i : Nat, 1 ≤ i ∧ (i ≤ roots.length ∨ i = 1) ∧ q = .int .i64 i ∧ Hid (wr.ownsRow w1.heap.size 40 1 (.slice (some ⟨g, 0, none⟩) (roots.length + 2) cg) (roots.length + 2) ((zeroTo roots i ++ [-71, -72]).map (Value.int .i64))) ∧ Hid (Fr [g] w19 wr)) (fun q _ => roots.length - (intOf q).toNat)
  case atStart => exact ⟨1, Nat.le_refl _, .inr rfl, rfl, by rw [zeroTo_one]; exact HS19.out.gv, Fr.refl _ _⟩
  case round =>
    obtain ⟨i, hi1, hi2, rfl, hown, hfr⟩ := hrel
    have i1 : (0 : Int) ≤ (i : Int) := by omega
    by_cases hlt : i < roots.length
    · have i2 : (i : Int) < (roots.length : Int) := by omega
      have i3 : (i : Int) < ((roots.length + 2 : Nat) : Int) := by omega
      have x1 := own_get hown.out i (by simp [zeroTo_len]; omega)
      obtain ⟨cur, hcur⟩ := own_blk hown.out g (by simp [blk])
      have z1 : wr.frozen? ⟨g, i, none⟩ = false := frozen_in hcur i
      have HO2 : Hid ((wr.setCell ⟨g, i, none⟩ (.int .i64 0)).ownsRow w1.heap.size 40 1 (.slice (some ⟨g, 0, none⟩) (roots.length + 2) cg) (roots.length + 2) ((zeroTo roots (i + 1) ++ [-71, -72]).map (Value.int .i64))) := by
        have h1 := (hown.out.stored i (.int .i64 0)).1
        have h2 := zeroTo_set roots i hi1 [-71, -72]
        rw [if_pos hlt] at h2
        rw [← List.map_set, h2] at h1
        exact h1
      have HF2 : Hid (Fr [g] w19 (wr.setCell ⟨g, i, none⟩ (.int .i64 0))) := hfr.out.trans (Fr.setCell wr ⟨g, i, none⟩ _ (S := [g]) (by simp)) (by simp)
      clear hown hcur
      go_wp2_with fail
      go_roundw
      case rel => exact ⟨i + 1, by omega, .inl (by omega), by go_num, HO2, HF2⟩
      case measure => simp [intOf]; omega
    · have i2 : (roots.length : Int) ≤ (i : Int) := by omega
      have hgB := HS19.out.gB
      have hg1 : w1.heap.size ≤ g := (hown.out.lt g rfl).1
      have hfw : Fr [] w1 wr := HS19.out.fr.trans hfr.out (fun q hq => .inr (by have e : q = g := (by simpa using hq); omega))
      have hgS : ∀ q ∈ [g], q < B := fun q hq => by have e : q = g := (by simpa using hq); omega
      have hbk := HBk19.out.keep hfr.out hgS
      have hm := HM19.out.keep hfr.out (fun q hq => .inl (by have := hgS q hq; omega))
      have hq := HQ19.out.keep hfr.out (fun q hq => .inl (by have := hgS q hq; omega))
      have hszr := hfr.out.size
      have hrd := own_front hown.out (by rw [zeroTo_len]; exact s2)
      have hzl := zeroTo_len roots i
      generalize zeroTo roots i = roots2 at *
      have hRw := HHp.out.rreach wr hfw (some ⟨g, 0, none⟩) cg roots2 hrd
      rw [hzl] at hRw hrd
      have HRw := mkHid hRw
      have HRd : Hid (Rd wr (.slice (some ⟨g, 0, none⟩) roots2.length cg) roots2) := by
        show Rd wr _ _
        rw [hzl]; exact hrd
      have HZl := mkHid hzl
      have HBk := mkHid hbk
      have HMm := mkHid hm
      have HQq := mkHid hq
      have HFw := mkHid hfw
      clear hRw hrd hzl hbk hm hq hfw hown hfr HBk19 HM19 HQ19 HS19
      go_wp2_with fail
      refine Calls.mono HRw.out ?_
      rintro e w20 ⟨vy, K2, rfl, hK2, hty, hf20⟩
      have hKl2 := HHp.out.len _ _ hK2
      obtain ⟨xy, rfl, hy20⟩ := hty.lst hKl2
      have hRe := HHp.out.reach w20 (HFw.out.trans hf20 (by simp)) (some ⟨g, 0, none⟩) cg roots2 (HRd.out.idle hf20)
      rw [HZl.out] at hRe
      have HRe2 := mkHid hRe
      have HK2 := mkHid hK2
      have HY20 := mkHid hy20
      have HF20 := mkHid hf20
      obtain ⟨yp, yn, yc⟩ := xy
      simp only [Le.v]
      clear hK2 hty hy20 hRe hf20 HRw
      go_wp2_with fail
      refine Calls.mono HRe2.out ?_
      rintro e w21 ⟨vx, K3, rfl, hK3, htx, hf21⟩
      have e5 := HHp.out.one _ _ _ HK2.out hK3
      subst e5
      obtain ⟨xx, rfl, hx21⟩ := htx.lst hKl2
      have HSm := mkHid (same_lst hx21 (HY20.out.idle hf21))
      have HF21 : Hid (Fr [] wr w21) := HF20.out.trans hf21 (by simp)
      obtain ⟨xp, xn, xc⟩ := xx
      simp only [Le.v] at HSm ⊢
      clear hK3 htx hx21 hf21 HRe2 HF20 HY20
      go_wp2_with fail
      refine Calls.mono (HNum.out w21) ?_
      rintro e w' ⟨rfl, hw'⟩
      rw [hw']
      clear hw' w'
      go_wp2_with fail
      refine Calls.mono HSm.out ?_
      rintro e w22 ⟨rfl, hf22⟩
      have hF22 := HF21.out.trans hf22 (by simp)
      have HSn := mkHid (same_lst (HQq.out.idle hF22) (HMm.out.idle hF22))
      have HF22 := mkHid hF22
      simp only [Le.v] at HSn
      clear hf22 hF22 HSm HF21
      go_wp2_with fail
      refine Calls.mono HSn.out ?_
      rintro e w23 ⟨rfl, hf23⟩
      have hF23 := HF22.out.trans hf23 (by simp)
      have hbk23 := HBk.out.keep hF23 (by simp)
      have HRt := mkHid (Right_ok B b Is Ms' Ks vI2 vM' vK2 w23 hbk23 (by omega) HIn.out (by have := hF23.size; omega))
      have HTyM : Hid (∀ q ∈ blk vM'.p, B ≤ q) := fun q hq => (hbk23.tyM hq).1
      have HF23 : Hid (Fr [] w1 w23) := HFw.out.trans hF23 (by simp)
      clear hf23 hF23 hbk23 HSn HF22
      go_wp2_with fail
      refine Calls.mono HRt.out ?_
      rintro e w24 ⟨rfl, -, -, -, -, hf24⟩
      have hB1 : w1.heap.size ≤ B := by omega
      have HFz : Hid (Fr [] W w24) := by
        refine (F1.out.trans HF1.out (by simp)).trans (HF23.out.trans hf24 fun q hq => .inr ?_) (by simp)
        rcases List.mem_cons.1 hq with hq | hq
        · omega
        · rcases List.mem_append.1 hq with hq | hq
          · have := HTyM.out q hq
            omega
          · rcases HIb.out q hq with h | h <;> omega
      clear hf24 HRt
      go_wp2_with fail
      go_ret
      exact ⟨rfl, HFz.out⟩
end Go.Proofs.YtpaekbghnejhoaaDoor
