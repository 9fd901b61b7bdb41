import Derived.Test.YtdkbnnhcjaibdaaDoorSBFit
import Derived.Test.YtdkbnnhcjaibdaaDoorSG30BCopy
namespace Go.Proofs.YtdkbnnhcjaibdaaDoor
open Go.RowKit Go.Maps
set_option linter.unusedVariables false
set_option linter.unusedSimpArgs false
attribute [local go_sem ↓] Go.wp_at_zero Go.wp_at_succ
theorem inS_has {words oops mark : Nat} {la : List OI} {H : HS} {M : MS} (h : KA words oops mark (la.map oiKey) H M) : inS la = has H := by
  funext q
  rw [h.has, Bool.eq_iff_iff]
  unfold inS
  rw [List.find?_isSome, List.any_eq_true]
  constructor
  · rintro ⟨o, h1, h2⟩
    exact ⟨oiKey o, List.mem_map.2 ⟨o, h1, rfl⟩, by have e : o.oop = q := of_decide_eq_true h2; show (o.oop == q) = true; simpa using e⟩
  · rintro ⟨k, h1, h2⟩
    obtain ⟨o, h3, rfl⟩ := List.mem_map.1 h1
    refine ⟨o, h3, decide_eq_true ?_⟩
    have : (o.oop == q) = true := h2
    simpa using this
set_option maxRecDepth 20000 in
set_option maxHeartbeats 4000000 in
theorem swapped_any (x y z : Int) (ov va vb : Value) (la : List OI) (sa sb : List Int) (W : World) (ha : SAt W ov la) (hra : Rd W va sa) (hrb : Rd W vb sb) (hT : Tab W) (hT0 : 0 < W.heap.size) :
    Calls Tryd.prog 5 #[.agg #[.int .i64 x, .int .i64 y, .int .i64 z, ov], va, vb] W fun e w' => e = .returned (.bool true) ∧ Fr [] W w' := by
  obtain ⟨po, co, rfl, -⟩ := ha.at_
  obtain ⟨pa, ca, rfl, -⟩ := hra.at_
  obtain ⟨pb, cb, rfl, -⟩ := hrb.at_
  obtain ⟨W1, hW1⟩ : ∃ W1, W1 = W.alloc (.cells #[.int .i64 x, .int .i64 y, .int .i64 z, .slice po la.length co] 45) := ⟨_, rfl⟩
  have F1 : Hid (Fr [] W W1) := by rw [hW1]; exact Fr.alloc [] _ _
  have hB : W1.heap[W.heap.size]? = some (.cells #[.int .i64 x, .int .i64 y, .int .i64 z, .slice po la.length co] 45 (0, 0)) := by rw [hW1]; exact heap_alloc_new _ _
  have HS : Hid (∀ V, Fr [] W1 V → V.cell? ⟨W.heap.size, 0, none⟩ = some (.int .i64 x) ∧ V.cell? ⟨W.heap.size, 1, none⟩ = some (.int .i64 y) ∧ V.cell? ⟨W.heap.size, 2, none⟩ = some (.int .i64 z) ∧ V.cell? ⟨W.heap.size, 3, none⟩ = some (.slice po la.length co)) := fun V hV => by
    have hb := (hV.block _ (lt_of_heap hB) (by simp)).trans hB
    exact ⟨by rw [cell_in hb]; rfl, by rw [cell_in hb]; rfl, by rw [cell_in hb]; rfl, by rw [cell_in hb]; rfl⟩
  have HA : Hid (∀ V, Fr [] W1 V → SAt V (.slice po la.length co) la) := fun V hV => ha.idle (F1.out.trans hV (by simp))
  have HRa : Hid (∀ V, Fr [] W1 V → Rd V (.slice pa sa.length ca) sa) := fun V hV => hra.idle (F1.out.trans hV (by simp))
  have HRb : Hid (∀ V, Fr [] W1 V → Rd V (.slice pb sb.length cb) sb) := fun V hV => hrb.idle (F1.out.trans hV (by simp))
  have HTb : Hid (∀ V, Fr [] W1 V → Tab V ∧ 0 < V.heap.size) := fun V hV => ⟨hT.fr (F1.out.trans hV (by simp)) hT0, Nat.lt_of_lt_of_le hT0 (F1.out.trans hV (by simp)).size⟩
  have s1 := ha.short
  have s2 := hra.short
  have s3 := hrb.short
  have HLd := mkHid (load_p x y z _ la W1 (HA.out W1 (Fr.refl _ _)) (HTb.out W1 (Fr.refl _ _)).1 (HTb.out W1 (Fr.refl _ _)).2)
  clear ha hra hrb hT hT0 hB
  go_enter Tryd.func5, Tryd.ntmps5
  obtain ⟨c0, c1, c2, c3⟩ := HS.out W1 (Fr.refl _ _)
  go_wp2_with fail
  rw [← hW1]
  refine Calls.mono HLd.out ?_
  clear HLd hW1
  rintro e w1 (⟨n, hn0, hn1, hn2, rfl, hf⟩ | ⟨xn, yn, zn, l, H, M, -, rfl, rfl, rfl, hxn, hall, rfl, hrep, hk, hf1, hnew⟩)
  · have hb : (n == 0) = false := by simp; omega
    have hb2 : (n != 0) = true := by simp; omega
    have HAl := mkHid (alive4_ok w1 (HTb.out w1 hf).1 (HTb.out w1 hf).2)
    have HF := mkHid (F1.out.trans hf (by simp))
    clear hn0 hn1 hn2 hf c0 c1 c2 c3
    go_wp2_with fail
    refine Calls.mono (num4_any n w1) ?_
    rintro e w' ⟨rfl, hw'⟩
    rw [hw']
    clear hw' w'
    go_wp2_with fail
    refine Calls.mono HAl.out ?_
    rintro e w3 ⟨rfl, hf3⟩
    have HF3 := mkHid hf3
    clear hf3
    go_wp2_with fail
    go_ret
    exact ⟨rfl, HF.out.trans HF3.out (by simp)⟩
  · generalize hae : W1.heap.size + 1 = a at *
    have HK := mkHid hk.ka
    have HRe := mkHid hrep
    have HF1 := mkHid hf1
    have HNw := mkHid hnew
    have HAge : Hid (H.age = 0) := hk.age
    have HFi := mkHid (inS_has hk.ka)
    clear hk hrep hf1 hnew hae hall c0 c1 c2 c3
    go_wp2_with fail
    refine Calls.mono (num4_any 0 w1) ?_
    rintro e w' ⟨rfl, hw'⟩
    rw [hw']
    clear hw' w'
    go_wp2_with fail
    refine Calls.mono (room_of HRe.out HK.out) ?_
    rintro e w2 ⟨rfl, hf2⟩
    rw [List.length_map]
    have HF2 : Hid (Fr [] W1 w2) := HF1.out.trans hf2 (by simp)
    have HR2 := mkHid (HRe.out.keep hf2 (by simp))
    obtain ⟨pa3, ca3, pb3, cb3, V3, V4, hr3, hr4, hd3, hd4, hown, hf4⟩ := two_copies sa sb _ _ w2 (HRa.out w2 HF2.out) (HRb.out w2 HF2.out)
    have HRu3 := mkHid hr3
    have HRu4 := mkHid hr4
    have HF4 : Hid (Fr [] W1 V4) := HF2.out.trans hf4 (by simp)
    have HR4 := mkHid (HR2.out.keep hf4 (by simp))
    have HSw := mkHid (Swap_ok sa sb _ _ V4 HR4.out HK.out hd3 hd4 (fun _ g hg hm => by have h1 := hown g hg; have h2 := HR2.out.lt g hm; omega) (by rw [HAge.out]; omega))
    have HFo : Hid (∀ g ∈ foot a l, g < V4.heap.size) := fun g hg => HR4.out.lt g hg
    clear hf2 hr3 hr4 hd3 hd4 hown hf4 HF1 HRe
    go_wp2_with (at_builtin; first | refine Lib.wpList_append_run _ rfl (.const (.slice none 0 0)) (.tmp 40) 36 36 rfl _ _ rfl rfl _ _ HRu3.out ?_ | refine Lib.wpList_append_run _ rfl (.const (.slice none 0 0)) (.tmp 42) 36 36 rfl _ _ rfl rfl _ _ HRu4.out ?_)
    refine Calls.mono HSw.out ?_
    clear HSw HRu3 HRu4
    rintro e w5 (⟨hfit, rfl, hf5⟩ | ⟨hfit, rfl, H2, M2, hrep2, hk2, hage2, hnx2⟩)
    · have HF5 : Hid (Fr [] W1 w5) := HF4.out.trans hf5 (by simp)
      have HR5 := mkHid (HR4.out.keep hf5 (by simp))
      have HFe : Hid (fitN (inS la) sa sb = fitN (has H) sa sb) := by show _ = _; rw [HFi.out]
      generalize fitN (has H) sa sb = F at *
      have hb1 : (F != F) = false := by simp
      have hb2 : (F != 0) = true := by simpa using hfit
      clear hf5 hfit HR4 HR2
      go_wp2_with fail
      refine Calls.mono (state_of HR5.out HK.out) ?_
      rintro e w6 ⟨pt, ct, lo, rfl, htl, hf6⟩
      rw [List.length_map] at htl ⊢
      obtain ⟨W7, hW7⟩ : ∃ W7, W7 = w6.alloc (.cells #[.int .i64 (xn : Int), .int .i64 (yn : Int), .int .i64 (zn : Int), .slice pt la.length ct] 45) := ⟨_, rfl⟩
      have HF7 : Hid (Fr [] W1 W7) := by rw [hW7]; exact HF5.out.trans (hf6.trans (Fr.alloc [] _ _) (by simp)) (by simp)
      have HTl : Hid (Tld W7 w5.heap.size (.slice pt la.length ct) lo (la.map oiKey)) := by rw [hW7]; exact htl.fr (Fr.alloc [] _ _) (by simp)
      have HTB : Hid (W7.heap[w6.heap.size]? = some (.cells #[.int .i64 (xn : Int), .int .i64 (yn : Int), .int .i64 (zn : Int), .slice pt la.length ct] 45 (0, 0))) := by rw [hW7]; exact heap_alloc_new _ _
      generalize hTe : w6.heap.size = T at *
      obtain ⟨d0, d1, d2, d3⟩ := HS.out W7 HF7.out
      rw [hW7] at d0 d1 d2 d3
      clear htl hf6
      go_wp2_with fail
      rw [← hW7]
      clear hW7
      refine Calls.mono (fit_ok la xn yn zn _ _ _ sa sb W7 (HA.out W7 HF7.out) (HRa.out W7 HF7.out) (HRb.out W7 HF7.out)) ?_
      rintro e w8 ⟨rfl, hf8⟩
      rw [HFe.out]
      have HF8 : Hid (Fr [] W1 w8) := HF7.out.trans hf8 (by simp)
      have HTl8 := mkHid (HTl.out.fr hf8 (by simp))
      have hb8 := (hf8.block _ (lt_of_heap HTB.out) (by simp)).trans HTB.out
      have t0 : w8.cell? ⟨T, 0, none⟩ = some (.int .i64 (xn : Int)) := by rw [cell_in hb8]; rfl
      have t1 : w8.cell? ⟨T, 1, none⟩ = some (.int .i64 (yn : Int)) := by rw [cell_in hb8]; rfl
      have t2 : w8.cell? ⟨T, 2, none⟩ = some (.int .i64 (zn : Int)) := by rw [cell_in hb8]; rfl
      have t3 : w8.cell? ⟨T, 3, none⟩ = some (.slice pt la.length ct) := by rw [cell_in hb8]; rfl
      clear d0 d1 d2 d3 hf8 hb8 HTB HTl HF7
      obtain ⟨d0, d1, d2, d3⟩ := HS.out w8 HF8.out
      go_wp2_with fail
      refine Calls.mono (num4_any F w8) ?_
      rintro e w' ⟨rfl, hw'⟩
      rw [hw']
      clear hw' w'
      go_wp2_with fail
      refine Calls.mono (sameState_at xn yn zn _ _ _ _ w8 HTl8.out.sat (HA.out w8 HF8.out) HTl8.out.keys) ?_
      rintro e w9 ⟨rfl, hf9⟩
      have HF9 : Hid (Fr [] W1 w9) := HF8.out.trans hf9 (by simp)
      clear hf9 t0 t1 t2 t3 d0 d1 d2 d3
      go_wp2_with fail
      refine Calls.mono (alive4_ok w9 (HTb.out w9 HF9.out).1 (HTb.out w9 HF9.out).2) ?_
      rintro e w10 ⟨rfl, hf10⟩
      have HF10 : Hid (Fr [] W w10) := (F1.out.trans HF9.out (by simp)).trans hf10 (by simp)
      clear hf10
      go_wp2_with fail
      go_ret
      exact ⟨rfl, HF10.out⟩
    · have HF5 : Hid (Fr [] W1 w5) := HF4.out.trans hnx2.1 (fun b hb => .inr (HNw.out b hb))
      have HV5 : Hid (V4.heap.size ≤ w5.heap.size) := hnx2.1.size
      have HR5 := mkHid hrep2
      have HK2 := mkHid hk2
      have HAg2 : Hid (H2.age ≤ 65538) := by show H2.age ≤ _; have := HAge.out; omega
      have HFe : Hid (fitN (inS la) sa sb = 0) := by show _ = _; rw [HFi.out, hfit]
      obtain ⟨f1, f2, f3, f4⟩ := fit0 hfit
      have HF0 := mkHid hfit
      have HND := mkHid f4
      have HLe := mkHid f1
      have hlen : (swapK (sa.zip sb) (la.map oiKey)).length = la.length := by rw [swapK_len]; simp
      have HLn := mkHid hlen
      clear f1 f2 f3 f4 hfit hk2 hrep2 hage2 hnx2 HR4 HR2
      go_wp2_with fail
      refine Calls.mono (state_of HR5.out HK2.out) ?_
      rintro e w6 ⟨pt, ct, lo, rfl, htl, hf6⟩
      rw [hlen] at htl ⊢
      clear hlen
      obtain ⟨W7, hW7⟩ : ∃ W7, W7 = w6.alloc (.cells #[.int .i64 (xn : Int), .int .i64 (yn : Int), .int .i64 (zn : Int), .slice pt la.length ct] 45) := ⟨_, rfl⟩
      have F57 : Hid (Fr [] w5 W7) := by rw [hW7]; exact hf6.trans (Fr.alloc [] _ _) (by simp)
      have HF7 : Hid (Fr [] W1 W7) := HF5.out.trans F57.out (by simp)
      have HTl : Hid (Tld W7 w5.heap.size (.slice pt la.length ct) lo (swapK (sa.zip sb) (la.map oiKey))) := by rw [hW7]; exact htl.fr (Fr.alloc [] _ _) (by simp)
      have HTB : Hid (W7.heap[w6.heap.size]? = some (.cells #[.int .i64 (xn : Int), .int .i64 (yn : Int), .int .i64 (zn : Int), .slice pt la.length ct] 45 (0, 0))) := by rw [hW7]; exact heap_alloc_new _ _
      have hTs : w5.heap.size ≤ w6.heap.size := hf6.size
      generalize hTe : w6.heap.size = T at *
      have HTs := mkHid hTs
      obtain ⟨d0, d1, d2, d3⟩ := HS.out W7 HF7.out
      rw [hW7] at d0 d1 d2 d3
      clear htl hf6 hTs
      go_wp2_with fail
      rw [← hW7]
      clear hW7
      refine Calls.mono (fit_ok la xn yn zn _ _ _ sa sb W7 (HA.out W7 HF7.out) (HRa.out W7 HF7.out) (HRb.out W7 HF7.out)) ?_
      rintro e w8 ⟨rfl, hf8⟩
      rw [HFe.out]
      have HF8 : Hid (Fr [] W1 w8) := HF7.out.trans hf8 (by simp)
      have HR8 := mkHid ((HR5.out.keep F57.out (by simp)).keep hf8 (by simp))
      have HTl8 : Hid (∀ V, Fr [] w8 V → Tld V w5.heap.size (.slice pt la.length ct) lo (swapK (sa.zip sb) (la.map oiKey))) := fun V hV => (HTl.out.fr hf8 (by simp)).fr hV (by simp)
      have HTB8 : Hid (w8.heap[T]? = some (.cells #[.int .i64 (xn : Int), .int .i64 (yn : Int), .int .i64 (zn : Int), .slice pt la.length ct] 45 (0, 0))) := (hf8.block _ (lt_of_heap HTB.out) (by simp)).trans HTB.out
      clear d0 d1 d2 d3 hf8 HTB HTl HF7 F57 HR5 HFe
      go_wp2_with fail
      refine Calls.mono (num4_any 0 w8) ?_
      rintro e w' ⟨rfl, hw'⟩
      rw [hw']
      clear hw' w'
      go_wp2_with fail
      clear hTe
      have hT8 : T < w8.heap.size := lt_of_heap HTB8.out
      have HLoop : Hid (∀ V, Fr [] w8 V → (V.cell? ⟨W.heap.size, 0, none⟩ = some (.int .i64 (xn : Int)) ∧ V.cell? ⟨W.heap.size, 1, none⟩ = some (.int .i64 (yn : Int)) ∧ V.cell? ⟨W.heap.size, 2, none⟩ = some (.int .i64 (zn : Int)) ∧ V.cell? ⟨W.heap.size, 3, none⟩ = some (.slice po la.length co)) ∧ (V.cell? ⟨T, 0, none⟩ = some (.int .i64 (xn : Int)) ∧ V.cell? ⟨T, 1, none⟩ = some (.int .i64 (yn : Int)) ∧ V.cell? ⟨T, 2, none⟩ = some (.int .i64 (zn : Int)) ∧ V.cell? ⟨T, 3, none⟩ = some (.slice pt la.length ct))) := fun V hV => by
        have hb := (hV.block _ (lt_of_heap HTB8.out) (by simp)).trans HTB8.out
        exact ⟨HS.out V (HF8.out.trans hV (by simp)), by rw [cell_in hb]; rfl, by rw [cell_in hb]; rfl, by rw [cell_in hb]; rfl, by rw [cell_in hb]; rfl⟩
      have HA8 : Hid (∀ V, Fr [] w8 V → SAt V (.slice po la.length co) la) := fun V hV => HA.out V (HF8.out.trans hV (by simp))
      go_loopw [14] (fun q wr => ∃ i : Nat, i ≤ la.length ∧ q = .int .i64 i ∧ Hid (Fr [] w8 wr)) (fun q _ => la.length - (intOf q).toNat)
      case atStart => exact ⟨0, Nat.zero_le _, rfl, Fr.refl _ _⟩
      case round =>
        obtain ⟨i, hin, rfl, hq⟩ := hrel
        have i1 : (0 : Int) ≤ (i : Int) := by omega
        obtain ⟨⟨d0, d1, d2, d3⟩, t0, t1, t2, t3⟩ := HLoop.out wr hq.out
        by_cases hlt : i < la.length
        · have i2 : (i : Int) < (la.length : Int) := by omega
          obtain ⟨p', c', ep, hat⟩ := (HA8.out wr hq.out).at_
          injection ep with ep1 _ ep2
          subst ep1 ep2
          obtain ⟨ga, oa, rfl, hca⟩ := hat (by omega)
          obtain ⟨o, ho, o0, o1, o2, o3⟩ := hca i hlt
          have hom := List.mem_of_getElem? ho
          have hrdo := (HA8.out wr hq.out).slots o hom
          obtain ⟨o', om', of', ok'⟩ := find_key HK2.out (HTl8.out wr hq.out).keys (k := (partnerZ (sa.zip sb) o.oop, o.cls, o.fmt, o.slots)) (List.mem_map.2 ⟨oiKey o, List.mem_map.2 ⟨o, hom, rfl⟩, rfl⟩)
          have hrd' := (HTl8.out wr hq.out).sat.slots o' om'
          obtain ⟨qo, qc, qf, qs, qv⟩ := o'
          obtain ⟨oo, oc, of_, os, ovv⟩ := o
          simp only [oiKey, Prod.mk.injEq] at ok'
          obtain ⟨rfl, rfl, rfl, rfl⟩ := ok'
          dsimp only at *
          obtain ⟨pv, cv, rfl, -⟩ := hrdo.at_
          obtain ⟨pw, cw, rfl, -⟩ := hrd'.at_
          have HRo := mkHid hrdo
          have HRq := mkHid hrd'
          have HAtE : Hid (atR (lo.map toOI) (partnerZ (sa.zip sb) oo) = .tuple #[.agg #[.int .i64 (partnerZ (sa.zip sb) oo), .int .i64 qc, .int .i64 qf, .slice pw qs.length cw], .bool true]) := by
            show atR _ _ = _
            unfold atR
            rw [of']
            rfl
          generalize hV1 : wr.alloc (.cells #[.int .i64 oo, .int .i64 qc, .int .i64 qf, .slice pv qs.length cv] 76) = V1
          have HF1 : Hid (Fr [] wr V1) := by rw [← hV1]; exact Fr.alloc [] _ _
          have HBX : Hid (V1.heap[wr.heap.size]? = some (.cells #[.int .i64 oo, .int .i64 qc, .int .i64 qf, .slice pv qs.length cv] 76 (0, 0))) := by rw [← hV1]; exact heap_alloc_new _ _
          have HFV : Hid (Fr [] w8 V1) := hq.out.trans HF1.out (by simp)
          have HPn : Hid (∀ V, Hid (Fr [] V1 V) → Calls Tryd.prog 35 #[.int .i64 oo, .slice pa sa.length ca, .slice pb sb.length cb] V fun e w' => e = .returned (.int .i64 (partnerZ (sa.zip sb) oo)) ∧ w' = V) := fun V hV => partner_ok oo sa sb _ _ V HLe.out (HRa.out V ((HF8.out.trans HFV.out (by simp)).trans hV.out (by simp))) (HRb.out V ((HF8.out.trans HFV.out (by simp)).trans hV.out (by simp)))
          have HAt : Hid (∀ V, Hid (Fr [] V1 V) → Calls Tryd.prog 34 #[.agg #[.int .i64 (xn : Int), .int .i64 (yn : Int), .int .i64 (zn : Int), .slice pt la.length ct], .int .i64 (partnerZ (sa.zip sb) oo)] V fun e w' => e = .returned (.tuple #[.agg #[.int .i64 (partnerZ (sa.zip sb) oo), .int .i64 qc, .int .i64 qf, .slice pw qs.length cw], .bool true]) ∧ Hid (Fr [] V w') ∧ Hid (Fr [] V1 w')) := fun V hV =>
            (at_ok (lo.map toOI) (partnerZ (sa.zip sb) oo) xn yn zn _ V (HTl8.out V (HFV.out.trans hV.out (by simp))).sat).mono fun e w' ⟨he, hf⟩ => ⟨by rw [he, HAtE.out], hf, hV.out.trans hf (by simp)⟩
          generalize partnerZ (sa.zip sb) oo = z at *
          clear hat hca ho hom hrdo hrd' om' of' HAtE
          go_wp2_with fail
          have hX : wr.heap.size < V1.heap.size := lt_of_heap HBX.out
          generalize hXe : wr.heap.size = X at *
          clear hV1 d0 d1 d2 d3 t0 t1 t2 t3 hXe
          have HCl : Hid (∀ V, Hid (Fr [] V1 V) → (V.cell? ⟨T, 0, none⟩ = some (.int .i64 (xn : Int)) ∧ V.cell? ⟨T, 1, none⟩ = some (.int .i64 (yn : Int)) ∧ V.cell? ⟨T, 2, none⟩ = some (.int .i64 (zn : Int)) ∧ V.cell? ⟨T, 3, none⟩ = some (.slice pt la.length ct)) ∧ (V.cell? ⟨X, 0, none⟩ = some (.int .i64 oo) ∧ V.cell? ⟨X, 1, none⟩ = some (.int .i64 qc) ∧ V.cell? ⟨X, 2, none⟩ = some (.int .i64 qf) ∧ V.cell? ⟨X, 3, none⟩ = some (.slice pv qs.length cv)) ∧ Hid (Fr [] V1 V)) := fun V hV => by
            have hb := (hV.out.block _ (lt_of_heap HBX.out) (by simp)).trans HBX.out
            exact ⟨(HLoop.out V (HFV.out.trans hV.out (by simp))).2, ⟨by rw [cell_in hb]; rfl, by rw [cell_in hb]; rfl, by rw [cell_in hb]; rfl, by rw [cell_in hb]; rfl⟩, hV⟩
          have HXA : Hid (∀ w' : World, Hid (Fr [] (V1.alloc (.cells #[.int .i64 0, .int .i64 0, .int .i64 0, .slice none 0 0] 76)).drew w') → w'.heap[V1.heap.size]? = some (.cells #[.int .i64 0, .int .i64 0, .int .i64 0, .slice none 0 0] 76 (0, 0))) := fun w' hf => by
            have h5 : (V1.alloc (.cells #[.int .i64 0, .int .i64 0, .int .i64 0, .slice none 0 0] 76)).drew.heap[V1.heap.size]? = some (.cells #[.int .i64 0, .int .i64 0, .int .i64 0, .slice none 0 0] 76 (0, 0)) := heap_alloc_new V1 _
            exact (hf.out.block _ (lt_of_heap h5) (by simp)).trans h5
          have hR : Hid (Fr [] V1 V1) := Fr.refl _ _
          have hRz : V1.heap.size ≤ V1.heap.size := Nat.le_refl _
          go_cut [16, 17] (fun p b Wc => ∃ Y, p = .pointer (some ⟨Y, 0, none⟩) ∧ b = .bool true ∧ Hid (Fr [] V1 Wc) ∧ Hid (Wc.heap[Y]? = some (.cells #[.int .i64 z, .int .i64 qc, .int .i64 qf, .slice pw qs.length cw] 76 (0, 0))))
          case first =>
            obtain ⟨⟨t0, t1, t2, t3⟩, ⟨x0, x1, x2, x3⟩, -⟩ := HCl.out V1 hR
            go_region_held3 (fun V => (V.cell? ⟨T, 0, none⟩ = some (.int .i64 (xn : Int)) ∧ V.cell? ⟨T, 1, none⟩ = some (.int .i64 (yn : Int)) ∧ V.cell? ⟨T, 2, none⟩ = some (.int .i64 (zn : Int)) ∧ V.cell? ⟨T, 3, none⟩ = some (.slice pt la.length ct)) ∧ (V.cell? ⟨X, 0, none⟩ = some (.int .i64 oo) ∧ V.cell? ⟨X, 1, none⟩ = some (.int .i64 qc) ∧ V.cell? ⟨X, 2, none⟩ = some (.int .i64 qf) ∧ V.cell? ⟨X, 3, none⟩ = some (.slice pv qs.length cv)) ∧ Hid (Fr [] V1 V))
              (first
                | exact HCl.out _ (hid_drew hR)
                | exact HCl.out _ (hid_drew (hid_alloc hR))
                | exact HCl.out _ (by assumption)
                | exact HCl.out _ (hid_alloc (by assumption))
                | exact HCl.out _ (hid_set4 (by assumption) hRz))
              (first
                | (go_at_call 35; refine (HPn.out _ (hid_drew (hid_alloc hR))).mono ?_; rintro e w' ⟨rfl, rfl⟩)
                | (go_at_call 35; refine (HPn.out _ (hid_drew hR)).mono ?_; rintro e w' ⟨rfl, rfl⟩)
                | (go_at_call 34; refine (HAt.out _ (hid_drew (hid_alloc hR))).mono ?_; rintro e w' ⟨rfl, hfa, hfb⟩; have hbx := HXA.out _ hfa; have y0 := cell_in hbx 0; have y1 := cell_in hbx 1; have y2 := cell_in hbx 2; have y3 := cell_in hbx 3; have z0 := frozen_in hbx 0; have z1 := frozen_in hbx 1; have z2 := frozen_in hbx 2; have z3 := frozen_in hbx 3)
                | (go_at_call 34; refine (HAt.out _ (hid_drew hR)).mono ?_; rintro e w' ⟨rfl, hfa, hfb⟩))
            all_goals go_wp2_with fail
            all_goals
              go_meet
              case rel =>
                first
                  | exact ⟨V1.heap.size, rfl, rfl, hid_set4 (by assumption) hRz, set4_at (HXA.out _ (by assumption))⟩
                  | exact ⟨_, rfl, rfl, hid_alloc (by assumption), heap_alloc_new _ _⟩
          case rest =>
            obtain ⟨Y, rfl, rfl, hq2, hby⟩ := hcut
            obtain ⟨-, ⟨x0, x1, x2, x3⟩, -⟩ := HCl.out wc hq2
            have u0 : wc.cell? ⟨Y, 0, none⟩ = some (.int .i64 z) := by rw [cell_in hby.out]; rfl
            have u1 : wc.cell? ⟨Y, 1, none⟩ = some (.int .i64 qc) := by rw [cell_in hby.out]; rfl
            have u2 : wc.cell? ⟨Y, 2, none⟩ = some (.int .i64 qf) := by rw [cell_in hby.out]; rfl
            have u3 : wc.cell? ⟨Y, 3, none⟩ = some (.slice pw qs.length cw) := by rw [cell_in hby.out]; rfl
            have HSB := mkHid (sameBody_ok oo z qc qf qs _ _ wc (HRo.out.idle (HF1.out.trans hq2.out (by simp))) (HRq.out.idle (HF1.out.trans hq2.out (by simp))))
            clear HCl HXA HAt HPn
            go_wp2_with fail
            refine Calls.mono HSB.out ?_
            rintro e w9 ⟨rfl, hf9⟩
            have HF9 : Hid (Fr [] w8 w9) := (HFV.out.trans hq2.out (by simp)).trans hf9 (by simp)
            clear hf9 HSB x0 x1 x2 x3 u0 u1 u2 u3
            go_wp2_with fail
            go_roundw
            case rel => exact ⟨i + 1, by omega, by go_num, HF9⟩
            case measure => simp [intOf]; omega
        · have hie : i = la.length := by omega
          subst hie
          have HFA : Hid (Fr [] W1 wr) := HF8.out.trans hq.out (by simp)
          have HRw := mkHid (HR8.out.keep hq.out (by simp))
          clear hlt
          go_wp2_with fail
          refine Calls.mono (room_of HRw.out HK2.out) ?_
          rintro e w9 ⟨rfl, hf9⟩
          rw [swapK_end, HLn.out]
          have HFB : Hid (Fr [] W1 w9) := HFA.out.trans hf9 (by simp)
          have HR9 := mkHid (HRw.out.keep hf9 (by simp))
          obtain ⟨pa5, ca5, pb5, cb5, V5, V6, hr5, hr6, hd5, hd6, hown, hf6⟩ := two_copies sa sb _ _ w9 (HRa.out w9 HFB.out) (HRb.out w9 HFB.out)
          have HRu5 := mkHid hr5
          have HRu6 := mkHid hr6
          have HF86 : Hid (Fr [] w8 V6) := (hq.out.trans hf9 (by simp)).trans hf6 (by simp)
          have HF6 : Hid (Fr [] W1 V6) := HFB.out.trans hf6 (by simp)
          have HR6 := mkHid (HR9.out.keep hf6 (by simp))
          have HSw := mkHid (Swap_ok sa sb _ _ V6 HR6.out HK2.out hd5 hd6 (fun _ g hg hm => by have h1 := hown g hg; have h2 := HR9.out.lt g hm; omega) (by have := HAg2.out; omega))
          clear hf9 hr5 hr6 hd5 hd6 hown hf6 d0 d1 d2 d3 t0 t1 t2 t3
          go_wp2_with (at_builtin; first | refine Lib.wpList_append_run _ rfl (.const (.slice none 0 0)) (.tmp 99) 36 36 rfl _ _ rfl rfl _ _ HRu5.out ?_ | refine Lib.wpList_append_run _ rfl (.const (.slice none 0 0)) (.tmp 101) 36 36 rfl _ _ rfl rfl _ _ HRu6.out ?_)
          refine Calls.mono HSw.out ?_
          clear HSw HRu5 HRu6
          rintro e w18 (⟨hfit, -⟩ | ⟨-, rfl, H3, M3, hrep3, hk3, -, hnx3⟩)
          · exact absurd (fit_again HK.out HF0.out HK2.out) hfit
          rw [swap_twice _ HND.out] at hk3
          have HKA := mkHid hk3
          have HRe18 := mkHid hrep3
          have HFG : Hid (Fr [] W1 w18) := HF6.out.trans hnx3.1 (fun b hb => .inr (HNw.out b hb))
          have HTB18 : Hid (w18.heap[T]? = some (.cells #[.int .i64 (xn : Int), .int .i64 (yn : Int), .int .i64 (zn : Int), .slice pt la.length ct] 45 (0, 0))) := by
            have h1 := (HF86.out.block _ (lt_of_heap HTB8.out) (by simp)).trans HTB8.out
            exact (hnx3.1.block _ (lt_of_heap h1) (fun hm => by have h2 := HFo.out _ hm; have h3 := HV5.out; have h4 := HTs.out; omega)).trans h1
          have HCl : Hid (∀ V, Hid (Fr [] w18 V) → (V.cell? ⟨W.heap.size, 0, none⟩ = some (.int .i64 (xn : Int)) ∧ V.cell? ⟨W.heap.size, 1, none⟩ = some (.int .i64 (yn : Int)) ∧ V.cell? ⟨W.heap.size, 2, none⟩ = some (.int .i64 (zn : Int)) ∧ V.cell? ⟨W.heap.size, 3, none⟩ = some (.slice po la.length co)) ∧ V.cell? ⟨T, 3, none⟩ = some (.slice pt la.length ct) ∧ Hid (Fr [] w18 V)) := fun V hV => by
            have hb := (hV.out.block _ (lt_of_heap HTB18.out) (by simp)).trans HTB18.out
            exact ⟨HS.out V (HFG.out.trans hV.out (by simp)), by rw [cell_in hb]; rfl, hV⟩
          have HSt : Hid (∀ V, Hid (Fr [] w18 V) → Calls Tryd.prog 18 #[.pointer (some ⟨a, 0, none⟩)] V fun e w' => ∃ p c lo, e = .returned (.agg #[.int .i64 (xn : Int), .int .i64 (yn : Int), .int .i64 (zn : Int), .slice p la.length c]) ∧ Hid (Tld w' V.heap.size (.slice p la.length c) lo (la.map oiKey)) ∧ Hid (Fr [] w18 w')) := fun V hV => by
            refine (state_of (HRe18.out.keep hV.out (by simp)) HKA.out).mono ?_
            rintro e w' ⟨p, c, lo2, rfl, h1, h2⟩
            rw [List.length_map] at h1 ⊢
            exact ⟨p, c, lo2, rfl, h1, hV.out.trans h2 (by simp)⟩
          have HSS : Hid (∀ V p c lo2 B, Hid (Tld V B (.slice p la.length c) lo2 (la.map oiKey)) → Hid (Fr [] w18 V) → Calls Tryd.prog 19 #[.agg #[.int .i64 (xn : Int), .int .i64 (yn : Int), .int .i64 (zn : Int), .slice p la.length c], .agg #[.int .i64 (xn : Int), .int .i64 (yn : Int), .int .i64 (zn : Int), .slice po la.length co]] V fun e w' => e = .returned (.bool true) ∧ Hid (Fr [] w18 w')) := fun V p c lo2 B h1 h2 =>
            (sameState_at xn yn zn _ _ _ _ V h1.out.sat (HA.out V (HFG.out.trans h2.out (by simp))) h1.out.keys).mono fun e w' ⟨he, hf⟩ => ⟨he, h2.out.trans hf (by simp)⟩
          have HAl : Hid (∀ V, Hid (Fr [] w18 V) → Calls Tryd.prog 30 #[] V fun e w' => e = .returned (.bool true) ∧ Hid (Fr [] w18 w')) := fun V hV =>
            (alive4_ok V (HTb.out V (HFG.out.trans hV.out (by simp))).1 (HTb.out V (HFG.out.trans hV.out (by simp))).2).mono fun e w' ⟨he, hf⟩ => ⟨he, hV.out.trans hf (by simp)⟩
          have hR : Hid (Fr [] w18 w18) := Fr.refl _ _
          have HFin : Hid (Fr [] W w18) := F1.out.trans HFG.out (by simp)
          clear hrep3 hk3 hnx3 HTB18 HRe18 HKA HTB8 HLoop HA8 HTl8 HR8 HR9 HR6 HRw HK HK2 HFi HF0 HND HLe HLn HA HRa HRb HTb HFA HFB HF86 HF6 HFo HV5 HTs HAg2 HAge HNw HF8 HF5 HF4 HF2 hq HS
          generalize (xn : Int) - endK (la.map oiKey) = U at *
          generalize (yn : Int) - (la.length : Int) = U2 at *
          go_wp2_with fail
          obtain ⟨⟨c0, c1, c2, c3⟩, t3, -⟩ := HCl.out w18 hR
          go_region_held3 (fun V => (V.cell? ⟨W.heap.size, 0, none⟩ = some (.int .i64 (xn : Int)) ∧ V.cell? ⟨W.heap.size, 1, none⟩ = some (.int .i64 (yn : Int)) ∧ V.cell? ⟨W.heap.size, 2, none⟩ = some (.int .i64 (zn : Int)) ∧ V.cell? ⟨W.heap.size, 3, none⟩ = some (.slice po la.length co)) ∧ V.cell? ⟨T, 3, none⟩ = some (.slice pt la.length ct) ∧ Hid (Fr [] w18 V))
            (first
              | exact HCl.out _ (hid_drew hR)
              | exact HCl.out _ (by assumption))
            (first
              | (go_at_call 29; refine (num4_any 0 _).mono ?_; rintro e w' ⟨rfl, rfl⟩)
              | (go_at_call 18; refine (HSt.out _ (hid_drew hR)).mono ?_; rintro e w' ⟨p', c', lo', rfl, htl', hfa⟩)
              | (go_at_call 19; refine (HSS.out _ _ _ _ _ (by assumption) (by assumption)).mono ?_; rintro e w' ⟨rfl, hfb⟩)
              | (go_at_call 30; refine (HAl.out _ (by assumption)).mono ?_; rintro e w' ⟨rfl, hfc⟩))
          go_wp2_with fail
          go_ret
          exact ⟨rfl, HFin.out.trans (Hid.out (by assumption)) (by simp)⟩
end Go.Proofs.YtdkbnnhcjaibdaaDoor
