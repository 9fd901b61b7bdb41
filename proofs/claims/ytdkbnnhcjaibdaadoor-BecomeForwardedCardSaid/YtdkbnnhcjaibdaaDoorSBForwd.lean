import Derived.Test.YtdkbnnhcjaibdaaDoorSBSwapd
import Derived.Test.YtdkbnnhcjaibdaaDoorSG33BUnf
namespace Go.Proofs.YtdkbnnhcjaibdaaDoor
open Go.RowKit Go.Maps
set_option linter.unusedVariables false
set_option linter.unusedSimpArgs false
attribute [local go_sem ↓] Go.wp_at_zero Go.wp_at_succ
/-- what is counted of the first objects, and of an object's first slots -/
def cAll (f : List (Int × Int)) (ks : List Key) (i : Nat) : Nat := ((ks.take i).map (cntKey f)).sum
def inn (f : List (Int × Int)) (fm : Int) (ss : List Int) (j : Nat) : Nat := if fm = 0 then cntTo f ss j else 0
theorem cAll_succ {f : List (Int × Int)} {ks : List Key} {i : Nat} {k : Key} (h : ks[i]? = some k) : cAll f ks (i + 1) = cAll f ks i + cntKey f k := by
  obtain ⟨h1, h2⟩ := List.getElem?_eq_some_iff.1 h
  unfold cAll
  rw [List.take_succ_eq_append_getElem h1, h2, List.map_append, List.sum_append]
  simp
theorem sum_le (B : Nat) : ∀ l : List Nat, (∀ x ∈ l, x ≤ B) → l.sum ≤ l.length * B
  | [], _ => by simp
  | x :: t, h => by
    have h1 := h x (by simp)
    have h2 := sum_le B t fun y hy => h y (by simp [hy])
    rw [List.sum_cons, List.length_cons, Nat.succ_mul]
    omega
section
variable {words oops mark : Nat} {ks : List Key} {H : HS} {M : MS}
theorem cAll_le (h : KA words oops mark ks H M) (f : List (Int × Int)) (i : Nat) : cAll f ks i ≤ 600000000 := by
  have h1 := h.klen
  have h2 := sum_le 8193 ((ks.take i).map (cntKey f)) fun x hx => by
    obtain ⟨k, k1, rfl⟩ := List.mem_map.1 hx
    have h1 := h.slots k (List.mem_of_mem_take k1)
    unfold cntKey
    have h2 := cntTo_le f k.2.2.2 k.2.2.2.length
    have h3 : turnC f k.2.1 ≤ 1 := by unfold turnC; split <;> omega
    split <;> omega
  unfold cAll
  rw [List.length_map, List.length_take] at h2
  have h3 : min i ks.length * 8193 ≤ 65538 * 8193 := Nat.mul_le_mul_right _ (by omega)
  omega
theorem bound_oops (h : allK words oops ks) (ho : oops ≤ 65536) : ∀ k ∈ ks, 1 ≤ k.1 ∧ k.1 ≤ 65536 := fun k hk => by
  obtain ⟨i, hi, e⟩ := List.getElem_of_mem hk
  have := h i k (by rw [List.getElem?_eq_getElem hi, e])
  unfold takesK at this
  simp only [Bool.and_eq_true, decide_eq_true_eq] at this
  omega
end
set_option maxRecDepth 20000 in
set_option maxHeartbeats 4000000 in
theorem forwarded_any (x y z : Int) (ov va vb rv : Value) (la : List OI) (sa sb roots : List Int) (W : World) (ha : SAt W ov la) (hra : Rd W va sa) (hrb : Rd W vb sb) (hrr : Rd W rv roots) (hT : Tab W) (hT0 : 0 < W.heap.size) :
    Calls Tryd.prog 8 #[.agg #[.int .i64 x, .int .i64 y, .int .i64 z, ov], va, vb, rv] W fun e w' => e = .returned (.bool true) ∧ Fr [] W w' := by
  obtain ⟨po, co, rfl, -⟩ := ha.at_
  obtain ⟨pa, ca, rfl, -⟩ := hra.at_
  obtain ⟨pb, cb, rfl, -⟩ := hrb.at_
  obtain ⟨pr, cr, rfl, -⟩ := hrr.at_
  obtain ⟨W1, hW1⟩ : ∃ W1, W1 = W.alloc (.cells #[.int .i64 x, .int .i64 y, .int .i64 z, .slice po la.length co] 45) := ⟨_, rfl⟩
  have F1 : Hid (Fr [] W W1) := by rw [hW1]; exact Fr.alloc [] _ _
  have hB : W1.heap[W.heap.size]? = some (.cells #[.int .i64 x, .int .i64 y, .int .i64 z, .slice po la.length co] 45 (0, 0)) := by rw [hW1]; exact heap_alloc_new _ _
  have HS : Hid (∀ V, Fr [] W1 V → V.cell? ⟨W.heap.size, 0, none⟩ = some (.int .i64 x) ∧ V.cell? ⟨W.heap.size, 1, none⟩ = some (.int .i64 y) ∧ V.cell? ⟨W.heap.size, 2, none⟩ = some (.int .i64 z) ∧ V.cell? ⟨W.heap.size, 3, none⟩ = some (.slice po la.length co)) := fun V hV => by
    have hb := (hV.block _ (lt_of_heap hB) (by simp)).trans hB
    exact ⟨by rw [cell_in hb]; rfl, by rw [cell_in hb]; rfl, by rw [cell_in hb]; rfl, by rw [cell_in hb]; rfl⟩
  have HA : Hid (∀ V, Fr [] W1 V → SAt V (.slice po la.length co) la) := fun V hV => ha.idle (F1.out.trans hV (by simp))
  have HRa : Hid (∀ V, Fr [] W1 V → Rd V (.slice pa sa.length ca) sa) := fun V hV => hra.idle (F1.out.trans hV (by simp))
  have HRb : Hid (∀ V, Fr [] W1 V → Rd V (.slice pb sb.length cb) sb) := fun V hV => hrb.idle (F1.out.trans hV (by simp))
  have HRr : Hid (∀ V, Fr [] W1 V → Rd V (.slice pr roots.length cr) roots) := fun V hV => hrr.idle (F1.out.trans hV (by simp))
  have HTb : Hid (∀ V, Fr [] W1 V → Tab V ∧ 0 < V.heap.size) := fun V hV => ⟨hT.fr (F1.out.trans hV (by simp)) hT0, Nat.lt_of_lt_of_le hT0 (F1.out.trans hV (by simp)).size⟩
  have s1 := ha.short
  have s2 := hra.short
  have s3 := hrb.short
  have s4 := hrr.short
  have HLd := mkHid (load_p x y z _ la W1 (HA.out W1 (Fr.refl _ _)) (HTb.out W1 (Fr.refl _ _)).1 (HTb.out W1 (Fr.refl _ _)).2)
  clear ha hra hrb hrr hT hT0 hB
  go_enter Tryd.func8, Tryd.ntmps8
  obtain ⟨c0, c1, c2, c3⟩ := HS.out W1 (Fr.refl _ _)
  go_wp2_with fail
  rw [← hW1]
  refine Calls.mono HLd.out ?_
  clear HLd hW1
  rintro e w1 (⟨n, hn0, hn1, hn2, rfl, hf⟩ | ⟨xn, yn, zn, l, H, M, harg, rfl, rfl, rfl, hxn, hall, rfl, hrep, hk, hf1, hnew⟩)
  · have hb : (n == 0) = false := by simp; omega
    have hb2 : (n != 0) = true := by simp; omega
    have HAl := mkHid (alive4_ok w1 (HTb.out w1 hf).1 (HTb.out w1 hf).2)
    have HF := mkHid (F1.out.trans hf (by simp))
    clear hn0 hn1 hn2 hf c0 c1 c2 c3
    go_wp2_with fail
    refine Calls.mono (num4_any n w1) ?_
    rintro e w' ⟨rfl, hw'⟩
    rw [hw']
    clear hw' w'
    go_wp2_with fail
    refine Calls.mono HAl.out ?_
    rintro e w3 ⟨rfl, hf3⟩
    have HF3 := mkHid hf3
    clear hf3
    go_wp2_with fail
    go_ret
    exact ⟨rfl, HF.out.trans HF3.out (by simp)⟩
  · generalize hae : W1.heap.size + 1 = a at *
    have HK := mkHid hk.ka
    have HRe := mkHid hrep
    have HF1 := mkHid hf1
    have HNw := mkHid hnew
    have HFi := mkHid (inS_has hk.ka)
    have HBk := mkHid (bound_oops hall (by unfold argBad at harg; omega))
    have HPos : Hid (0 < W1.heap.size) := (HTb.out W1 (Fr.refl _ _)).2
    clear hk hrep hf1 hnew hae hall harg c0 c1 c2 c3
    go_wp2_with fail
    refine Calls.mono (num4_any 0 w1) ?_
    rintro e w' ⟨rfl, hw'⟩
    rw [hw']
    clear hw' w'
    obtain ⟨pa3, ca3, pb3, cb3, V3, V4, hr3, hr4, hd3, hd4, hown, hf4⟩ := two_copies sa sb _ _ w1 (HRa.out w1 HF1.out) (HRb.out w1 HF1.out)
    have HRu3 := mkHid hr3
    have HRu4 := mkHid hr4
    have HF4 : Hid (Fr [] W1 V4) := HF1.out.trans hf4 (by simp)
    have HR4 := mkHid (HRe.out.keep hf4 (by simp))
    have HSw := mkHid (Forward_ok sa sb _ _ V4 HR4.out HK.out (fun k hk => (HBk.out k hk).2) hd3 hd4 (HTb.out V4 HF4.out).1 (fun h0 => by have h1 := HNw.out 0 h0; have h2 := HPos.out; omega) (HTb.out V4 HF4.out).2)
    clear hr3 hr4 hd3 hd4 hown hf4 HF1 HRe
    go_wp2_with (at_builtin; first | refine Lib.wpList_append_run _ rfl (.const (.slice none 0 0)) (.tmp 37) 36 36 rfl _ _ rfl rfl _ _ HRu3.out ?_ | refine Lib.wpList_append_run _ rfl (.const (.slice none 0 0)) (.tmp 39) 36 36 rfl _ _ rfl rfl _ _ HRu4.out ?_)
    refine Calls.mono HSw.out ?_
    clear HSw HRu3 HRu4
    rintro e w5 (⟨hfit, rfl, hf5⟩ | ⟨hfit, rfl, H2, M2, hrep2, hk2, hage2, hnx2⟩)
    · have HF5 : Hid (Fr [] W1 w5) := HF4.out.trans hf5 (by simp)
      have HR5 := mkHid (HR4.out.keep hf5 (by simp))
      have HFe : Hid (fitN (inS la) sa sb = fitN (has H) sa sb) := by show _ = _; rw [HFi.out]
      generalize fitN (has H) sa sb = F at *
      have hb1 : (F != F) = false := by simp
      have hb2 : (F != 0) = true := by simpa using hfit
      clear hf5 hfit HR4
      go_wp2_with fail
      refine Calls.mono (state_of HR5.out HK.out) ?_
      rintro e w6 ⟨pt, ct, lo, rfl, htl, hf6⟩
      rw [List.length_map] at htl ⊢
      obtain ⟨W7, hW7⟩ : ∃ W7, W7 = w6.alloc (.cells #[.int .i64 (xn : Int), .int .i64 (yn : Int), .int .i64 (zn : Int), .slice pt la.length ct] 45) := ⟨_, rfl⟩
      have HF7 : Hid (Fr [] W1 W7) := by rw [hW7]; exact HF5.out.trans (hf6.trans (Fr.alloc [] _ _) (by simp)) (by simp)
      have HTl : Hid (Tld W7 w5.heap.size (.slice pt la.length ct) lo (la.map oiKey)) := by rw [hW7]; exact htl.fr (Fr.alloc [] _ _) (by simp)
      have HTB : Hid (W7.heap[w6.heap.size]? = some (.cells #[.int .i64 (xn : Int), .int .i64 (yn : Int), .int .i64 (zn : Int), .slice pt la.length ct] 45 (0, 0))) := by rw [hW7]; exact heap_alloc_new _ _
      generalize hTe : w6.heap.size = T at *
      obtain ⟨d0, d1, d2, d3⟩ := HS.out W7 HF7.out
      rw [hW7] at d0 d1 d2 d3
      clear htl hf6
      go_wp2_with fail
      rw [← hW7]
      clear hW7
      refine Calls.mono (fit_ok la xn yn zn _ _ _ sa sb W7 (HA.out W7 HF7.out) (HRa.out W7 HF7.out) (HRb.out W7 HF7.out)) ?_
      rintro e w8 ⟨rfl, hf8⟩
      rw [HFe.out]
      have HF8 : Hid (Fr [] W1 w8) := HF7.out.trans hf8 (by simp)
      have HTl8 := mkHid (HTl.out.fr hf8 (by simp))
      have hb8 := (hf8.block _ (lt_of_heap HTB.out) (by simp)).trans HTB.out
      have t0 : w8.cell? ⟨T, 0, none⟩ = some (.int .i64 (xn : Int)) := by rw [cell_in hb8]; rfl
      have t1 : w8.cell? ⟨T, 1, none⟩ = some (.int .i64 (yn : Int)) := by rw [cell_in hb8]; rfl
      have t2 : w8.cell? ⟨T, 2, none⟩ = some (.int .i64 (zn : Int)) := by rw [cell_in hb8]; rfl
      have t3 : w8.cell? ⟨T, 3, none⟩ = some (.slice pt la.length ct) := by rw [cell_in hb8]; rfl
      clear d0 d1 d2 d3 hf8 hb8 HTB HTl HF7
      obtain ⟨d0, d1, d2, d3⟩ := HS.out w8 HF8.out
      go_wp2_with fail
      refine Calls.mono (num4_any F w8) ?_
      rintro e w' ⟨rfl, hw'⟩
      rw [hw']
      clear hw' w'
      go_wp2_with fail
      refine Calls.mono (sameState_at xn yn zn _ _ _ _ w8 HTl8.out.sat (HA.out w8 HF8.out) HTl8.out.keys) ?_
      rintro e w9 ⟨rfl, hf9⟩
      have HF9 : Hid (Fr [] W1 w9) := HF8.out.trans hf9 (by simp)
      clear hf9 t0 t1 t2 t3 d0 d1 d2 d3
      go_wp2_with fail
      refine Calls.mono (alive4_ok w9 (HTb.out w9 HF9.out).1 (HTb.out w9 HF9.out).2) ?_
      rintro e w10 ⟨rfl, hf10⟩
      have HF10 : Hid (Fr [] W w10) := (F1.out.trans HF9.out (by simp)).trans hf10 (by simp)
      clear hf10
      go_wp2_with fail
      go_ret
      exact ⟨rfl, HF10.out⟩
    · have HF5 : Hid (Fr [] W1 w5) := HF4.out.trans hnx2.1 (fun b hb => .inr (HNw.out b hb))
      have HR5 := mkHid hrep2
      have HK2 := mkHid hk2
      have HFe : Hid (fitN (inS la) sa sb = 0) := by show _ = _; rw [HFi.out, hfit]
      obtain ⟨f1, f2, f3, f4⟩ := fit0 hfit
      have HF0 := mkHid hfit
      have HND := mkHid f4
      have HLe := mkHid f1
      have hlen : ((la.map oiKey).map (turnKey (pf (sa.zip sb)))).length = la.length := by simp
      have HBa : Hid (∀ x ∈ sa, 1 ≤ x ∧ x ≤ 65536) := fun x hx => by
        obtain ⟨k, k1, k2⟩ := has_key HK.out (f2 x hx)
        rw [← k2]; exact HBk.out k k1
      have HBb : Hid (∀ x ∈ sb, 1 ≤ x ∧ x ≤ 65536) := fun x hx => by
        obtain ⟨k, k1, k2⟩ := has_key HK.out (f3 x hx)
        rw [← k2]; exact HBk.out k k1
      have HBz : Hid (∀ p ∈ sa.zip sb, 1 ≤ p.1 ∧ p.1 ≤ 65536) := fun p hp => HBa.out _ (List.of_mem_zip hp).1
      rw [cnt_sum HK.out]
      obtain ⟨N, hN⟩ : ∃ N, N = ((la.map oiKey).map (cntKey (pf (sa.zip sb)))).sum := ⟨_, rfl⟩
      rw [← hN]
      have HN := mkHid hN
      clear hN
      clear f1 f2 f3 f4 hfit hk2 hrep2 hage2 hnx2 HR4
      go_wp2_with fail
      refine Calls.mono (state_of HR5.out HK2.out) ?_
      rintro e w6 ⟨pt, ct, lo, rfl, htl, hf6⟩
      rw [hlen] at htl ⊢
      clear hlen
      obtain ⟨W7, hW7⟩ : ∃ W7, W7 = w6.alloc (.cells #[.int .i64 (xn : Int), .int .i64 (yn : Int), .int .i64 (zn : Int), .slice pt la.length ct] 45) := ⟨_, rfl⟩
      have F57 : Hid (Fr [] w5 W7) := by rw [hW7]; exact hf6.trans (Fr.alloc [] _ _) (by simp)
      have HF7 : Hid (Fr [] W1 W7) := HF5.out.trans F57.out (by simp)
      have HTl : Hid (Tld W7 w5.heap.size (.slice pt la.length ct) lo ((la.map oiKey).map (turnKey (pf (sa.zip sb))))) := by rw [hW7]; exact htl.fr (Fr.alloc [] _ _) (by simp)
      have HTB : Hid (W7.heap[w6.heap.size]? = some (.cells #[.int .i64 (xn : Int), .int .i64 (yn : Int), .int .i64 (zn : Int), .slice pt la.length ct] 45 (0, 0))) := by rw [hW7]; exact heap_alloc_new _ _
      have hTs : w5.heap.size ≤ w6.heap.size := hf6.size
      generalize hTe : w6.heap.size = T at *
      have HTs := mkHid hTs
      obtain ⟨d0, d1, d2, d3⟩ := HS.out W7 HF7.out
      rw [hW7] at d0 d1 d2 d3
      clear htl hf6 hTs
      go_wp2_with fail
      rw [← hW7]
      clear hW7
      refine Calls.mono (fit_ok la xn yn zn _ _ _ sa sb W7 (HA.out W7 HF7.out) (HRa.out W7 HF7.out) (HRb.out W7 HF7.out)) ?_
      rintro e w8 ⟨rfl, hf8⟩
      rw [HFe.out]
      have HF8 : Hid (Fr [] W1 w8) := HF7.out.trans hf8 (by simp)
      have HR8 := mkHid ((HR5.out.keep F57.out (by simp)).keep hf8 (by simp))
      have HTl8 : Hid (∀ V, Fr [] w8 V → Tld V w5.heap.size (.slice pt la.length ct) lo ((la.map oiKey).map (turnKey (pf (sa.zip sb))))) := fun V hV => (HTl.out.fr hf8 (by simp)).fr hV (by simp)
      have HTB8 : Hid (w8.heap[T]? = some (.cells #[.int .i64 (xn : Int), .int .i64 (yn : Int), .int .i64 (zn : Int), .slice pt la.length ct] 45 (0, 0))) := (hf8.block _ (lt_of_heap HTB.out) (by simp)).trans HTB.out
      clear d0 d1 d2 d3 hf8 HTB HTl HF7 F57 HR5 HFe
      go_wp2_with fail
      refine Calls.mono (num4_any 0 w8) ?_
      rintro e w' ⟨rfl, hw'⟩
      rw [hw']
      clear hw' w'
      go_wp2_with fail
      clear hTe
      have hT8 : T < w8.heap.size := lt_of_heap HTB8.out
      have HLoop : Hid (∀ V, Fr [] w8 V → (V.cell? ⟨W.heap.size, 0, none⟩ = some (.int .i64 (xn : Int)) ∧ V.cell? ⟨W.heap.size, 1, none⟩ = some (.int .i64 (yn : Int)) ∧ V.cell? ⟨W.heap.size, 2, none⟩ = some (.int .i64 (zn : Int)) ∧ V.cell? ⟨W.heap.size, 3, none⟩ = some (.slice po la.length co)) ∧ (V.cell? ⟨T, 0, none⟩ = some (.int .i64 (xn : Int)) ∧ V.cell? ⟨T, 1, none⟩ = some (.int .i64 (yn : Int)) ∧ V.cell? ⟨T, 2, none⟩ = some (.int .i64 (zn : Int)) ∧ V.cell? ⟨T, 3, none⟩ = some (.slice pt la.length ct))) := fun V hV => by
        have hb := (hV.block _ (lt_of_heap HTB8.out) (by simp)).trans HTB8.out
        exact ⟨HS.out V (HF8.out.trans hV (by simp)), by rw [cell_in hb]; rfl, by rw [cell_in hb]; rfl, by rw [cell_in hb]; rfl, by rw [cell_in hb]; rfl⟩
      have HA8 : Hid (∀ V, Fr [] w8 V → SAt V (.slice po la.length co) la) := fun V hV => HA.out V (HF8.out.trans hV (by simp))
      have HTu : Hid (∀ V z, Fr [] w8 V → Calls Tryd.prog 48 #[.int .i64 z, .slice pa sa.length ca, .slice pb sb.length cb] V fun e w' => e = .returned (.int .i64 (trnZ (sa.zip sb) z)) ∧ w' = V) := fun V z hV =>
        turned_ok' z sa sb _ _ V HLe.out (fun x hx => by have := HBa.out x hx; omega) (fun x hx => by have := HBb.out x hx; omega) (HRa.out V (HF8.out.trans hV (by simp))) (HRb.out V (HF8.out.trans hV (by simp)))
      go_loopw [15, 16] (fun cv q wr => ∃ i : Nat, i ≤ la.length ∧ q = .int .i64 i ∧ cv = .int .i64 (cAll (pf (sa.zip sb)) (la.map oiKey) i : Nat) ∧ Hid (Fr [] w8 wr)) (fun _ q _ => la.length - (intOf q).toNat)
      case atStart => exact ⟨0, Nat.zero_le _, rfl, rfl, Fr.refl _ _⟩
      case round =>
        obtain ⟨i, hin, rfl, rfl, hq⟩ := hrel
        have i1 : (0 : Int) ≤ (i : Int) := by omega
        obtain ⟨⟨d0, d1, d2, d3⟩, t0, t1, t2, t3⟩ := HLoop.out wr hq.out
        by_cases hlt : i < la.length
        · have i2 : (i : Int) < (la.length : Int) := by omega
          obtain ⟨p', c', ep, hat⟩ := (HA8.out wr hq.out).at_
          injection ep with ep1 _ ep2
          subst ep1 ep2
          obtain ⟨ga, oa, rfl, hca⟩ := hat (by omega)
          obtain ⟨o, ho, o0, o1, o2, o3⟩ := hca i hlt
          have hom := List.mem_of_getElem? ho
          have hrdo := (HA8.out wr hq.out).slots o hom
          have hcs := cAll_succ (f := pf (sa.zip sb)) (ks := la.map oiKey) (i := i) (k := oiKey o) (by rw [List.getElem?_map, ho]; rfl)
          have hcl := cAll_le HK.out (pf (sa.zip sb)) i
          have hsl := HK.out.slots (oiKey o) (List.mem_map.2 ⟨o, hom, rfl⟩)
          obtain ⟨o', om', of', ok'⟩ := find_key HK2.out (HTl8.out wr hq.out).keys (k := turnKey (pf (sa.zip sb)) (oiKey o)) (List.mem_map.2 ⟨oiKey o, List.mem_map.2 ⟨o, hom, rfl⟩, rfl⟩)
          have hosl : o.slots.length ≤ 8192 := hsl
          have hrd' := (HTl8.out wr hq.out).sat.slots o' om'
          obtain ⟨qo, qc, qf, qs, qv⟩ := o'
          obtain ⟨oo, oc, of_, os, ovv⟩ := o
          have ok2 : (qo, qc, qf, qs) = (oo, turnZ (pf (sa.zip sb)) oc, of_, if of_ = 0 then turnTo (pf (sa.zip sb)) os os.length else os) := ok'
          have of2 : (lo.map toOI).find? (fun o => decide (o.oop = oo)) = some ⟨qo, qc, qf, qs, qv⟩ := of'
          simp only [Prod.mk.injEq] at ok2
          clear ok' of'
          obtain ⟨rfl, hqc, rfl, hqs⟩ := ok2
          have htc := trn_turn HND.out HBz.out oc
          rw [htc.1] at hqc
          dsimp only at *
          have hql : qs.length = os.length := by
            by_cases hf0 : qf = 0
            · rw [hqs, if_pos hf0]; exact turnTo_len _ _ _
            · rw [hqs, if_neg hf0]
          have HQs : Hid (∀ j, j < os.length → qs.getD j 0 = if qf = 0 then trnZ (sa.zip sb) (os.getD j 0) else os.getD j 0) := fun j hj => by
            by_cases hf0 : qf = 0
            · rw [hqs, if_pos hf0, if_pos hf0]
              unfold turnTo
              rw [List.take_length, List.drop_length, List.append_nil, List.getD_eq_getElem?_getD, List.getElem?_map, List.getElem?_eq_getElem hj, List.getD_eq_getElem?_getD, List.getElem?_eq_getElem hj]
              exact (trn_turn HND.out HBz.out _).1
            · rw [hqs, if_neg hf0, if_neg hf0]
          have HCs : Hid (cAll (pf (sa.zip sb)) (la.map oiKey) (i + 1) = cAll (pf (sa.zip sb)) (la.map oiKey) i + (turnC (pf (sa.zip sb)) oc + inn (pf (sa.zip sb)) qf os os.length)) := hcs
          have HIn : Hid (∀ j, j < os.length → inn (pf (sa.zip sb)) qf os (j + 1) = inn (pf (sa.zip sb)) qf os j + (if qf = 0 then (if trnZ (sa.zip sb) (os.getD j 0) = os.getD j 0 then 0 else 1) else 0)) := fun j hj => by
            unfold inn
            split
            · rw [cntTo_succ _ _ _ hj, (trn_turn HND.out HBz.out _).2]
            · rfl
          have HI0 : Hid (inn (pf (sa.zip sb)) qf os 0 = 0) := by show inn _ _ _ _ = _; unfold inn cntTo; simp
          have HIl : Hid (∀ j, inn (pf (sa.zip sb)) qf os j ≤ 8192) := fun j => by
            have hs2 : os.length ≤ 8192 := hsl
            have := cntTo_le (pf (sa.zip sb)) os j
            unfold inn
            split <;> omega
          obtain ⟨pv, cv, rfl, -⟩ := hrdo.at_
          obtain ⟨pw, cw, rfl, -⟩ := hrd'.at_
          have HRo := mkHid hrdo
          have HRq := mkHid hrd'
          have HAtE : Hid (atR (lo.map toOI) qo = .tuple #[.agg #[.int .i64 qo, .int .i64 qc, .int .i64 qf, .slice pw qs.length cw], .bool true]) := by
            show atR _ _ = _
            unfold atR
            rw [of2]
            rfl
          generalize hV1 : wr.alloc (.cells #[.int .i64 qo, .int .i64 oc, .int .i64 qf, .slice pv os.length cv] 76) = V1
          have HF1 : Hid (Fr [] wr V1) := by rw [← hV1]; exact Fr.alloc [] _ _
          have HBX : Hid (V1.heap[wr.heap.size]? = some (.cells #[.int .i64 qo, .int .i64 oc, .int .i64 qf, .slice pv os.length cv] 76 (0, 0))) := by rw [← hV1]; exact heap_alloc_new _ _
          have HFV : Hid (Fr [] w8 V1) := hq.out.trans HF1.out (by simp)
          have HAt := mkHid (at_ok (lo.map toOI) qo xn yn zn _ V1 (HTl8.out V1 HFV.out).sat)
          rw [HAtE.out] at HAt
          have y0 : V1.cell? ⟨wr.heap.size, 0, none⟩ = some (.int .i64 qo) := by rw [cell_in HBX.out]; rfl
          have hqc2 := (HLoop.out V1 HFV.out).2
          obtain ⟨v0, v1, v2, v3⟩ := hqc2
          have HTc : Hid (turnC (pf (sa.zip sb)) oc = if trnZ (sa.zip sb) oc = oc then 0 else 1) := htc.2
          have HQl := mkHid hql
          have HQc := mkHid hqc
          clear hat hca ho hom hrdo hrd' om' of2 HAtE hqs htc hcs hsl
          go_wp2_with fail
          refine Calls.mono HAt.out ?_
          rintro e w9 ⟨rfl, hf9⟩
          generalize hV2 : w9.alloc (.cells #[.int .i64 qo, .int .i64 qc, .int .i64 qf, .slice pw qs.length cw] 76) = V2
          have F92 : Hid (Fr [] V1 V2) := by rw [← hV2]; exact hf9.trans (Fr.alloc [] _ _) (by simp)
          have HBY : Hid (V2.heap[w9.heap.size]? = some (.cells #[.int .i64 qo, .int .i64 qc, .int .i64 qf, .slice pw qs.length cw] 76 (0, 0))) := by rw [← hV2]; exact heap_alloc_new _ _
          have HFV2 : Hid (Fr [] w8 V2) := HFV.out.trans F92.out (by simp)
          have HRo2 := mkHid (HRo.out.idle (HF1.out.trans F92.out (by simp)))
          have HRq2 := mkHid (HRq.out.idle (HF1.out.trans F92.out (by simp)))
          generalize hXe : wr.heap.size = X at *
          generalize hYe : w9.heap.size = Y at *
          have HXY : Hid (∀ V, Fr [] V2 V → (V.cell? ⟨X, 1, none⟩ = some (.int .i64 oc) ∧ V.cell? ⟨X, 2, none⟩ = some (.int .i64 qf) ∧ V.cell? ⟨X, 3, none⟩ = some (.slice pv os.length cv)) ∧ V.cell? ⟨Y, 1, none⟩ = some (.int .i64 qc) ∧ V.cell? ⟨Y, 2, none⟩ = some (.int .i64 qf) ∧ V.cell? ⟨Y, 3, none⟩ = some (.slice pw qs.length cw)) := fun V hV => by
            have hb := ((F92.out.trans hV (by simp)).block _ (lt_of_heap HBX.out) (by simp)).trans HBX.out
            have hb2 := (hV.block _ (lt_of_heap HBY.out) (by simp)).trans HBY.out
            exact ⟨⟨by rw [cell_in hb]; rfl, by rw [cell_in hb]; rfl, by rw [cell_in hb]; rfl⟩, by rw [cell_in hb2]; rfl, by rw [cell_in hb2]; rfl, by rw [cell_in hb2]; rfl⟩
          obtain ⟨⟨x1, x2, x3⟩, u1, u2, u3⟩ := HXY.out V2 (Fr.refl _ _)
          have hb1 : (qf != qf) = false := by simp
          have hb2 : ((qs.length : Int) != (os.length : Int)) = false := by rw [hql]; simp
          have hb3 : (qc != trnZ (sa.zip sb) oc) = false := by rw [hqc]; simp
          have HTk : Hid (∀ n z, Calls Tryd.prog 48 #[.int .i64 z, .slice pa sa.length ca, .slice pb sb.length cb] (V2.drewN n) fun e w' => e = .returned (.int .i64 (trnZ (sa.zip sb) z)) ∧ w' = V2.drewN n) := fun n z => HTu.out _ z (HFV2.out.trans (Fr.drewN [] _ _) (by simp))
          obtain ⟨C2, hC2⟩ : ∃ C2, C2 = cAll (pf (sa.zip sb)) (la.map oiKey) i + turnC (pf (sa.zip sb)) oc := ⟨_, rfl⟩
          have HC2 := mkHid hC2
          have hC2l : C2 ≤ 600000001 := by rw [hC2, HTc.out]; split <;> omega
          have HS0 : Hid ((qc != oc) = false → C2 = cAll (pf (sa.zip sb)) (la.map oiKey) i) := fun hb => by
            have : trnZ (sa.zip sb) oc = oc := by rw [← HQc.out]; simpa using hb
            rw [HC2.out, HTc.out, if_pos this]; rfl
          have HS1 : Hid ((qc != oc) = true → C2 = cAll (pf (sa.zip sb)) (la.map oiKey) i + 1) := fun hb => by
            have : ¬ trnZ (sa.zip sb) oc = oc := by rw [← HQc.out]; simpa using hb
            rw [HC2.out, HTc.out, if_neg this]
          clear hf9 hql hV1 d0 d1 d2 d3 t0 t1 t2 t3 y0 v0 v1 v2 v3 HAt hqc hC2
          go_wp2_with fail
          go_quiet ((go_at_call 48; refine (HTk.out _ _).mono ?_; rintro e w'' ⟨rfl, rfl⟩; exact ⟨rfl, _, rfl⟩))
          generalize hCi : cAll (pf (sa.zip sb)) (la.map oiKey) i = Ci at *
          have hCiz : (0 : Int) ≤ (Ci : Int) := by omega
          have HE3 : Hid (∀ j, C2 + inn (pf (sa.zip sb)) qf os j ≤ 600009000) := fun j => by have := HIl.out j; omega
          cases hb4 : (qc != oc)
          all_goals
            first
              | (have hC3 := mkHid (HS0.out hb4))
              | (have hC3 := mkHid (HS1.out hb4))
            clear HS0 HS1
            go_wp2_with fail
            clear x1 x2 x3 u1 u2 u3 hb1 hb2 hb3 hb4
            go_loopw [15, 20] (fun cv q wr => ∃ j : Nat, j ≤ os.length ∧ q = .int .i64 j ∧ cv = .int .i64 ((C2 + inn (pf (sa.zip sb)) qf os j : Nat) : Int) ∧ Hid (Fr [] V2 wr)) (fun _ q _ => os.length - (intOf q).toNat)
            case atStart => exact ⟨0, Nat.zero_le _, rfl, by rw [HI0.out, hC3.out]; first | rfl | go_num, Fr.drewN [] _ _⟩
            case round =>
              obtain ⟨j, hjn, rfl, rfl, hq3⟩ := hrel
              have j1 : (0 : Int) ≤ (j : Int) := by omega
              obtain ⟨⟨x1, x2, x3⟩, u1, u2, u3⟩ := HXY.out _ hq3.out
              by_cases hj : j < os.length
              · have j2 : (j : Int) < (os.length : Int) := by omega
                have j3 : (j : Int) < (qs.length : Int) := by have := HQl.out; omega
                obtain ⟨p1, e1, ee1, r1⟩ := (HRo2.out.idle hq3.out).at_
                injection ee1 with ee1 _ ee2
                subst ee1 ee2
                obtain ⟨gx, ox, rfl, -, hcx⟩ := r1 (by omega)
                obtain ⟨p2, e2, ee3, r2⟩ := (HRq2.out.idle hq3.out).at_
                injection ee3 with ee3 _ ee4
                subst ee3 ee4
                obtain ⟨gy, oy, rfl, -, hcy⟩ := r2 (by omega)
                have c1 := hcx j hj
                have c2 := hcy j (by omega)
                rw [HQs.out j hj] at c2
                have hI := HIn.out j hj
                have hE := HE3.out j
                have HTj := mkHid (HTu.out _ (os.getD j 0) (HFV2.out.trans hq3.out (by simp)))
                generalize os.getD j 0 = xz at *
                generalize inn (pf (sa.zip sb)) qf os j = Ij at *
                clear hcx hcy r1 r2
                have hjz : (0 : Int) ≤ ((C2 + Ij : Nat) : Int) := by omega
                by_cases hf0 : qf = 0
                · subst hf0
                  rw [if_pos rfl] at c2 hI
                  by_cases hx : trnZ (sa.zip sb) xz = xz
                  · rw [if_pos hx] at hI
                    rw [hx] at c2 HTj
                    have hbx : (xz != xz) = false := by simp
                    have HI1 : Hid (inn (pf (sa.zip sb)) 0 os (j + 1) = Ij) := hI
                    clear hI hx
                    go_wp2_with fail
                    refine Calls.mono HTj.out ?_
                    rintro e w' ⟨rfl, hw'⟩
                    rw [hw']
                    clear hw' w'
                    go_wp2_with fail
                    go_roundw
                    case rel => exact ⟨j + 1, by omega, by go_num, by first | (rw [HI1.out]; done) | (rw [HI1.out, Int.natCast_add]), hq3⟩
                    case measure => simp [intOf]; omega
                  · rw [if_neg hx] at hI
                    have hbt : (trnZ (sa.zip sb) xz != trnZ (sa.zip sb) xz) = false := by simp
                    have hbx : (trnZ (sa.zip sb) xz != xz) = true := by simpa using hx
                    generalize trnZ (sa.zip sb) xz = tz at *
                    have HI1 : Hid (inn (pf (sa.zip sb)) 0 os (j + 1) = Ij + 1) := hI
                    clear hI hx
                    go_wp2_with fail
                    refine Calls.mono HTj.out ?_
                    rintro e w' ⟨rfl, hw'⟩
                    rw [hw']
                    clear hw' w'
                    go_wp2_with fail
                    go_roundw
                    case rel => exact ⟨j + 1, by omega, by go_num, by rw [HI1.out]; go_num, hq3⟩
                    case measure => simp [intOf]; omega
                · have hbf : (qf == 0) = false := by simpa using hf0
                  rw [if_neg hf0] at c2 hI
                  have hbx : (xz != xz) = false := by simp
                  have HI1 : Hid (inn (pf (sa.zip sb)) qf os (j + 1) = Ij) := hI
                  clear hI hf0
                  go_wp2_with fail
                  go_roundw
                  case rel => exact ⟨j + 1, by omega, by go_num, by first | (rw [HI1.out]; done) | (rw [HI1.out, Int.natCast_add]), hq3⟩
                  case measure => simp [intOf]; omega
              · have hje : j = os.length := by omega
                subst hje
                have HNe : Hid (cAll (pf (sa.zip sb)) (la.map oiKey) (i + 1) = C2 + inn (pf (sa.zip sb)) qf os os.length) := by
                  show _ = _
                  rw [HCs.out, HC2.out, Nat.add_assoc]
                have HF3 : Hid (Fr [] w8 _) := HFV2.out.trans hq3.out (by simp)
                clear hj
                go_wp2_with fail
                go_roundw
                case rel => exact ⟨i + 1, by omega, by go_num, by rw [HNe.out], HF3⟩
                case measure => simp [intOf]; omega
        · have hie : i = la.length := by omega
          subst hie
          have HFA : Hid (Fr [] W1 wr) := HF8.out.trans hq.out (by simp)
          have HRw := mkHid (HR8.out.keep hq.out (by simp))
          have hcN : cAll (pf (sa.zip sb)) (la.map oiKey) la.length = N := by
            rw [HN.out]
            unfold cAll
            rw [List.take_of_length_le (by simp)]
          rw [hcN]
          clear hlt hcN
          go_wp2_with fail
          clear d0 d1 d2 d3 t0 t1 t2 t3
          refine Calls.mono (unfound_ok sa sb roots _ _ _ wr HRw.out HK2.out HND.out HLe.out HBa.out HBb.out (HRa.out wr HFA.out) (HRb.out wr HFA.out) (HRr.out wr HFA.out) (HTb.out wr HFA.out).1 (HTb.out wr HFA.out).2) ?_
          rintro e w10 ⟨rfl, hf10⟩
          have HFB : Hid (Fr [] W1 w10) := HFA.out.trans hf10 (by simp)
          clear hf10
          go_wp2_with fail
          refine Calls.mono (alive4_ok w10 (HTb.out w10 HFB.out).1 (HTb.out w10 HFB.out).2) ?_
          rintro e w11 ⟨rfl, hf11⟩
          have HFC : Hid (Fr [] W w11) := (F1.out.trans HFB.out (by simp)).trans hf11 (by simp)
          clear hf11
          go_wp2_with fail
          go_ret
          exact ⟨rfl, HFC.out⟩
end Go.Proofs.YtdkbnnhcjaibdaaDoor
