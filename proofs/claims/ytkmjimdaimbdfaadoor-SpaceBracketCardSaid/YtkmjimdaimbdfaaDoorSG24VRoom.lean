import Derived.Test.YtkmjimdaimbdfaaDoorSG23VAdd
import Derived.BigQuiet
import Derived.BigRegion
import Derived.Test.YtkmjimdaimbdfaaDoorSG12HLoadX
import Derived.Deep.RegionHeld3
namespace Go.Proofs.YtkmjimdaimbdfaaDoor
open Go.RowKit Go.Maps
set_option linter.unusedVariables false
set_option linter.unusedSimpArgs false
attribute [local go_sem ↓] Go.wp_at_zero Go.wp_at_succ
theorem Pls.rd {w : World} {B : Nat} {v : Value} {l : List Nat} (h : Pls w B v l) (hl : l.length ≤ 65538) : Rd w v (zs l) := by
  have h' : w.ownsRow B 3 1 v (zs l).length ((zs l).map (Value.int .i64)) := by rw [zs_len]; exact h
  exact own_rd h' (by rw [zs_len]; omega)
theorem getD_in (l : List Nat) (i : Nat) (h : i < l.length) : l.getD i 0 ∈ l := by
  rw [List.getD_eq_getElem?_getD, List.getElem?_eq_getElem h]
  exact List.getElem_mem h
theorem take_snoc (l : List Nat) (i : Nat) (h : i < l.length) : l.take (i + 1) = l.take i ++ [l.getD i 0] := by
  rw [List.take_succ_eq_append_getElem h, List.getD_eq_getElem?_getD, List.getElem?_eq_getElem h]; rfl
theorem sumK_bound (ks : List Key) (hs : ∀ k ∈ ks, k.2.2.2.length ≤ 8192) : ∀ l : List Nat, (∀ i ∈ l, i < ks.length) → 0 ≤ sumK ks l ∧ sumK ks l ≤ 8194 * (l.length : Int)
  | [], _ => by simp [sumK]
  | i :: t, h => by
    have h1 := sumK_bound ks hs t fun x hx => h x (by simp [hx])
    have h2 := hs _ (keyD_mem (h i (by simp)))
    have h3 : 0 ≤ lenOf ((ks.getD i noK).2.2.2.length : Int) (ks.getD i noK).2.2.1 ∧ lenOf ((ks.getD i noK).2.2.2.length : Int) (ks.getD i noK).2.2.1 ≤ 8194 := by
      unfold lenOf; split <;> omega
    simp only [sumK, List.length_cons]
    push_cast
    omega
set_option maxRecDepth 20000 in
set_option maxHeartbeats 2000000 in
theorem needed_k (ks : List Key) (l : List Nat) (x1 x2 x3 : Int) (ov lv : Value) (w : World) (ha : Sat w ov ks) (hl : Rd w lv (zs l)) (hlt : ∀ i ∈ l, i < ks.length) (hlen : l.length ≤ 65538) (hf : ∀ k ∈ ks, k.2.2.1 = 0 ∨ k.2.2.1 = 1) :
    Calls Tryd.prog 30 #[.agg #[.int .i64 x1, .int .i64 x2, .int .i64 x3, ov], lv] w fun e w' => e = .returned (.int .i64 (sumK ks l)) ∧ Fr [] w w' := by
  have HS := mkHid ha
  have HL := mkHid hl
  have HT := mkHid hlt
  have HFm := mkHid hf
  obtain ⟨pa, ca, rfl, -⟩ := ha.at_
  obtain ⟨pl, cl, el, -⟩ := hl.at_
  rw [zs_len] at el
  subst el
  have hks := ha.short
  clear ha hl hlt hf
  go_enter Tryd.func30, Tryd.ntmps30
  go_wp2_with fail
  obtain ⟨V, hV⟩ : ∃ V, (w.alloc (.cells #[.int .i64 x1, .int .i64 x2, .int .i64 x3, .slice pa ks.length ca] 44)) = V := ⟨_, rfl⟩
  rw [hV]
  have hfV : Fr [] w V := by rw [← hV]; exact (Fr.alloc [] _ _)
  have hb1 : V.heap[w.heap.size]? = some (.cells #[.int .i64 x1, .int .i64 x2, .int .i64 x3, .slice pa ks.length ca] 44 (0, 0)) := by
    rw [← hV]; exact heap_alloc_new _ _
  have c3 : V.cell? ⟨w.heap.size, 3, none⟩ = some (.slice pa ks.length ca) := by rw [cell_in hb1]; rfl
  have HSV := mkHid (HS.out.idle hfV)
  have HLV := mkHid (HL.out.idle hfV)
  have HF := mkHid hfV
  clear hfV hV hb1 HS HL
  go_loopw [5, 6] (fun n q wr => ∃ k : Nat, k ≤ l.length ∧ q = .int .i64 k ∧ n = .int .i64 (sumK ks (l.take k)) ∧ Hid (Fr [] V wr)) (fun _ q _ => l.length - (intOf q).toNat)
  case atStart => exact ⟨0, Nat.zero_le _, rfl, rfl, Fr.refl _ _⟩
  case round =>
    obtain ⟨k, hkn, rfl, rfl, hR⟩ := hrel
    have c3 := (hR.out.cell (p := ⟨w.heap.size, 3, none⟩) (World.block_lt_of_cell? V _ c3) (by simp)).trans c3
    by_cases hlt : k < l.length
    · have hmem := getD_in l k hlt
      have HSV := mkHid (HSV.out.idle hR.out)
      have HLV := mkHid (HLV.out.idle hR.out)
      have hj := HT.out _ hmem
      have hb := sumK_bound ks HSV.out.slots (l.take k) fun i hi => HT.out i (List.mem_of_mem_take hi)
      have hb2 : ((l.take k).length : Int) ≤ 65538 := by simp; omega
      have HSm : Hid (sumK ks (l.take (k + 1)) = sumK ks (l.take k) + lenOf ((ks.getD (l.getD k 0) noK).2.2.2.length : Int) (ks.getD (l.getD k 0) noK).2.2.1) := by
        show sumK ks (l.take (k + 1)) = _
        rw [take_snoc l k hlt, sumK_snoc]
      obtain ⟨pa', ca', e2, hpa⟩ := HSV.out.at_
      cases e2
      obtain ⟨ga, oa, rfl, hca⟩ := hpa (by omega)
      obtain ⟨pv, cv, o0, o1, o2, o3, -⟩ := hca _ hj
      obtain ⟨pl', cl', e3, hpl⟩ := HLV.out.at_
      rw [zs_len] at e3 hpl
      cases e3
      obtain ⟨gl, ol, rfl, -, hcl⟩ := hpl (by omega)
      have x0 := hcl k hlt
      rw [zs_getD l k hlt] at x0
      have hsl := HSV.out.slots _ (keyD_mem hj)
      have hfm := HFm.out _ (keyD_mem hj)
      generalize hJ : l.getD k 0 = j at *
      generalize (ks.getD j noK).1 = y0 at *
      generalize (ks.getD j noK).2.1 = y1 at *
      generalize (ks.getD j noK).2.2.1 = y2 at *
      generalize (ks.getD j noK).2.2.2 = y3 at *
      generalize sumK ks (l.take k) = sm at *
      obtain ⟨f, hf, hf1⟩ : ∃ f : Nat, y2 = (f : Int) ∧ f ≤ 1 := by
        rcases hfm with h | h
        · exact ⟨0, by omega, by omega⟩
        · exact ⟨1, by omega, by omega⟩
      subst hf
      have hln : lenOf (y3.length : Int) (f : Int) = (lenN y3.length f : Nat) := lenOf_nat _ _
      have hln2 : lenN y3.length f ≤ 8194 := by unfold lenN; split <;> omega
      rw [hln] at HSm
      have HLe : Hid (∀ W, Calls Tryd.prog 63 #[.int .i64 (y3.length : Int), .int .i64 (f : Int)] W fun e w' => e = .returned (.int .i64 ((lenN y3.length f : Nat) : Int)) ∧ w' = W) := fun W => refLen_any y3.length f W (by omega)
      generalize y3.length = yn at *
      generalize lenN yn f = ln at *
      have k1 : (0 : Int) ≤ (k : Int) := by omega
      have k2 : (k : Int) < (l.length : Int) := by omega
      have j1 : (0 : Int) ≤ (j : Int) := by omega
      have j2 : (j : Int) < (ks.length : Int) := by omega
      have s1 : -9223372036854775808 ≤ sm + (ln : Int) := by omega
      have s2 : sm + (ln : Int) ≤ 9223372036854775807 := by omega
      clear hca hpa hpl hcl hJ hln hfm hmem HSV HLV HT HFm hb2
      go_wp2_with fail
      go_quiet ((go_at_call 63; exact Calls.quiet_of_same (HLe.out _)))
      go_wp2_with fail
      go_roundw
      case rel => exact ⟨k + 1, by omega, by go_num, by rw [HSm.out], hR.out.trans (Fr.drewN [] _ _) (by simp)⟩
      case measure => simp [intOf]; omega
    · have hke : k = l.length := by omega
      subst hke
      rw [List.take_length]
      go_wp2_with fail
      go_ret
      exact ⟨rfl, HF.out.trans hR.out (by simp)⟩
end Go.Proofs.YtkmjimdaimbdfaaDoor
namespace Go.Proofs.YtkmjimdaimbdfaaDoor
open Go.RowKit Go.Maps
set_option linter.unusedVariables false
set_option linter.unusedSimpArgs false
attribute [local go_sem ↓] Go.wp_at_zero Go.wp_at_succ
theorem run_moreW2 (ss ts : List Int) (v u : Value) (w : World) (B : Nat) (h : w.ownsRow B 28 1 v ss.length (ss.map (Value.int .i64))) (hu : Rd w u ts) (hb : ss.length + ts.length ≤ 1099511627776) (hB : B ≤ w.heap.size) :
    ∃ v' w', (Builtin.append_ #[29, 29] 29 #[v, u]).run Tryd.prog w = .ok v' w' ∧ w'.ownsRow B 28 1 v' (ss ++ ts).length ((ss ++ ts).map (Value.int .i64)) ∧ w.grownBy w' v.ownBlock ∧ (v'.ownBlock = v.ownBlock ∨ v'.ownBlock = some w.heap.size) := by
  obtain ⟨p, c, rfl, h1⟩ := hu.at_
  obtain ⟨i33, ii, iz, is, ib⟩ := info_parts info33
  cases p with
  | none =>
    have h0 : ts.length = 0 := by
      rcases Nat.eq_zero_or_pos ts.length with h0 | h0
      · exact h0
      · obtain ⟨g, off, e2, _⟩ := h1 h0; cases e2
    have hs : ts = [] := List.length_eq_zero_iff.1 h0
    have hc := hu.nil c rfl
    subst hs
    subst hc
    rw [List.append_nil]
    exact ⟨_, _, run_append_owned_none (P := Tryd.prog) (w := w) B 29 29 28 i33 1 Tryd.underlying29 ii _ _ _ h, h, ⟨rfl, rfl, rfl, Nat.le_refl _, fun _ _ _ => rfl⟩, .inl rfl⟩
  | some ad =>
    have hnews : ∀ j x, (ts.map (Value.int .i64))[j]? = some x → w.cell? (ad.add j) = some x := fun j x hx => by
      rw [List.getElem?_map] at hx
      cases hz : ts[j]? with
      | none => rw [hz] at hx; simp at hx
      | some z =>
        rw [hz] at hx
        simp at hx
        obtain ⟨hj, hjz⟩ := List.getElem?_eq_some_iff.1 hz
        obtain ⟨g, off, e2, h2, h3⟩ := h1 (by omega)
        rw [Option.some.inj e2, Addr.add_mid, h3 j hj, List.getD_eq_getElem?_getD, hz, ← hx]
        rfl
    obtain ⟨v', w', hr, h2, h3, _, h5⟩ := run_append_own_at (P := Tryd.prog) w B 29 29 28 i33 (.int .i64 0) 1 8 Tryd.underlying29 ii iz is ib rfl (by decide) _ _ _ h ad ts.length c (ts.map (Value.int .i64)) (by simp) hnews (fun x hx => by obtain ⟨z, _, rfl⟩ := List.mem_map.1 hx; rfl) (by unfold maxLen; omega) (by omega) hB
    refine ⟨v', w', hr, ?_, h3, h5⟩
    rw [List.length_append, List.map_append]
    exact h2
set_option maxHeartbeats 400000 in
theorem noWord_ok (z : Int) (w : World) (hT : Tab w) : Calls Tryd.prog 71 #[.int .i64 z] w fun e w' => e = .returned (.bool (decide (kindOf z = 0))) ∧ w' = w := by
  have HK := mkHid (kind_any z w hT)
  generalize kindOf z = k at *
  by_cases h : k = 0
  · subst h
    clear hT
    go_enter Tryd.func71, Tryd.ntmps71
    go_wp2_with (go_at_call 92; refine Calls.mono HK.out ?_; rintro e w' ⟨rfl, hw'⟩; rw [hw']; clear hw' w')
    go_ret
    exact ⟨rfl, rfl⟩
  · have hb : (k == 0) = false := by simpa using h
    have hd : Hid (decide (k = 0) = false) := decide_eq_false h
    clear hT h
    go_enter Tryd.func71, Tryd.ntmps71
    go_wp2_with (go_at_call 92; refine Calls.mono HK.out ?_; rintro e w' ⟨rfl, hw'⟩; rw [hw']; clear hw' w')
    go_ret
    exact ⟨by rw [hd.out]; rfl, rfl⟩
/-- is there one that is no word? -/
def badW (ss : List Int) : Bool := ss.any fun z => decide (kindOf z = 0)
set_option maxRecDepth 20000 in
set_option maxHeartbeats 1000000 in
theorem indexFunc_ok (ss : List Int) (va : Value) (w : World) (ha : Rd w va ss) (hT : Tab w) :
    Calls Tryd.prog 91 #[va, .func (.func 71) #[] #[]] w fun e w' => ∃ n : Int, e = .returned (.int .i64 n) ∧ (decide (0 ≤ n) = badW ss) ∧ w' = w := by
  obtain ⟨pa, ca, rfl, hpa⟩ := ha.at_
  have hl := ha.short
  have HA := mkHid hpa
  have HT := mkHid hT
  clear ha hpa hT
  go_enter Tryd.func91, Tryd.ntmps91
  go_wp2_with fail
  go_loopw [8] (fun q wr => ∃ k : Nat, k ≤ ss.length ∧ q = .int .i64 k ∧ wr = w ∧ Hid (∀ z ∈ ss.take k, kindOf z ≠ 0)) (fun q _ => ss.length - (intOf q).toNat)
  case atStart => exact ⟨0, Nat.zero_le _, rfl, rfl, mkHid (by simp)⟩
  case round =>
    obtain ⟨k, hkn, rfl, rfl, HZ⟩ := hrel
    by_cases hlt : k < ss.length
    · obtain ⟨ga, oa, rfl, -, hca⟩ := HA.out (by omega)
      have x1 := hca k hlt
      have k1 : (0 : Int) ≤ (k : Int) := by omega
      have k2 : (k : Int) < (ss.length : Int) := by omega
      have HK := mkHid (noWord_ok (ss.getD k 0) wr HT.out)
      have HT1 : Hid (ss.take (k + 1) = ss.take k ++ [ss.getD k 0]) := by
        show ss.take (k + 1) = ss.take k ++ [ss.getD k 0]
        rw [List.take_succ_eq_append_getElem hlt, List.getD_eq_getElem?_getD, List.getElem?_eq_getElem hlt]; rfl
      have HM : Hid (ss.getD k 0 ∈ ss) := by
        show ss.getD k 0 ∈ ss
        rw [List.getD_eq_getElem?_getD, List.getElem?_eq_getElem hlt]; exact List.getElem_mem _
      clear hca HA
      generalize ss.getD k 0 = z at *
      by_cases he : kindOf z = 0
      · rw [decide_eq_true he] at HK
        have HB : Hid (badW ss = true) := List.any_eq_true.2 ⟨z, HM.out, decide_eq_true he⟩
        clear HM HT1 HZ he
        go_wp2_with (go_at_call 71; refine Calls.mono HK.out ?_; rintro e w' ⟨rfl, hw'⟩; rw [hw']; clear hw' w')
        go_ret
        exact ⟨_, rfl, by rw [HB.out]; exact decide_eq_true (by omega), rfl⟩
      · rw [decide_eq_false he] at HK
        have HN : Hid (∀ y ∈ ss.take (k + 1), kindOf y ≠ 0) := by
          show ∀ y ∈ ss.take (k + 1), kindOf y ≠ 0
          intro y hy
          rw [HT1.out] at hy
          rcases List.mem_append.1 hy with h1 | h1
          · exact HZ.out y h1
          · have : y = z := by simpa using h1
            rw [this]; exact he
        clear HM HT1 HZ he
        go_wp2_with (go_at_call 71; refine Calls.mono HK.out ?_; rintro e w' ⟨rfl, hw'⟩; rw [hw']; clear hw' w')
        go_roundw
        case rel => exact ⟨k + 1, by omega, by go_num, trivial, HN⟩
        case measure => simp [intOf]; omega
    · have hke : k = ss.length := by omega
      subst hke
      have HB : Hid (badW ss = false) := List.any_eq_false.2 fun z hz => by
        have := HZ.out
        rw [List.take_length] at this
        simpa using this z hz
      clear HZ
      go_wp2_with fail
      go_ret
      exact ⟨_, rfl, by rw [HB.out]; exact decide_eq_false (by omega), rfl⟩
set_option maxRecDepth 20000 in
set_option maxHeartbeats 1000000 in
theorem contains_ok (ss : List Int) (va : Value) (w : World) (ha : Rd w va ss) (hT : Tab w) :
    Calls Tryd.prog 70 #[va, .func (.func 71) #[] #[]] w fun e w' => e = .returned (.bool (badW ss)) ∧ w' = w := by
  have HI := mkHid (indexFunc_ok ss va w ha hT)
  obtain ⟨pa, ca, rfl, -⟩ := ha.at_
  clear ha hT
  go_enter Tryd.func70, Tryd.ntmps70
  go_wp2_with fail
  refine Calls.mono HI.out ?_
  rintro e w1 ⟨n, rfl, hn, rfl⟩
  have HN := mkHid hn
  clear hn HI
  by_cases h0 : 0 ≤ n
  · have HB : Hid (badW ss = true) := by show badW ss = true; rw [← HN.out]; exact decide_eq_true h0
    go_wp2_with fail
    go_ret
    exact ⟨by rw [HB.out]; rfl, rfl⟩
  · have HB : Hid (badW ss = false) := by show badW ss = false; rw [← HN.out]; exact decide_eq_false h0
    have hd : decide (0 ≤ n) = false := decide_eq_false h0
    have h1 : n < 0 := by omega
    go_wp2_with fail
    go_ret
    exact ⟨by rw [HB.out]; rfl, rfl⟩
set_option maxRecDepth 20000 in
set_option maxHeartbeats 1000000 in
theorem keep_no {w : World} {s a : Nat} {l : Lay} {X : SpS} (h : Spc w s a l X) (ss : List Int) (va : Value) (hr : Rd w va ss) (hT : Tab w) (hT0 : 0 < w.heap.size) (hl : X.st.length ≤ 65536) (E : Int) (hE : (badW ss = true ∧ E = 10) ∨ (badW ss = false ∧ 65536 < X.st.length + ss.length ∧ E = 22)) :
    Calls Tryd.prog 41 #[.pointer (some ⟨s, 0, none⟩), va] w fun e w' => e = .returned (.int .i64 E) ∧ Fr [] w w' := by
  have HM := mkHid (smade_ok h)
  have HS := mkHid h
  have HT : Hid (∀ V, Fr [] w V → Tab V) := fun V hV => hT.fr hV hT0
  have HR := mkHid hr
  have hsh := hr.short
  obtain ⟨pa, ca, rfl, -⟩ := hr.at_
  clear h hT hT0 hr
  go_enter Tryd.func41, Tryd.ntmps41
  go_wp2_with fail
  refine Calls.mono HM.out ?_
  rintro e w1 ⟨rfl, hf⟩
  have hs1 := HS.out.idle hf
  obtain ⟨-, -, -, -, -, c5, -⟩ := hs1.cells
  obtain ⟨p, c, hv⟩ := row_is hs1.stk
  rw [hv] at c5
  have HC := mkHid (contains_ok ss _ w1 (HR.out.idle hf) (HT.out w1 hf))
  have HF := mkHid hf
  clear hs1 hf HM hv
  rcases hE with ⟨hb, rfl⟩ | ⟨hb, hg, rfl⟩
  · rw [hb] at HC
    clear hb
    go_wp2_with (go_at_call 70; refine Calls.mono HC.out ?_; rintro e w' ⟨rfl, hw'⟩; rw [hw']; clear hw' w')
    go_ret
    exact ⟨rfl, HF.out⟩
  · rw [hb] at HC
    have hg : (65536 : Int) < (X.st.length : Int) + (ss.length : Int) := by omega
    clear hb
    go_wp2_with (go_at_call 70; refine Calls.mono HC.out ?_; rintro e w' ⟨rfl, hw'⟩; rw [hw']; clear hw' w')
    go_ret
    exact ⟨rfl, HF.out⟩
/-- the stack has grown -/
theorem Spc.stack {w w1 w' : World} {s a : Nat} {l : Lay} {X : SpS} {v' : Value} {st' : List Int} {S : List Nat} (h : Spc w s a l X) (ho : w1.ownsRow 0 28 1 v' st'.length (st'.map (Value.int .i64))) (hf : Fr S w w1) (hS : ∀ b ∈ S, X.sv.ownBlock = some b) (hn : ∀ g, v'.ownBlock = some g → X.sv.ownBlock = some g ∨ w.heap.size ≤ g) (hw : w' = w1.setCell ⟨s, 5, none⟩ v') : Spc w' s a l { X with sv := v', st := st' } ∧ Fr (s :: S) w w' := by
  have hsn : s ∉ S := fun hm => (h.sepV s (hS s hm)).2 rfl
  have ht := (hf.block s (lt_of_heap h.top) hsn).trans h.top
  have f2 : Fr [s] w1 w' := by rw [hw]; exact Fr.setCell (S := [s]) w1 ⟨s, 5, none⟩ _ (by simp)
  have F : Fr (s :: S) w w' := (hf.mono (fun b hb => .inl (by simp [hb]))).trans f2 (fun b hb => .inl (by have e : b = s := by simpa using hb
                                                                                                          rw [e]; simp))
  have hd : ∀ g ∈ foot a l, g ∉ s :: S := fun g hg hm => by
    rcases List.mem_cons.1 hm with e | hm
    · rw [e] at hg; exact h.sepS hg
    · exact (h.sepV g (hS g hm)).1 hg
  have hv' : ∀ g, v'.ownBlock = some g → g ∉ foot a l ∧ g ≠ s := fun g hg => by
    rcases hn g hg with h1 | h1
    · exact h.sepV g h1
    · refine ⟨fun hm => ?_, fun e => ?_⟩
      · have := h.rep.lt g hm; omega
      · have := lt_of_heap h.top; omega
  refine ⟨⟨?_, h.rep.keep F hd, h.ka, ?_, h.sepS, hv'⟩, F⟩
  · rw [hw, set_in ht 5 _]; rfl
  · refine own_congr ho fun g hg => f2.block g (ho.lt g hg).2 ?_
    have := (hv' g hg).2
    simpa using this
set_option maxRecDepth 20000 in
set_option maxHeartbeats 1000000 in
theorem keep_ok {w : World} {s a : Nat} {l : Lay} {X : SpS} (h : Spc w s a l X) (ss : List Int) (va : Value) (hr : Rd w va ss) (hT : Tab w) (hT0 : 0 < w.heap.size) (hb : badW ss = false) (hc : X.st.length + ss.length ≤ 65536) :
    Calls Tryd.prog 41 #[.pointer (some ⟨s, 0, none⟩), va] w fun e w' => e = .returned (.int .i64 0) ∧ ∃ v', Spc w' s a l { X with sv := v', st := X.st ++ ss } ∧ Fr (s :: ob X.sv) w w' ∧ (∀ g, v'.ownBlock = some g → X.sv.ownBlock = some g ∨ w.heap.size ≤ g) := by
  have HM := mkHid (smade_ok h)
  have HS := mkHid h
  have HT : Hid (∀ V, Fr [] w V → Tab V) := fun V hV => hT.fr hV hT0
  have HR := mkHid hr
  obtain ⟨pa, ca, rfl, -⟩ := hr.at_
  clear h hT hT0 hr
  go_enter Tryd.func41, Tryd.ntmps41
  go_wp2_with fail
  refine Calls.mono HM.out ?_
  rintro e w1 ⟨rfl, hf⟩
  have hs1 := HS.out.idle hf
  obtain ⟨-, -, -, -, -, c5, -⟩ := hs1.cells
  have fz := frozen_in hs1.top 5
  obtain ⟨p, c, hv⟩ := row_is hs1.stk
  have HC := mkHid (contains_ok ss _ w1 (HR.out.idle hf) (HT.out w1 hf))
  rw [hb] at HC
  obtain ⟨v', w2, hrun, hown, hgrow, hblk⟩ := run_moreW2 X.st ss X.sv (.slice pa ss.length ca) w1 0 hs1.stk (HR.out.idle hf) (by omega) (by omega)
  have hne : ∀ g, X.sv.ownBlock = some g → g ≠ s := fun g hg => (hs1.sepV g hg).2
  have F12 : Fr (ob X.sv) w1 w2 := Fr.grown (S := ob X.sv) hgrow (fun k hk => by unfold ob; rw [hk]; simp)
  have hsb : s ∉ ob X.sv := fun hm => hne s (by simpa [ob] using hm) rfl
  have c5' : w2.cell? ⟨s, 5, none⟩ = some X.sv := (F12.cell (p := ⟨s, 5, none⟩) (lt_of_heap hs1.top) hsb).trans c5
  have fz' : w2.frozen? ⟨s, 5, none⟩ = false := (F12.frozen (p := ⟨s, 5, none⟩) (lt_of_heap hs1.top) hsb).trans fz
  have hn1 : ∀ g, v'.ownBlock = some g → X.sv.ownBlock = some g ∨ w1.heap.size ≤ g := fun g hg => by
    rcases hblk with e | e
    · exact .inl (by rw [← e]; exact hg)
    · rw [e] at hg; injection hg with e2; right; omega
  have HZ : Hid (Spc (w2.setCell ⟨s, 5, none⟩ v') s a l { X with sv := v', st := X.st ++ ss } ∧ Fr (s :: ob X.sv) w (w2.setCell ⟨s, 5, none⟩ v') ∧ (∀ g, v'.ownBlock = some g → X.sv.ownBlock = some g ∨ w.heap.size ≤ g)) := by
    obtain ⟨z1, z2⟩ := hs1.stack hown F12 (fun b hb => by simpa [ob] using hb) hn1 rfl
    refine ⟨z1, (hf.mono (by simp)).trans z2 (fun b hb => .inl hb), fun g hg => ?_⟩
    rcases hn1 g hg with h1 | h1
    · exact .inl h1
    · have := hf.size; right; omega
  obtain ⟨p', c', hv'⟩ := row_is hown
  have HRun := mkHid hrun
  rw [hv'] at HRun HZ
  rw [List.length_append] at HRun HZ
  rw [hv] at c5 c5' HRun
  clear hs1 hf HM hv F12 hgrow hown hblk hne hsb hn1 hrun hv' HR HT
  go_wp2_with (first | (go_at_call 70; refine Calls.mono HC.out ?_; rintro e w' ⟨rfl, hw'⟩; rw [hw']; clear hw' w') | (at_builtin; refine Lib.wpList_append_run _ rfl (.tmp 23) (.tmp 24) 29 29 rfl _ _ rfl rfl _ _ HRun.out ?_) | go_in)
  go_ret
  exact ⟨rfl, _, HZ.out⟩
set_option maxRecDepth 20000 in
set_option maxHeartbeats 1000000 in
theorem drop_ok {w : World} {s a : Nat} {l : Lay} {X : SpS} (h : Spc w s a l X) (n : Nat) (hn : n ≤ X.st.length) (hl : X.st.length ≤ 65536) : Calls Tryd.prog 39 #[.pointer (some ⟨s, 0, none⟩), .int .i64 (n : Int)] w fun e w' => e = .returned (.int .i64 0) ∧ ∃ v', Spc w' s a l { X with sv := v', st := X.st.take (X.st.length - n) } ∧ Fr [s] w w' ∧ (∀ g, v'.ownBlock = some g → X.sv.ownBlock = some g) := by
  have HM := mkHid (smade_ok h)
  have HS := mkHid h
  clear h
  go_enter Tryd.func39, Tryd.ntmps39
  go_wp2_with fail
  refine Calls.mono HM.out ?_
  rintro e w1 ⟨rfl, hf⟩
  have hs1 := HS.out.idle hf
  obtain ⟨-, -, -, -, -, c5, -⟩ := hs1.cells
  have fz := frozen_in hs1.top 5
  obtain ⟨p, c, hv⟩ := row_is hs1.stk
  have hcap : X.st.length ≤ c := by
    have := hs1.stk.2
    rw [hv] at this
    rcases this with ⟨h2, h3⟩ | ⟨g, cap, cur, h2, h3, h4, h5, h6⟩
    · injection h2 with e1 e2 e3; omega
    · injection h2 with e1 e2 e3; omega
  have hcm : (c : Int) ≤ 9223372036854775807 := by
    have := hs1.stk.2
    rw [hv] at this
    rcases this with ⟨h2, h3⟩ | ⟨g, cap, cur, h2, h3, h4, h5, h6, h7⟩
    · injection h2 with e1 e2 e3; omega
    · injection h2 with e1 e2 e3; unfold maxLen at h6; omega
  have hown : w1.ownsRow 0 28 1 (.slice p (X.st.length - n) c) (X.st.take (X.st.length - n)).length ((X.st.take (X.st.length - n)).map (Value.int .i64)) := by
    have := hs1.stk
    rw [hv] at this
    have h2 := own_prefix this (k := X.st.length - n) (by omega)
    rw [List.map_take, List.length_take, Nat.min_eq_left (by omega)]
    exact h2
  have HZ : Hid (∀ V, V.heap = (w1.setCell ⟨s, 5, none⟩ (.slice p (X.st.length - n) c)).heap → Fr [] (w1.setCell ⟨s, 5, none⟩ (.slice p (X.st.length - n) c)) V → Spc V s a l { X with sv := .slice p (X.st.length - n) c, st := X.st.take (X.st.length - n) } ∧ Fr [s] w V) := fun V hV hfV => by
    obtain ⟨z1, z2⟩ := hs1.stack (S := []) hown (Fr.refl _ _) (by simp) (fun g hg => .inl (by rw [hv]; cases p with | none => simp [Value.ownBlock] at hg | some q => exact hg)) rfl
    exact ⟨z1.idle hfV, ((hf.mono (by simp)).trans z2 (fun b hb => .inl hb)).trans hfV (by simp)⟩
  have HB : Hid (∀ g, (Value.slice p (X.st.length - n) c).ownBlock = some g → X.sv.ownBlock = some g) := fun g hg => by rw [hv]; cases p with | none => simp [Value.ownBlock] at hg | some q => exact hg
  rw [hv] at c5
  have n1 : ¬ (n : Int) < 0 := by omega
  have n2 : (n : Int) ≤ (X.st.length : Int) := by omega
  have n3 : ((X.st.length - n : Nat) : Int) = (X.st.length : Int) - (n : Int) := by omega
  have n4 : (X.st.length : Int) - (n : Int) ≤ (c : Int) := by omega
  have n5 : (0 : Int) ≤ (X.st.length : Int) - (n : Int) := by omega
  clear hs1 hf HM hv hown
  go_wp2_with fail
  go_region
  go_wp2_with fail
  go_ret
  obtain ⟨z1, z2⟩ := HZ.out (w1.setCell ⟨s, 5, none⟩ (.slice p (X.st.length - n) c)).drew rfl (Fr.drew [] _)
  exact ⟨rfl, _, z1, z2, HB.out⟩
end Go.Proofs.YtkmjimdaimbdfaaDoor
namespace Go.Proofs.YtkmjimdaimbdfaaDoor
open Go.RowKit Go.Maps
set_option linter.unusedVariables false
set_option linter.unusedSimpArgs false
attribute [local go_sem ↓] Go.wp_at_zero Go.wp_at_succ
/-- what a Put may have done to the keys -/
def PutK (ks ks' : List Key) : Prop := ks' = ks ∨ ∃ k ∈ ks, ∃ (i : Nat) (v : Int), i < k.2.2.2.length ∧ mayB v k.2.2.1 = true ∧ ks' = ks.map (updK (k.1, k.2.1, k.2.2.1, k.2.2.2.set i v))
section
variable {words oops mark : Nat} {ks : List Key} {H : HS} {M : MS} {a : Nat} {l : Lay} {w : World}
theorem put_b (hR : Rep w a l H) (h : KA words oops mark ks H M) {k : Key} (hk : k ∈ ks) (hf : k.2.2.1 = 1) (i : Nat) (hi : i < k.2.2.2.length) (v : Int) (hv : mayB v 1 = true) (hT : Tab w) :
    Calls Tryd.prog 40 #[.pointer (some ⟨a, 0, none⟩), .int .i64 k.1, .int .i64 (i : Int), .int .i64 v] w fun e w' => e = .returned (.int .i64 0) ∧ ∃ H' M', Rep w' a l H' ∧ KA words oops mark (ks.map (updK (k.1, k.2.1, k.2.2.1, k.2.2.2.set i v))) H' M' ∧ H'.age = H.age ∧ Nx a l l w w' := by
  obtain ⟨q, hq, hl, hb, hI, h1, h2, h3⟩ := h.th hk
  have hf0 : (M.things.getD q noTh).fmt = 1 := by omega
  have hr := hI.room
  have hlen := hI.len
  rw [← h3] at hi
  have hw := lenN_byte (M.things.getD q noTh).slots.length i hi
  rw [← hf0] at hw
  have h22 := lenN_two (M.things.getD q noTh).slots.length (M.things.getD q noTh).fmt
  obtain ⟨y1, y2, y3⟩ := has_yes hI.has
  obtain ⟨old, o1, o2, o3⟩ := hI.byte hf0 i hi
  have hv2 : 0 ≤ v ∧ v ≤ 255 := by
    unfold mayB at hv
    rw [if_pos rfl] at hv
    exact of_decide_eq_true hv
  obtain ⟨vn, rfl⟩ : ∃ vn : Nat, v = (vn : Int) := ⟨v.toNat, by omega⟩
  have := Put_ok (q + 1) i _ _ (vn : Int) a l H { H with mem := H.mem.set ((H.seats.getD (q + 1) (0, 0, 0)).1 + 2 + i / 4) ((putB old (i % 4) vn : Nat) : Int) } w hR h.memLe y1 y2 y3 (by omega) hI.shape (by omega) (by omega) (by omega) (by rw [hf0]; exact hv) hT (fun W hW => by
    rw [hf0]
    exact setB_any (H.seats.getD (q + 1) (0, 0, 0)) i vn old a l H W hW (by omega) h.memLe o1 (by omega) (by omega) o2)
  rw [show ((q + 1 : Nat) : Int) = (q : Int) + 1 from by omega, ← hq] at this
  refine this.mono ?_
  rintro e w' ⟨rfl, hr', hn⟩
  have hc := h.change hk hq hl (withSlot (M.things.getD q noTh) i (vn : Int)) (H.mem.set ((H.seats.getD (q + 1) (0, 0, 0)).1 + 2 + i / 4) ((putB old (i % 4) vn : Nat) : Int)) (by simp) hb (by show ((M.things.getD q noTh).slots.set i (vn : Int)).length = _; rw [List.length_set, h3]) h2 (h.inv.putB' q hl hb i vn old hi hf0 (by omega) o1 o2)
  have e1 : (k.1, (withSlot (M.things.getD q noTh) i (vn : Int)).cls, ((withSlot (M.things.getD q noTh) i (vn : Int)).fmt : Int), (withSlot (M.things.getD q noTh) i (vn : Int)).slots) = (k.1, k.2.1, k.2.2.1, k.2.2.2.set i (vn : Int)) := by
    show (k.1, (M.things.getD q noTh).cls, ((M.things.getD q noTh).fmt : Int), (M.things.getD q noTh).slots.set i (vn : Int)) = _
    rw [h1, h2, h3]
  rw [e1] at hc
  exact ⟨rfl, _, _, hr', hc, rfl, hn⟩
/-- Put of any arguments -/
theorem put_any (hR : Rep w a l H) (h : KA words oops mark ks H M) (q i v : Int) (hT : Tab w) :
    Calls Tryd.prog 40 #[.pointer (some ⟨a, 0, none⟩), .int .i64 q, .int .i64 i, .int .i64 v] w fun e w' => ∃ (E : Int) (ks' : List Key) (H' : HS) (M' : MS), e = .returned (.int .i64 E) ∧ PutK ks ks' ∧ Rep w' a l H' ∧ KA words oops mark ks' H' M' ∧ H'.age = H.age ∧ Nx a l l w w' := by
  cases hh : hasK ks q with
  | false =>
    have h2 : has H q = false := by rw [h.has]; exact hh
    exact (Put_no q i v a l H w hR h2).mono fun e w' ⟨h3, h4⟩ => ⟨20, ks, H, M, h3, .inl rfl, hR.keep h4 (by simp), h, rfl, Nx.same h4⟩
  | true =>
    obtain ⟨k, k1, k2⟩ := List.any_eq_true.1 hh
    have e : k.1 = q := by simpa using k2
    subst e
    obtain ⟨q, hq, hl, hb, hI, h1, h2, h3⟩ := h.th k1
    have hr := hI.room
    have hlen := hI.len
    have hfm := hI.fmt
    have h22 := lenN_two (M.things.getD q noTh).slots.length (M.things.getD q noTh).fmt
    by_cases hi : i < 0 ∨ ((M.things.getD q noTh).slots.length : Int) ≤ i
    · have := Put_slot (q + 1) (M.things.getD q noTh).slots.length (M.things.getD q noTh).fmt i v a l H w hR hI.has h.memLe (by omega) hI.shape (by omega) hi
      rw [show ((q + 1 : Nat) : Int) = (q : Int) + 1 from by omega, ← hq] at this
      exact this.mono fun e w' ⟨h4, h5⟩ => ⟨21, ks, H, M, h4, .inl rfl, hR.keep h5 (by simp), h, rfl, Nx.same h5⟩
    · obtain ⟨n, rfl⟩ : ∃ n : Nat, i = (n : Int) := ⟨i.toNat, by omega⟩
      cases hm : mayB v k.2.2.1 with
      | false =>
        have := Put_word (q + 1) n (M.things.getD q noTh).slots.length (M.things.getD q noTh).fmt v a l H w hR hI.has h.memLe (by omega) hI.shape (by omega) (by omega) (by rw [h2]; exact hm) hT
        rw [show ((q + 1 : Nat) : Int) = (q : Int) + 1 from by omega, ← hq] at this
        exact this.mono fun e w' ⟨h4, h5⟩ => ⟨10, ks, H, M, h4, .inl rfl, hR.keep h5 (by simp), h, rfl, Nx.same h5⟩
      | true =>
        have hn : n < k.2.2.2.length := by rw [← h3]; omega
        rcases (show k.2.2.1 = 0 ∨ k.2.2.1 = 1 from by omega) with hf | hf
        · refine (put_w hR h k1 hf n hn v (by rw [hf] at hm; exact hm) hT).mono ?_
          rintro e w' ⟨rfl, H', M', h4, h5, h6, h7⟩
          exact ⟨0, _, H', M', rfl, .inr ⟨k, k1, n, v, hn, hm, rfl⟩, h4, h5, h6, h7⟩
        · refine (put_b hR h k1 hf n hn v (by rw [hf] at hm; exact hm) hT).mono ?_
          rintro e w' ⟨rfl, H', M', h4, h5, h6, h7⟩
          exact ⟨0, _, H', M', rfl, .inr ⟨k, k1, n, v, hn, hm, rfl⟩, h4, h5, h6, h7⟩
end
theorem updK_fst (k x : Key) : (updK k x).1 = x.1 := by
  unfold updK
  by_cases e : x.1 = k.1
  · rw [if_pos e, e]
  · rw [if_neg e]
theorem PutK.has {ks ks' : List Key} (h : PutK ks ks') (q : Int) : hasK ks' q = hasK ks q := by
  rcases h with rfl | ⟨k, k1, i, v, hi, hm, rfl⟩
  · rfl
  · unfold hasK
    rw [List.any_map]
    congr 1
    funext x
    show ((updK _ x).1 == q) = (x.1 == q)
    rw [updK_fst]
/-- Put on a space's heap -/
theorem sput_ok {w : World} {s a : Nat} {l : Lay} {X : SpS} (h : Spc w s a l X) (q i v : Int) (hT : Tab w) :
    Calls Tryd.prog 40 #[.pointer (some ⟨a, 0, none⟩), .int .i64 q, .int .i64 i, .int .i64 v] w fun e w' => ∃ (E : Int) (ks' : List Key) (H' : HS) (M' : MS), e = .returned (.int .i64 E) ∧ PutK X.ks ks' ∧ Spc w' s a l { X with ks := ks', H := H', M := M' } ∧ H'.age = X.H.age ∧ Nx a l l w w' := by
  refine (put_any h.rep h.ka q i v hT).mono ?_
  rintro e w' ⟨E, ks', H', M', rfl, h1, h2, h3, h4, h5⟩
  exact ⟨E, ks', H', M', rfl, h1, h.heap h2 h3 h5, h4, h5⟩
set_option maxRecDepth 20000 in
set_option maxHeartbeats 1000000 in
theorem setRoot_ok {w : World} {s a : Nat} {l : Lay} {X : SpS} (h : Spc w s a l X) (i v : Int) (hT : Tab w) (hT0 : 0 < w.heap.size) :
    Calls Tryd.prog 35 #[.pointer (some ⟨s, 0, none⟩), .int .i64 i, .int .i64 v] w fun e w' => ∃ (E : Int) (ks' : List Key) (H' : HS) (M' : MS), e = .returned (.int .i64 E) ∧ PutK X.ks ks' ∧ Spc w' s a l { X with ks := ks', H := H', M := M' } ∧ H'.age = X.H.age ∧ Nx a l l w w' := by
  have HM := mkHid (smade_ok h)
  have HSp := mkHid h
  have HT : Hid (∀ V, Fr [] w V → Tab V) := fun V hV => hT.fr hV hT0
  clear h hT hT0
  go_enter Tryd.func35, Tryd.ntmps35
  go_wp2_with fail
  refine Calls.mono HM.out ?_
  rintro e w1 ⟨rfl, hf⟩
  have hs1 := HSp.out.idle hf
  have HF := mkHid hf
  have HS1 := mkHid hs1
  have HCl : Hid (∀ V, Hid (Fr [] w1 V) → V.cell? ⟨s, 1, none⟩ = some (.pointer (some ⟨a, 0, none⟩)) ∧ V.cell? ⟨s, 4, none⟩ = some (.int .i64 X.root)) := fun V hV => by
    obtain ⟨-, d1, -, -, d4, -⟩ := (hs1.idle hV.out).cells
    exact ⟨d1, d4⟩
  have HCs : Hid (∀ V (Y : SpS), Y.root = X.root → Hid (Spc V s a l Y) → V.cell? ⟨s, 1, none⟩ = some (.pointer (some ⟨a, 0, none⟩)) ∧ V.cell? ⟨s, 4, none⟩ = some (.int .i64 X.root)) := fun V Y hY hV => by
    obtain ⟨-, d1, -, -, d4, -⟩ := hV.out.cells
    rw [hY] at d4
    exact ⟨d1, d4⟩
  have HP : Hid (∀ V, Hid (Fr [] w1 V) → Calls Tryd.prog 40 #[.pointer (some ⟨a, 0, none⟩), .int .i64 X.root, .int .i64 i, .int .i64 v] V fun e w' => ∃ (E : Int) (ks' : List Key) (H' : HS) (M' : MS), e = .returned (.int .i64 E) ∧ Hid (PutK X.ks ks') ∧ Hid (Spc w' s a l { X with ks := ks', H := H', M := M' }) ∧ Hid (H'.age = X.H.age) ∧ Hid (Nx a l l w w')) := fun V hV => by
    refine (sput_ok (hs1.idle hV.out) X.root i v (HT.out V (HF.out.trans hV.out (by simp)))).mono ?_
    rintro e w' ⟨E, ks', H', M', rfl, h1, h2, h3, h4⟩
    exact ⟨E, ks', H', M', rfl, h1, h2, h3, ((HF.out.trans hV.out (by simp)).mono (by simp)).trans h4.1 (fun b hb => .inl hb), fun b hb => .inl hb⟩
  have hR : Hid (Fr [] w1 w1) := Fr.refl _ _
  clear hf HM hs1
  go_wp2_with fail
  go_region_held3 (fun V => V.cell? ⟨s, 1, none⟩ = some (.pointer (some ⟨a, 0, none⟩)) ∧ V.cell? ⟨s, 4, none⟩ = some (.int .i64 X.root))
    (first
      | exact HCl.out _ (hid_drew hR)
      | exact HCl.out _ hR
      | exact HCs.out _ { X with ks := ks', H := H', M := M' } rfl hg2)
    (first | (go_at_call 40; refine (HP.out _ (hid_drew hR)).mono ?_; rintro e w2 ⟨E, ks', H', M', rfl, hg1, hg2, hg3, hg4⟩))
  all_goals go_wp2_with fail
  all_goals
    go_ret
    exact ⟨E, ks', H', M', rfl, hg1.out, hg2.out, hg3.out, hg4.out⟩
end Go.Proofs.YtkmjimdaimbdfaaDoor
namespace Go.Proofs.YtkmjimdaimbdfaaDoor
open Go.RowKit
set_option linter.unusedVariables false
/-- a sum over oops -/
def sumQ (f : Nat → Int) : List Nat → Int
  | [] => 0
  | q :: t => f q + sumQ f t
theorem sumQ_snoc (f : Nat → Int) (l : List Nat) (q : Nat) : sumQ f (l ++ [q]) = sumQ f l + f q := by
  induction l with
  | nil => simp [sumQ]
  | cons x l ih => simp only [List.cons_append, sumQ, ih]; omega
theorem sumQ_perm (f : Nat → Int) {l m : List Nat} (h : l.Perm m) : sumQ f l = sumQ f m := by
  induction h with
  | nil => rfl
  | cons x _ ih => simp only [sumQ, ih]
  | swap x y l => simp only [sumQ]; omega
  | trans _ _ h1 h2 => exact h1.trans h2
/-- how long the object of an oop is -/
def lenQ (ks : List Key) (q : Nat) : Int := match ks.find? (fun k => decide (k.1 = (q : Int))) with | some k => lenOf (k.2.2.2.length : Int) k.2.2.1 | none => 0
section
variable {words oops mark : Nat} {ks : List Key} {H : HS} {M : MS}
theorem KA.lenQ (h : KA words oops mark ks H M) {k : Key} (hk : k ∈ ks) : lenQ ks k.1.toNat = lenOf (k.2.2.2.length : Int) k.2.2.1 := by
  have hp := (h.at_ k hk).1
  unfold Go.Proofs.YtkmjimdaimbdfaaDoor.lenQ
  cases hf : ks.find? (fun x => decide (x.1 = (k.1.toNat : Int))) with
  | none => exact absurd (by omega : k.1 = (k.1.toNat : Int)) (by simpa using List.find?_eq_none.1 hf k hk)
  | some x =>
    have hx := List.mem_of_find?_eq_some hf
    have he : x.1 = (k.1.toNat : Int) := by simpa using List.find?_some hf
    rw [h.uniq hk hx (by omega)]
theorem sumQ_keys (f : Nat → Int) : ∀ ks : List Key, (∀ k ∈ ks, f k.1.toNat = lenOf (k.2.2.2.length : Int) k.2.2.1) → sumQ f (ks.map fun k => k.1.toNat) = endK ks
  | [], _ => rfl
  | k :: t, h => by
    have h1 := sumQ_keys f t fun x hx => h x (by simp [hx])
    have h2 := h k (by simp)
    simp only [List.map_cons, sumQ, endK]
    rw [h1, h2]
theorem Sts.nodup {roots : List Int} {st : List Nat} (hs : Sts H M roots st) : st.Nodup := by
  obtain ⟨rs, hr, rfl⟩ := hs
  exact stays_nodup H rs
theorem KA.stsMem (h : KA words oops mark ks H M) {roots : List Int} {st : List Nat} (hs : Sts H M roots st) {q : Nat} (hq : q ∈ st) : ∃ k ∈ ks, k.1 = (q : Int) := by
  obtain ⟨rs, hr, rfl⟩ := hs
  obtain ⟨t1, t2⟩ := sr_there h.inv hr ((mem_stays h.inv hr.there q).1 hq)
  obtain ⟨k, k1, k2⟩ := h.only _ t2
  exact ⟨k, k1, by omega⟩
theorem KA.stsPerm (h : KA words oops mark ks H M) {roots : List Int} {st : List Nat} (hs : Sts H M roots st) : st.Perm ((keepK ks st).map fun k => k.1.toNat) := by
  refine (List.perm_ext_iff_of_nodup hs.nodup ?_).2 fun q => ?_
  · unfold keepK
    have h1 := h.nodup
    have h2 : (List.filter (fun k : Key => decide (k.1.toNat ∈ st)) ks).map (fun k => k.1.toNat) = (ks.map fun k => k.1.toNat).filter fun q => decide (q ∈ st) := by rw [List.filter_map]; rfl
    rw [h2]
    exact List.Pairwise.filter _ h1
  · rw [List.mem_map]
    constructor
    · intro hq
      obtain ⟨k, k1, k2⟩ := h.stsMem hs hq
      exact ⟨k, keepK_mem.2 ⟨k1, by rw [show k.1.toNat = q from by omega]; exact hq⟩, by omega⟩
    · rintro ⟨k, k1, rfl⟩
      exact (keepK_mem.1 k1).2
theorem KA.stsSum (h : KA words oops mark ks H M) {roots : List Int} {st : List Nat} (hs : Sts H M roots st) : st.length = (keepK ks st).length ∧ sumQ (Go.Proofs.YtkmjimdaimbdfaaDoor.lenQ ks) st = endK (keepK ks st) := by
  have hp := h.stsPerm hs
  refine ⟨by rw [hp.length_eq, List.length_map], ?_⟩
  rw [sumQ_perm _ hp]
  exact sumQ_keys _ _ fun k hk => h.lenQ (keepK_mem.1 hk).1
end
end Go.Proofs.YtkmjimdaimbdfaaDoor
namespace Go.Proofs.YtkmjimdaimbdfaaDoor
open Go.RowKit Go.Maps
set_option linter.unusedVariables false
set_option linter.unusedSimpArgs false
attribute [local go_sem ↓] Go.wp_at_zero Go.wp_at_succ
set_option maxHeartbeats 400000 in
theorem slen_ok (n f : Nat) (w : World) (hn : (n : Int) ≤ 1048576) :
    Calls Tryd.prog 62 #[.int .i64 (n : Int), .int .i64 (f : Int)] w fun e w' => e = .returned (.int .i64 ((lenN n f : Nat) : Int)) ∧ w' = w := by
  by_cases hf : f = 1
  · subst hf
    have hi : Hid (((lenN n 1 : Nat) : Int) = 2 + ((n : Int) + 3) / 4) := by show ((lenN n 1 : Nat) : Int) = _; unfold lenN; rw [if_pos rfl]; push_cast; rfl
    go_enter Tryd.func62, Tryd.ntmps62
    go_wp2
    go_ret
    exact ⟨ret_int (by have := hi.out; omega), rfl⟩
  · have hi : Hid (((lenN n f : Nat) : Int) = 2 + (n : Int)) := by show ((lenN n f : Nat) : Int) = _; unfold lenN; rw [if_neg hf]; push_cast; first | rfl | skip
    have hb : ((f : Int) == 1) = false := by simpa using (by omega : ¬ (f : Int) = 1)
    clear hf
    go_enter Tryd.func62, Tryd.ntmps62
    go_wp2
    go_ret
    exact ⟨ret_int (by have := hi.out; omega), rfl⟩
theorem lenQ_bound (ks : List Key) (hs : ∀ k ∈ ks, k.2.2.2.length ≤ 8192) (q : Nat) : 0 ≤ lenQ ks q ∧ lenQ ks q ≤ 8194 := by
  unfold lenQ
  cases hf : ks.find? (fun k => decide (k.1 = (q : Int))) with
  | none => simp
  | some k =>
    have := hs k (List.mem_of_find?_eq_some hf)
    dsimp only
    unfold lenOf; split <;> omega
theorem sumQ_bound (f : Nat → Int) (hf : ∀ q, 0 ≤ f q ∧ f q ≤ 8194) : ∀ l : List Nat, 0 ≤ sumQ f l ∧ sumQ f l ≤ 8194 * (l.length : Int)
  | [] => by simp [sumQ]
  | q :: t => by
    have h1 := sumQ_bound f hf t
    have h2 := hf q
    simp only [sumQ, List.length_cons]
    push_cast
    omega
set_option maxRecDepth 20000 in
set_option maxHeartbeats 2000000 in
theorem room_k {w : World} {s a : Nat} {l : Lay} {X : SpS} (h : Spc w s a l X) (hl : X.st.length ≤ 100000) (hr : X.root = 0 ∨ (1 ≤ X.root ∧ X.root ≤ 65536)) (hT : Tab w) (hT0 : 0 < w.heap.size) (hfm : ∀ k ∈ X.ks, k.2.2.1 = 0 ∨ k.2.2.1 = 1) :
    Calls Tryd.prog 28 #[.pointer (some ⟨s, 0, none⟩)] w fun e w' => ∃ st, Sts X.H X.M (rootsOf X) st ∧ e = .returned (.tuple #[.int .i64 ((X.words : Int) - endK (keepK X.ks st)), .int .i64 ((X.oops : Int) - ((keepK X.ks st).length : Int))]) ∧ Fr [] w w' := by
  have HM := mkHid (smade_ok h)
  have HS := mkHid h
  have HT : Hid (∀ V, Fr [] w V → Tab V) := fun V hV => hT.fr hV hT0
  have hwo := h.ka.small
  have HFm := mkHid hfm
  have HSl := mkHid h.ka.slots
  clear h hT hT0 hfm
  go_enter Tryd.func28, Tryd.ntmps28
  go_wp2_with fail
  refine Calls.mono HM.out ?_
  rintro e w1 ⟨rfl, hf⟩
  have hs1 := HS.out.idle hf
  have HF := mkHid hf
  have HS1 := mkHid hs1
  have HRo : Hid (∀ V, Hid (Fr [] w1 V) → Calls Tryd.prog 52 #[.pointer (some ⟨s, 0, none⟩)] V fun e w' => ∃ p c, e = .returned (.slice p (rootsOf X).length c) ∧ Hid (Rd w' (.slice p (rootsOf X).length c) (rootsOf X)) ∧ Hid (Fr [] w1 w')) := fun V hV => by
    refine (roots_ok (hs1.idle hV.out) hl hr).mono ?_
    rintro e w2 ⟨v2, rfl, ho2, hf2⟩
    obtain ⟨p2, c2, rfl⟩ := row_is ho2
    refine ⟨p2, c2, rfl, own_rd ho2 ?_, hV.out.trans hf2 (by simp)⟩
    unfold rootsOf
    rw [List.length_append]
    split
    · simp; omega
    · simp; omega
  have HRn : Hid (∀ V p c, Hid (Fr [] w1 V) → Hid (Rd V (.slice p (rootsOf X).length c) (rootsOf X)) → Calls Tryd.prog 60 #[.pointer (some ⟨a, 0, none⟩), .slice p (rootsOf X).length c] V fun e w' => ∃ st pl cl, e = .returned (.tuple #[.slice pl st.length cl, .int .i64 0]) ∧ Hid (Sts X.H X.M (rootsOf X) st) ∧ Hid (Rd w' (.slice pl st.length cl) (zs st)) ∧ Hid (Fr [] w1 w')) := fun V p c hV hrd => by
    have hsV := hs1.idle hV.out
    refine (Reach_ok a l X.H X.M p c (rootsOf X) V hsV.rep hsV.ka.inv (HT.out V (HF.out.trans hV.out (by simp))) hrd.out).mono ?_
    rintro e w3 ⟨v, rfl, rs, q1, q2, q3⟩
    obtain ⟨pl, cl, rfl⟩ := row_is q2
    have hst : Sts X.H X.M (rootsOf X) (stays X.H rs) := ⟨rs, q1, rfl⟩
    have hlen := (hsV.ka.stsSum hst).1
    have hkl : (keepK X.ks (stays X.H rs)).length ≤ X.ks.length := List.length_filter_le _ _
    have hkn := hsV.ka.klen
    refine ⟨stays X.H rs, pl, cl, rfl, hst, ?_, hV.out.trans q3 (by simp)⟩
    have e1 : (zs (stays X.H rs)).map (Value.int .i64) = (stays X.H rs).map I := by unfold zs; rw [List.map_map]; rfl
    have h' : w3.ownsRow V.heap.size 3 1 (.slice pl (stays X.H rs).length cl) (zs (stays X.H rs)).length ((zs (stays X.H rs)).map (Value.int .i64)) := by rw [e1, zs_len]; exact q2
    exact own_rd h' (by rw [zs_len]; omega)
  have HCl : Hid (∀ V, Hid (Fr [] w1 V) → V.cell? ⟨s, 1, none⟩ = some (.pointer (some ⟨a, 0, none⟩)) ∧ V.cell? ⟨s, 2, none⟩ = some (.int .i64 (X.words : Int)) ∧ V.cell? ⟨s, 3, none⟩ = some (.int .i64 (X.oops : Int))) := fun V hV => by
    obtain ⟨-, d1, d2, d3, -⟩ := (hs1.idle hV.out).cells
    exact ⟨d1, d2, d3⟩
  have hR : Hid (Fr [] w1 w1) := Fr.refl _ _
  clear hf HM hs1
  generalize (rootsOf X).length = rn at *
  go_wp2_with fail
  go_region_held3 (fun V => V.cell? ⟨s, 1, none⟩ = some (.pointer (some ⟨a, 0, none⟩)) ∧ V.cell? ⟨s, 2, none⟩ = some (.int .i64 (X.words : Int)) ∧ V.cell? ⟨s, 3, none⟩ = some (.int .i64 (X.oops : Int)))
    (first
      | exact HCl.out _ (hid_drew hR)
      | exact HCl.out _ hR
      | exact HCl.out _ hg3
      | exact HCl.out _ hg2)
    (first
      | (go_at_call 52; refine (HRo.out _ (hid_drew hR)).mono ?_; rintro e w2 ⟨p2, c2, rfl, hrd2, hg2⟩)
      | (go_at_call 60; refine (HRn.out _ _ _ hg2 hrd2).mono ?_; rintro e w3 ⟨st, pl, cl, rfl, hsts, hrd3, hg3⟩))
  all_goals
    obtain ⟨d1, d2, d3⟩ := HCl.out _ hg3
    have hsum := HS1.out.ka.stsSum hsts.out
    have hkn := HS1.out.ka.klen
    have hkl : (keepK X.ks st).length ≤ X.ks.length := List.length_filter_le _ _
    have HSum := mkHid hsum.2
    have HL := mkHid hsum.1
    have hstl : st.length ≤ 65538 := by have := hsum.1; omega
    have HMem : Hid (∀ q ∈ st, ∃ k ∈ X.ks, k.1 = (q : Int)) := fun q hq => HS1.out.ka.stsMem hsts.out hq
    clear hsum hrd2 hg2 hkn hkl
    go_wp2_with fail
    go_loopw [6, 31] (fun n q wr => ∃ k : Nat, k ≤ st.length ∧ q = .int .i64 k ∧ n = .int .i64 ((X.words : Int) - sumQ (lenQ X.ks) (st.take k)) ∧ Hid (Fr [] w3 wr)) (fun _ q _ => st.length - (intOf q).toNat)
    case atStart => exact ⟨0, Nat.zero_le _, rfl, by simp [sumQ], Fr.refl _ _⟩
    case round =>
      obtain ⟨k, hk, rfl, rfl, hW⟩ := hrel
      have hgw : Hid (Fr [] w1 wr) := hg3.out.trans hW.out (by simp)
      obtain ⟨d1, d2, d3⟩ := HCl.out _ hgw
      have hbd := sumQ_bound _ (lenQ_bound X.ks HSl.out) (st.take k)
      have htk : (st.take k).length ≤ st.length := by simp; omega
      by_cases hlt : k < st.length
      · obtain ⟨pl', cl', e3, hpl⟩ := (hrd3.out.idle hW.out).at_
        rw [zs_len] at e3 hpl
        cases e3
        obtain ⟨gl, ol, rfl, -, hcl⟩ := hpl (by omega)
        have x0 := hcl k hlt
        rw [zs_getD st k hlt] at x0
        obtain ⟨ky, ky1, ky2⟩ := HMem.out _ (getD_in st k hlt)
        have HSz := mkHid (size_at (HS1.out.idle hgw.out).rep HS1.out.ka ky1)
        have hlq := HS1.out.ka.lenQ ky1
        rw [ky2] at HSz
        rw [show ky.1.toNat = st.getD k 0 from by omega] at hlq
        have HSm : Hid (sumQ (lenQ X.ks) (st.take (k + 1)) = sumQ (lenQ X.ks) (st.take k) + lenOf (ky.2.2.2.length : Int) ky.2.2.1) := by
          show sumQ (lenQ X.ks) (st.take (k + 1)) = _
          rw [take_snoc st k hlt, sumQ_snoc, hlq]
        have hsl := HSl.out ky ky1
        obtain ⟨f, hf, hf1⟩ : ∃ f : Nat, ky.2.2.1 = (f : Int) ∧ f ≤ 1 := by
          rcases HFm.out ky ky1 with h | h
          · exact ⟨0, by omega, by omega⟩
          · exact ⟨1, by omega, by omega⟩
        rw [hf] at HSz HSm
        have HLe := mkHid (fun W => slen_ok ky.2.2.2.length f W (by omega))
        have hln3 : lenOf (ky.2.2.2.length : Int) (f : Int) = (lenN ky.2.2.2.length f : Nat) := lenOf_nat _ _
        have hln2 : lenN ky.2.2.2.length f ≤ 8194 := by unfold lenN; split <;> omega
        rw [hln3] at HSm
        clear hln3 hf ky2 hlq hcl hpl ky1
        generalize ky.2.2.2.length = yn at *
        generalize lenN yn f = ln at *
        generalize st.getD k 0 = q at *
        generalize sumQ (lenQ X.ks) (st.take k) = sm at *
        have k1 : (0 : Int) ≤ (k : Int) := by omega
        have k2 : (k : Int) < (st.length : Int) := by omega
        go_wp2_with fail
        refine Calls.mono HSz.out ?_
        rintro e w5 ⟨rfl, hf5⟩
        have HW5 : Hid (Fr [] w3 w5) := hW.out.trans hf5 (by simp)
        clear hf5 HSz
        go_wp2_with (go_at_call 62; refine Calls.mono (HLe.out _) ?_; rintro e w' ⟨rfl, hw'⟩; rw [hw']; clear hw' w')
        go_roundw
        case rel => exact ⟨k + 1, by omega, by go_num, by rw [HSm.out]; congr 1; omega, HW5⟩
        case measure => simp [intOf]; omega
      · have hke : k = st.length := by omega
        subst hke
        rw [List.take_length] at hbd
        rw [List.take_length]
        have HZ : Hid (∀ m, Fr [] w (wr.drewN m)) := fun m => (HF.out.trans hgw.out (by simp)).trans (Fr.drewN [] _ _) (by simp)
        rw [HSum.out] at hbd
        rw [HSum.out]
        have HX := mkHid hsts.out
        obtain ⟨ek, hek⟩ : ∃ ek, endK (keepK X.ks st) = ek := ⟨_, rfl⟩
        have HEk := mkHid hek
        rw [hek] at hbd ⊢
        clear hek
        have k5 : (st.length : Int) ≤ (st.length : Int) := by omega
        clear hlt hW htk hrd3 HMem
        go_wp2_with fail
        go_quiet (fail)
        go_wp2_with fail
        go_ret2
        exact ⟨st, HX.out, by rw [← HL.out, HEk.out]; rfl, HZ.out _⟩
end Go.Proofs.YtkmjimdaimbdfaaDoor
