import Derived.Test.YtkmjimdaimbdfaaDoorSG28VAliv
import Derived.Deep.RegionHeld3
import Derived.BigQuiet
import Derived.BigRegion
namespace Go.Proofs.YtkmjimdaimbdfaaDoor
open Go.RowKit Go.Maps
set_option linter.unusedVariables false
set_option linter.unusedSimpArgs false
attribute [local go_sem ↓] Go.wp_at_zero Go.wp_at_succ
set_option maxRecDepth 20000 in
set_option maxHeartbeats 8000000 in
theorem step_crown {w0 w : World} {s a t : Nat} {l : Lay} {kv : Value} {X : SpS} {n : Nat} (P : Pl w0 w s a t l kv X n) (hn : n ≤ 999) (On A B C : Int) (po : Option Addr) (co : Nat) (ss : List Int) (hls : Rd w0 (.slice po ss.length co) ss) (hA : -9223372036854775808 ≤ A ∧ A ≤ 9223372036854775807) (hB : -9223372036854775808 ≤ B ∧ B ≤ 9223372036854775807) :
    Calls Tryd.prog 7 #[.pointer (some ⟨t, 0, none⟩), .pointer (some ⟨s, 0, none⟩), .agg #[.int .i64 3, .int .i64 On, .int .i64 A, .int .i64 B, .int .i64 C, .slice po ss.length co]] w fun e w' => e = .returned (.bool true) ∧ Ps w0 s a t (n + 1) w' := by
  have HP := mkHid P
  have HFt := mkHid P.pw.spc.rep.lt
  have HLs := mkHid hls
  have hoo := P.oops
  have hww := P.words
  have htw := lt_of_heap P.pw.told
  have hsw := lt_of_heap P.pw.spc.top
  have HSv : Hid (∀ g, X.sv.ownBlock = some g → g < w.heap.size) := fun g hg => (P.pw.spc.stk.lt g hg).2
  obtain ⟨pk, ck, hkv, -⟩ := P.pw.kept.at_
  have HKv := mkHid hkv
  clear P hls hkv
  go_enter Tryd.func7, Tryd.ntmps7
  go_wp2_with fail
  obtain ⟨V, hV⟩ : ∃ V, (w.alloc (.cells #[.int .i64 3, .int .i64 On, .int .i64 A, .int .i64 B, .int .i64 C, .slice po ss.length co] 31)) = V := ⟨_, rfl⟩
  rw [hV]
  have hfV : Fr [] w V := by rw [← hV]; exact (Fr.alloc [] _ _)
  have hbV : V.heap[w.heap.size]? = some (.cells #[.int .i64 3, .int .i64 On, .int .i64 A, .int .i64 B, .int .i64 C, .slice po ss.length co] 31 (0, 0)) := by
    rw [← hV]; exact heap_alloc_new _ _
  obtain ⟨bo, hbo⟩ : ∃ bo, w.heap.size = bo := ⟨_, rfl⟩
  rw [hbo] at hbV htw hsw HFt HSv ⊢
  have HBV := mkHid hbV
  have HPV := mkHid (HP.out.idle hfV)
  have hVs : bo < V.heap.size := lt_of_heap hbV
  clear hV hfV hbV HP hbo
  refine Calls.mono (sHeap_same HPV.out.pw.spc) ?_
  rintro e w1 ⟨rfl, rfl⟩
  go_wp2_with fail
  refine Calls.mono (sstateP_ok HPV.out.pw.spc) ?_
  rintro e w2 ⟨pa, ca, rfl, hsatP, hf2⟩
  have hsat := hsatP [] w2 (Fr.refl _ _) (by simp)
  have HSP := mkHid hsatP
  obtain ⟨U, hU⟩ : ∃ U, (w2.alloc (.cells #[.int .i64 (X.words : Int), .int .i64 (X.oops : Int), .int .i64 (X.mark : Int), .slice pa X.ks.length ca] 44)) = U := ⟨_, rfl⟩
  have fU : Fr [] w2 U := by rw [← hU]; exact (Fr.alloc [] _ _)
  have hb2 : U.heap[w2.heap.size]? = some (.cells #[.int .i64 (X.words : Int), .int .i64 (X.oops : Int), .int .i64 (X.mark : Int), .slice pa X.ks.length ca] 44 (0, 0)) := by
    rw [← hU]; exact heap_alloc_new _ _
  have HPU := mkHid (HPV.out.idle (hf2.trans fU (by simp)))
  have H1U := mkHid (hf2.trans fU (by simp))
  have HSA := mkHid (hsat.idle fU)
  have H2U := mkHid fU
  have hks := hsat.short
  have hsz2 := hf2.size
  obtain ⟨b, hb⟩ : ∃ b, w2.heap.size = b := ⟨_, rfl⟩
  have hbge : w1.heap.size ≤ b := by omega
  rw [hb] at hb2
  have HB2 := mkHid hb2
  have HUe := mkHid hU
  have HBe := mkHid hb
  have HCl2 : Hid (∀ W, Hid (Fr [] U W) → ((W.cell? ⟨b, 0, none⟩ = some (.int .i64 (X.words : Int)) ∧ W.cell? ⟨b, 1, none⟩ = some (.int .i64 (X.oops : Int)) ∧ W.cell? ⟨b, 2, none⟩ = some (.int .i64 (X.mark : Int)) ∧ W.cell? ⟨b, 3, none⟩ = some (.slice pa X.ks.length ca)) ∧ W.cell? ⟨t, 2, none⟩ = some (.int .i64 X.root) ∧ W.cell? ⟨t, 4, none⟩ = some (.slice pk X.st.length ck))) := fun W hW => by
    have e3 := (hW.out.block _ (lt_of_heap HB2.out) (by simp)).trans HB2.out
    obtain ⟨t0, t1, t2, t3, t4, t5⟩ := (HPU.out.idle hW.out).pw.cells
    rw [HKv.out] at t4
    exact ⟨⟨by rw [cell_in e3]; rfl, by rw [cell_in e3]; rfl, by rw [cell_in e3]; rfl, by rw [cell_in e3]; rfl⟩, t2, t4⟩
  have HLi : Hid (∀ W, Hid (Fr [] U W) → Calls Tryd.prog 27 #[.agg #[.int .i64 (X.words : Int), .int .i64 (X.oops : Int), .int .i64 (X.mark : Int), .slice pa X.ks.length ca], .int .i64 X.root, .slice pk X.st.length ck] W fun e w' => ∃ pm cm m, e = .returned (.slice pm m.length cm) ∧ Hid (LvE X.ks (rts X.root X.st) m) ∧ Hid (Pls w' U.heap.size (.slice pm m.length cm) m) ∧ Hid (Fr [] U w')) := fun W hW => by
    have hk := (HPU.out.idle hW.out).pw.kept
    rw [HKv.out] at hk
    refine (live_k X.ks X.root X.words X.oops X.mark (.slice pa X.ks.length ca) (.slice pk X.st.length ck) X.st W (HSA.out.idle hW.out) hk HPV.out.rootAt).mono ?_
    rintro e w' ⟨v, m, rfl, q1, q2, q3⟩
    obtain ⟨pm, cm, rfl⟩ := row_is q2
    exact ⟨pm, cm, m, rfl, q1, own_base q2 hW.out.size, hW.out.trans q3 (by simp)⟩
  have hR : Hid (Fr [] U U) := Fr.refl _ _
  clear hsat hsatP hf2 fU hb2 hU hb
  go_wp2_with fail
  rw [HUe.out, HBe.out]
  clear HUe HBe
  go_region_held3 (fun W => ((W.cell? ⟨b, 0, none⟩ = some (.int .i64 (X.words : Int)) ∧ W.cell? ⟨b, 1, none⟩ = some (.int .i64 (X.oops : Int)) ∧ W.cell? ⟨b, 2, none⟩ = some (.int .i64 (X.mark : Int)) ∧ W.cell? ⟨b, 3, none⟩ = some (.slice pa X.ks.length ca)) ∧ W.cell? ⟨t, 2, none⟩ = some (.int .i64 X.root) ∧ W.cell? ⟨t, 4, none⟩ = some (.slice pk X.st.length ck)))
    (first
      | exact HCl2.out _ (hid_drew hR)
      | exact HCl2.out _ hR
      | exact HCl2.out _ hg3)
    (first | (go_at_call 27; refine (HLi.out _ (hid_drew hR)).mono ?_; rintro e w3 ⟨pm, cm, m, rfl, hlv, hpm, hg3⟩))
  have HP3 := mkHid (HPU.out.idle hg3.out)
  have hml : m.length ≤ 65538 := addP_len hlv.out hks
  have HBo : Hid (∀ S W, Fr S w3 W → (∀ g ∈ S, g < bo) → W.heap[bo]? = some (.cells #[.int .i64 3, .int .i64 On, .int .i64 A, .int .i64 B, .int .i64 C, .slice po ss.length co] 31 (0, 0))) := fun S W hW hS => by
    have h1 := ((H1U.out.trans hg3.out (by simp)).block bo hVs (by simp)).trans HBV.out
    exact (hW.block bo (lt_of_heap h1) (fun hm => by have := hS bo hm; omega)).trans h1
  have HBb : Hid (∀ S W, Fr S w3 W → (∀ g ∈ S, g < bo) → W.heap[b]? = some (.cells #[.int .i64 (X.words : Int), .int .i64 (X.oops : Int), .int .i64 (X.mark : Int), .slice pa X.ks.length ca] 44 (0, 0))) := fun S W hW hS => by
    have h1 := (hg3.out.block b (lt_of_heap HB2.out) (by simp)).trans HB2.out
    exact (hW.block b (lt_of_heap h1) (fun hm => by have := hS b hm; omega)).trans h1
  have HSt : Hid (∀ S W, Fr S w3 W → (∀ g ∈ S, g < bo) → Sat W (.slice pa X.ks.length ca) X.ks) := fun S W hW hS => HSP.out S W (((H2U.out.trans hg3.out (by simp)).mono (by simp)).trans hW (fun g hg => .inl hg)) (fun g hg => by have := hS g hg; omega)
  have HMt : Hid (∀ S W, Fr S w3 W → (∀ g ∈ S, g < bo) → Rd W (.slice pm m.length cm) (zs m)) := fun S W hW hS => (hpm.out.keep hW (fun g hg hm => by
    have h3 := (World.ownsRow.lt hpm.out g hg).1
    have h4 := hS g hm
    have h5 := H1U.out.size
    omega)).rd hml
  obtain ⟨o0, o1, o2, o3, o4, o5⟩ : w3.cell? ⟨bo, 0, none⟩ = some (.int .i64 3) ∧ w3.cell? ⟨bo, 1, none⟩ = some (.int .i64 On) ∧ w3.cell? ⟨bo, 2, none⟩ = some (.int .i64 A) ∧ w3.cell? ⟨bo, 3, none⟩ = some (.int .i64 B) ∧ w3.cell? ⟨bo, 4, none⟩ = some (.int .i64 C) ∧ w3.cell? ⟨bo, 5, none⟩ = some (.slice po ss.length co) := by
    have h1 := HBo.out [] w3 (Fr.refl _ _) (by simp)
    refine ⟨?_, ?_, ?_, ?_, ?_, ?_⟩ <;> (rw [cell_in h1]; rfl)
  have hR3 : Hid (Fr [] w3 w3) := Fr.refl _ _
  clear HLi HCl2 HPU HPV HSA HB2 H1U H2U HSP HBV hR
  have HCr := mkHid (crown_ok HP3.out.pw.spc A)
  have HCb : Hid (∀ S W, Fr S w3 W → (∀ g ∈ S, g < bo) → (W.cell? ⟨b, 0, none⟩ = some (.int .i64 (X.words : Int)) ∧ W.cell? ⟨b, 1, none⟩ = some (.int .i64 (X.oops : Int)) ∧ W.cell? ⟨b, 2, none⟩ = some (.int .i64 (X.mark : Int)) ∧ W.cell? ⟨b, 3, none⟩ = some (.slice pa X.ks.length ca)) ∧ W.cell? ⟨bo, 2, none⟩ = some (.int .i64 A)) := fun S W hW hS => by
    have h1 := HBb.out S W hW hS
    have h2 := HBo.out S W hW hS
    refine ⟨⟨?_, ?_, ?_, ?_⟩, ?_⟩
    · rw [cell_in h1]; rfl
    · rw [cell_in h1]; rfl
    · rw [cell_in h1]; rfl
    · rw [cell_in h1]; rfl
    · rw [cell_in h2]; rfl
  have HSs : Hid (∀ g ∈ [s], g < bo) := fun g hg => by rw [mem_single hg]; exact hsw
  have HTs : Hid (∀ g ∈ [t, s], g < bo) := fun g hg => by
    rcases (by simpa using hg : g = t ∨ g = s) with e | e
    · rw [e]; exact htw
    · rw [e]; exact hsw
  clear HMt HLs
  go_wp2_with fail
  refine Calls.mono HCr.out ?_
  rintro e w4 (⟨h1, rfl, hf4⟩ | ⟨h1, rfl, hsp4, hf4⟩)
  · obtain ⟨⟨v0, v1, v2, v3⟩, x2⟩ := HCb.out [] w4 hf4 (by simp)
    have HAt := mkHid (at_k X.ks A X.words X.oops X.mark (.slice pa X.ks.length ca) w4 (HSt.out [] w4 hf4 (by simp)))
    have hat : atK X.ks A = none := by
      cases h : atK X.ks A with
      | none => rfl
      | some i =>
        obtain ⟨a1, a2, -⟩ := atK_some h
        have : hasK X.ks A = true := List.any_eq_true.2 ⟨_, keyD_mem a1, by rw [beq_iff_eq]; exact a2⟩
        rw [h1] at this; cases this
    rw [hat] at HAt
    have HP4 := mkHid (HP3.out.idle hf4)
    clear h1 hf4 hat HCr HBo HBb HSt HCb HP3
    go_wp2_with fail
    refine Calls.mono HAt.out ?_
    rintro e w5 ⟨rfl, hf5⟩
    have hP5 := HP4.out.idle hf5
    have HZ : Hid (Ps w0 s a t (n + 1) w5) := ⟨l, kv, X, ⟨hP5.pw, hP5.root, hP5.good, by have := hP5.age; omega, hP5.oops, hP5.words⟩⟩
    clear hP5 hf5 HAt HP4
    simp only [plN]
    go_wp2_with (go_at_call 11; refine Calls.mono (num_any _ _ (by omega) (by omega)) ?_; rintro e w' ⟨rfl, hw'⟩; rw [hw']; clear hw' w')
    go_ret
    exact ⟨rfl, HZ.out⟩
  · obtain ⟨⟨v0, v1, v2, v3⟩, x2⟩ := HCb.out [s] w4 hf4 HSs.out
    have HAt := mkHid (at_k X.ks A X.words X.oops X.mark (.slice pa X.ks.length ca) w4 (HSt.out [s] w4 hf4 HSs.out))
    obtain ⟨i, hat⟩ : ∃ i, atK X.ks A = some i := by
      obtain ⟨k, k1, k2⟩ := List.any_eq_true.1 h1
      have ek : k.1 = A := by simpa using k2
      cases h : atK X.ks A with
      | none => exact absurd ek (atK_none h k k1)
      | some i => exact ⟨i, rfl⟩
    rw [hat] at HAt
    have HP4 : Hid (Pw w0 w4 s a t l kv { X with root := A } X.root X.mark X.st) := HP3.out.pw.move hsp4 rfl rfl HP3.out.pw.br hf4 (fun g hg => .inl (by simpa using hg)) (fun g hg => .inl hg) (fun g hg => .inl hg)
    have H34 := mkHid hf4
    have H1 := mkHid h1
    clear h1 hf4 hsp4 hat HCr
    go_wp2_with fail
    refine Calls.mono HAt.out ?_
    rintro e w5 ⟨rfl, hf5⟩
    have hP5 := HP4.out.idle hf5
    have F35 : Fr [s] w3 w5 := H34.out.trans hf5 (by simp)
    obtain ⟨⟨v0, v1, v2, v3⟩, x2⟩ := HCb.out [s] w5 F35 HSs.out
    obtain ⟨-, -, t2, -, -, -⟩ := hP5.cells
    have fz := frozen_in hP5.told 2
    have hP6 := hP5.setRoot A
    have F36 : Fr [t, s] w3 (w5.setCell ⟨t, 2, none⟩ (.int .i64 A)) := (F35.mono (fun g hg => .inl (by rw [mem_single hg]; simp))).trans (Fr.setCell (S := [t, s]) w5 ⟨t, 2, none⟩ _ (by simp)) (fun g hg => .inl hg)
    have HP6 := mkHid hP6
    obtain ⟨W6, hW6⟩ : ∃ W6, w5.setCell ⟨t, 2, none⟩ (.int .i64 A) = W6 := ⟨_, rfl⟩
    rw [hW6] at HP6 F36
    have HW6 := mkHid hW6
    have HCd : Hid (∀ W, Hid (Fr [] W6 W) → W.cell? ⟨bo, 2, none⟩ = some (.int .i64 A)) := fun W hW => (HCb.out [t, s] W (F36.trans hW.out (by simp)) HTs.out).2
    have HNm : Hid (∀ W, Calls Tryd.prog 11 #[.int .i64 0] W fun e w' => e = .returned (.int .i64 0) ∧ w' = W) := fun W => num_any 0 W (by omega) (by omega)
    have HCw : Hid (∀ W, Hid (Fr [] W6 W) → Calls Tryd.prog 25 #[.pointer (some ⟨s, 0, none⟩)] W fun e w' => e = .returned (.int .i64 A) ∧ Hid (Fr [] W6 w')) := fun W hW => by
      have := crowned_ok (HP6.out.idle hW.out).spc
      have e1 : hasK ({ X with root := A } : SpS).ks ({ X with root := A } : SpS).root = true := H1.out
      rw [if_pos e1] at this
      exact this.mono fun e w' ⟨h2, h3⟩ => ⟨h2, hW.out.trans h3 (by simp)⟩
    have HZ : Hid (∀ W, Hid (Fr [] W6 W) → Ps w0 s a t (n + 1) W) := fun W hW => ⟨l, kv, { X with root := A }, ⟨HP6.out.idle hW.out, .inr H1.out, HP3.out.good, by have := HP3.out.age; show X.H.age ≤ n + 1; omega, HP3.out.oops, HP3.out.words⟩⟩
    have hR6 : Hid (Fr [] W6 W6) := Fr.refl _ _
    have hi0 : (0 : Int) ≤ (i : Int) := by omega
    clear hP5 hf5 HAt HP4 hP6 F35 F36 hW6 HBo HBb HSt HCb HP3 H34
    simp only [plN]
    go_wp2_with fail
    rw [HW6.out]
    clear HW6
    go_region_held3 (fun W => W.cell? ⟨bo, 2, none⟩ = some (.int .i64 A))
      (first
        | exact HCd.out _ (hid_drew hR6)
        | exact HCd.out _ hR6
        | exact HCd.out _ hg7)
      (first
        | (go_at_call 11; refine (HNm.out _).mono ?_; rintro e w' ⟨rfl, hw'⟩; rw [hw']; clear hw' w')
        | (go_at_call 25; refine (HCw.out _ (hid_drew hR6)).mono ?_; rintro e w7 ⟨rfl, hg7⟩))
    all_goals go_wp2_with fail
    all_goals
      go_ret
      exact ⟨rfl, HZ.out _ hg7⟩
end Go.Proofs.YtkmjimdaimbdfaaDoor
namespace Go.Proofs.YtkmjimdaimbdfaaDoor
open Go.RowKit Go.Maps
set_option linter.unusedVariables false
set_option linter.unusedSimpArgs false
attribute [local go_sem ↓] Go.wp_at_zero Go.wp_at_succ
set_option maxRecDepth 20000 in
set_option maxHeartbeats 8000000 in
theorem step_drop {w0 w : World} {s a t : Nat} {l : Lay} {kv : Value} {X : SpS} {n : Nat} (P : Pl w0 w s a t l kv X n) (hn : n ≤ 999) (On A B C : Int) (po : Option Addr) (co : Nat) (ss : List Int) (hls : Rd w0 (.slice po ss.length co) ss) (hA : -9223372036854775808 ≤ A ∧ A ≤ 9223372036854775807) (hB : -9223372036854775808 ≤ B ∧ B ≤ 9223372036854775807) :
    Calls Tryd.prog 7 #[.pointer (some ⟨t, 0, none⟩), .pointer (some ⟨s, 0, none⟩), .agg #[.int .i64 7, .int .i64 On, .int .i64 A, .int .i64 B, .int .i64 C, .slice po ss.length co]] w fun e w' => e = .returned (.bool true) ∧ Ps w0 s a t (n + 1) w' := by
  have HP := mkHid P
  have HFt := mkHid P.pw.spc.rep.lt
  have HLs := mkHid hls
  have hoo := P.oops
  have hww := P.words
  have htw := lt_of_heap P.pw.told
  have hsw := lt_of_heap P.pw.spc.top
  have HSv : Hid (∀ g, X.sv.ownBlock = some g → g < w.heap.size) := fun g hg => (P.pw.spc.stk.lt g hg).2
  obtain ⟨pk, ck, hkv, -⟩ := P.pw.kept.at_
  have HKv := mkHid hkv
  clear P hls hkv
  go_enter Tryd.func7, Tryd.ntmps7
  go_wp2_with fail
  obtain ⟨V, hV⟩ : ∃ V, (w.alloc (.cells #[.int .i64 7, .int .i64 On, .int .i64 A, .int .i64 B, .int .i64 C, .slice po ss.length co] 31)) = V := ⟨_, rfl⟩
  rw [hV]
  have hfV : Fr [] w V := by rw [← hV]; exact (Fr.alloc [] _ _)
  have hbV : V.heap[w.heap.size]? = some (.cells #[.int .i64 7, .int .i64 On, .int .i64 A, .int .i64 B, .int .i64 C, .slice po ss.length co] 31 (0, 0)) := by
    rw [← hV]; exact heap_alloc_new _ _
  obtain ⟨bo, hbo⟩ : ∃ bo, w.heap.size = bo := ⟨_, rfl⟩
  rw [hbo] at hbV htw hsw HFt HSv ⊢
  have HBV := mkHid hbV
  have HPV := mkHid (HP.out.idle hfV)
  have hVs : bo < V.heap.size := lt_of_heap hbV
  clear hV hfV hbV HP hbo
  refine Calls.mono (sHeap_same HPV.out.pw.spc) ?_
  rintro e w1 ⟨rfl, rfl⟩
  go_wp2_with fail
  refine Calls.mono (sstateP_ok HPV.out.pw.spc) ?_
  rintro e w2 ⟨pa, ca, rfl, hsatP, hf2⟩
  have hsat := hsatP [] w2 (Fr.refl _ _) (by simp)
  have HSP := mkHid hsatP
  obtain ⟨U, hU⟩ : ∃ U, (w2.alloc (.cells #[.int .i64 (X.words : Int), .int .i64 (X.oops : Int), .int .i64 (X.mark : Int), .slice pa X.ks.length ca] 44)) = U := ⟨_, rfl⟩
  have fU : Fr [] w2 U := by rw [← hU]; exact (Fr.alloc [] _ _)
  have hb2 : U.heap[w2.heap.size]? = some (.cells #[.int .i64 (X.words : Int), .int .i64 (X.oops : Int), .int .i64 (X.mark : Int), .slice pa X.ks.length ca] 44 (0, 0)) := by
    rw [← hU]; exact heap_alloc_new _ _
  have HPU := mkHid (HPV.out.idle (hf2.trans fU (by simp)))
  have H1U := mkHid (hf2.trans fU (by simp))
  have HSA := mkHid (hsat.idle fU)
  have H2U := mkHid fU
  have hks := hsat.short
  have hsz2 := hf2.size
  obtain ⟨b, hb⟩ : ∃ b, w2.heap.size = b := ⟨_, rfl⟩
  have hbge : w1.heap.size ≤ b := by omega
  rw [hb] at hb2
  have HB2 := mkHid hb2
  have HUe := mkHid hU
  have HBe := mkHid hb
  have HCl2 : Hid (∀ W, Hid (Fr [] U W) → ((W.cell? ⟨b, 0, none⟩ = some (.int .i64 (X.words : Int)) ∧ W.cell? ⟨b, 1, none⟩ = some (.int .i64 (X.oops : Int)) ∧ W.cell? ⟨b, 2, none⟩ = some (.int .i64 (X.mark : Int)) ∧ W.cell? ⟨b, 3, none⟩ = some (.slice pa X.ks.length ca)) ∧ W.cell? ⟨t, 2, none⟩ = some (.int .i64 X.root) ∧ W.cell? ⟨t, 4, none⟩ = some (.slice pk X.st.length ck))) := fun W hW => by
    have e3 := (hW.out.block _ (lt_of_heap HB2.out) (by simp)).trans HB2.out
    obtain ⟨t0, t1, t2, t3, t4, t5⟩ := (HPU.out.idle hW.out).pw.cells
    rw [HKv.out] at t4
    exact ⟨⟨by rw [cell_in e3]; rfl, by rw [cell_in e3]; rfl, by rw [cell_in e3]; rfl, by rw [cell_in e3]; rfl⟩, t2, t4⟩
  have HLi : Hid (∀ W, Hid (Fr [] U W) → Calls Tryd.prog 27 #[.agg #[.int .i64 (X.words : Int), .int .i64 (X.oops : Int), .int .i64 (X.mark : Int), .slice pa X.ks.length ca], .int .i64 X.root, .slice pk X.st.length ck] W fun e w' => ∃ pm cm m, e = .returned (.slice pm m.length cm) ∧ Hid (LvE X.ks (rts X.root X.st) m) ∧ Hid (Pls w' U.heap.size (.slice pm m.length cm) m) ∧ Hid (Fr [] U w')) := fun W hW => by
    have hk := (HPU.out.idle hW.out).pw.kept
    rw [HKv.out] at hk
    refine (live_k X.ks X.root X.words X.oops X.mark (.slice pa X.ks.length ca) (.slice pk X.st.length ck) X.st W (HSA.out.idle hW.out) hk HPV.out.rootAt).mono ?_
    rintro e w' ⟨v, m, rfl, q1, q2, q3⟩
    obtain ⟨pm, cm, rfl⟩ := row_is q2
    exact ⟨pm, cm, m, rfl, q1, own_base q2 hW.out.size, hW.out.trans q3 (by simp)⟩
  have hR : Hid (Fr [] U U) := Fr.refl _ _
  clear hsat hsatP hf2 fU hb2 hU hb
  go_wp2_with fail
  rw [HUe.out, HBe.out]
  clear HUe HBe
  go_region_held3 (fun W => ((W.cell? ⟨b, 0, none⟩ = some (.int .i64 (X.words : Int)) ∧ W.cell? ⟨b, 1, none⟩ = some (.int .i64 (X.oops : Int)) ∧ W.cell? ⟨b, 2, none⟩ = some (.int .i64 (X.mark : Int)) ∧ W.cell? ⟨b, 3, none⟩ = some (.slice pa X.ks.length ca)) ∧ W.cell? ⟨t, 2, none⟩ = some (.int .i64 X.root) ∧ W.cell? ⟨t, 4, none⟩ = some (.slice pk X.st.length ck)))
    (first
      | exact HCl2.out _ (hid_drew hR)
      | exact HCl2.out _ hR
      | exact HCl2.out _ hg3)
    (first | (go_at_call 27; refine (HLi.out _ (hid_drew hR)).mono ?_; rintro e w3 ⟨pm, cm, m, rfl, hlv, hpm, hg3⟩))
  have HP3 := mkHid (HPU.out.idle hg3.out)
  have hml : m.length ≤ 65538 := addP_len hlv.out hks
  have HBo : Hid (∀ S W, Fr S w3 W → (∀ g ∈ S, g < bo) → W.heap[bo]? = some (.cells #[.int .i64 7, .int .i64 On, .int .i64 A, .int .i64 B, .int .i64 C, .slice po ss.length co] 31 (0, 0))) := fun S W hW hS => by
    have h1 := ((H1U.out.trans hg3.out (by simp)).block bo hVs (by simp)).trans HBV.out
    exact (hW.block bo (lt_of_heap h1) (fun hm => by have := hS bo hm; omega)).trans h1
  have HBb : Hid (∀ S W, Fr S w3 W → (∀ g ∈ S, g < bo) → W.heap[b]? = some (.cells #[.int .i64 (X.words : Int), .int .i64 (X.oops : Int), .int .i64 (X.mark : Int), .slice pa X.ks.length ca] 44 (0, 0))) := fun S W hW hS => by
    have h1 := (hg3.out.block b (lt_of_heap HB2.out) (by simp)).trans HB2.out
    exact (hW.block b (lt_of_heap h1) (fun hm => by have := hS b hm; omega)).trans h1
  have HSt : Hid (∀ S W, Fr S w3 W → (∀ g ∈ S, g < bo) → Sat W (.slice pa X.ks.length ca) X.ks) := fun S W hW hS => HSP.out S W (((H2U.out.trans hg3.out (by simp)).mono (by simp)).trans hW (fun g hg => .inl hg)) (fun g hg => by have := hS g hg; omega)
  have HMt : Hid (∀ S W, Fr S w3 W → (∀ g ∈ S, g < bo) → Rd W (.slice pm m.length cm) (zs m)) := fun S W hW hS => (hpm.out.keep hW (fun g hg hm => by
    have h3 := (World.ownsRow.lt hpm.out g hg).1
    have h4 := hS g hm
    have h5 := H1U.out.size
    omega)).rd hml
  obtain ⟨o0, o1, o2, o3, o4, o5⟩ : w3.cell? ⟨bo, 0, none⟩ = some (.int .i64 7) ∧ w3.cell? ⟨bo, 1, none⟩ = some (.int .i64 On) ∧ w3.cell? ⟨bo, 2, none⟩ = some (.int .i64 A) ∧ w3.cell? ⟨bo, 3, none⟩ = some (.int .i64 B) ∧ w3.cell? ⟨bo, 4, none⟩ = some (.int .i64 C) ∧ w3.cell? ⟨bo, 5, none⟩ = some (.slice po ss.length co) := by
    have h1 := HBo.out [] w3 (Fr.refl _ _) (by simp)
    refine ⟨?_, ?_, ?_, ?_, ?_, ?_⟩ <;> (rw [cell_in h1]; rfl)
  have hR3 : Hid (Fr [] w3 w3) := Fr.refl _ _
  clear HLi HCl2 HPU HPV HSA HB2 H1U H2U HSP HBV hR
  by_cases hc : A < 0 ∨ (X.st.length : Int) < A
  · have HD := mkHid (drop_no HP3.out.pw.spc A hc)
    have hstl := HP3.out.pw.stl
    clear HMt HLs HSt HBb
    go_wp2_with fail
    refine Calls.mono HD.out ?_
    rintro e w4 ⟨rfl, hf4⟩
    have hP4 := HP3.out.idle hf4
    have h1 := HBo.out [] w4 hf4 (by simp)
    have x2 : w4.cell? ⟨bo, 2, none⟩ = some (.int .i64 A) := by rw [cell_in h1]; rfl
    obtain ⟨-, -, -, -, t4, -⟩ := hP4.pw.cells
    rw [HKv.out] at t4
    have HZ : Hid (∀ x, Ps w0 s a t (n + 1) (w4.drewN x)) := fun x => ⟨l, kv, X, ⟨hP4.pw.idle (Fr.drewN [] _ _), hP4.root, hP4.good, by have := hP4.age; omega, hP4.oops, hP4.words⟩⟩
    clear hP4 hf4 h1 HD HBo HP3
    rcases hc with hc | hc
    · go_wp2_with fail
      go_quiet (fail)
      go_wp2_with (go_at_call 11; refine Calls.mono (num_any _ _ (by omega) (by omega)) ?_; rintro e w' ⟨rfl, hw'⟩; rw [hw']; clear hw' w')
      go_ret
      exact ⟨rfl, HZ.out _⟩
    · have hd0 : decide (A < 0) = false := decide_eq_false (by omega)
      have hd1 : ¬ A < 0 := by omega
      go_wp2_with fail
      go_quiet (fail)
      go_wp2_with (go_at_call 11; refine Calls.mono (num_any _ _ (by omega) (by omega)) ?_; rintro e w' ⟨rfl, hw'⟩; rw [hw']; clear hw' w')
      go_ret
      exact ⟨rfl, HZ.out _⟩
  · obtain ⟨d, rfl⟩ : ∃ d : Nat, A = (d : Int) := ⟨A.toNat, by omega⟩
    have hd : d ≤ X.st.length := by omega
    have hstl := HP3.out.pw.stl
    have HD := mkHid (drop_ok HP3.out.pw.spc d hd hstl)
    have HSs : Hid (∀ g ∈ [s], g < bo) := fun g hg => by rw [mem_single hg]; exact hsw
    clear HMt HLs HSt HBb hc
    go_wp2_with fail
    refine Calls.mono HD.out ?_
    rintro e w4 ⟨rfl, v4, hsp4, hf4, hn4⟩
    have hP4 : Pw w0 w4 s a t l kv { X with sv := v4, st := X.st.take (X.st.length - d) } X.root X.mark X.st := HP3.out.pw.move hsp4 rfl rfl HP3.out.pw.br hf4 (fun g hg => .inl (by simpa using hg)) (fun g hg => .inl hg) (fun g hg => .inl (hn4 g hg))
    have h1 := HBo.out [s] w4 hf4 HSs.out
    have x2 : w4.cell? ⟨bo, 2, none⟩ = some (.int .i64 (d : Int)) := by rw [cell_in h1]; rfl
    obtain ⟨-, -, -, -, t4, -⟩ := hP4.cells
    rw [HKv.out] at t4
    have HP4 := mkHid hP4
    have hd0 : decide ((d : Int) < 0) = false := decide_eq_false (by omega)
    have hd1 : (d : Int) ≤ (X.st.length : Int) := by omega
    have hd2 : decide (X.st.length < d) = false := decide_eq_false (by omega)
    have HBd : Hid (∀ W, Fr [] w4 W → W.cell? ⟨bo, 2, none⟩ = some (.int .i64 (d : Int)) ∧ W.cell? ⟨t, 4, none⟩ = some (.slice pk X.st.length ck) ∧ W.frozen? ⟨t, 4, none⟩ = false) := fun W hW => by
      obtain ⟨-, -, -, -, t4, -⟩ := (HP4.out.idle hW).cells
      rw [HKv.out] at t4
      exact ⟨(hW.cell (p := ⟨bo, 2, none⟩) (lt_of_heap h1) (by simp)).trans x2, t4, frozen_in (HP4.out.idle hW).told 4⟩
    clear hP4 hf4 HD HBo hsp4 hn4
    go_wp2_with fail
    go_quiet (fail)
    obtain ⟨W, hW⟩ : ∃ W, w4.drewN nq = W := ⟨_, rfl⟩
    rw [hW]
    have F4W : Fr [] w4 W := by rw [← hW]; exact Fr.drewN [] _ _
    obtain ⟨x2, t4, fz⟩ := HBd.out W F4W
    have hPW := HP4.out.idle F4W
    have hkr := hPW.kept
    have hKv := HKv.out
    have hcap : X.st.length ≤ ck ∧ (ck : Int) ≤ 9223372036854775807 := hPW.capK pk _ ck HKv.out
    obtain ⟨hcap1, hcap2⟩ := hcap
    have n3 : ((X.st.length - d : Nat) : Int) = (X.st.length : Int) - (d : Int) := by omega
    have n4 : (X.st.length : Int) - (d : Int) ≤ (ck : Int) := by omega
    have n5 : (0 : Int) ≤ (X.st.length : Int) - (d : Int) := by omega
    have HZ : Hid (∀ V, Fr [] (W.setCell ⟨t, 4, none⟩ (.slice pk (X.st.length - d) ck)) V → Ps w0 s a t (n + 1) V) := fun V hV => by
      have hz : Pw w0 (W.setCell ⟨t, 4, none⟩ (.slice pk (X.st.length - d) ck)) s a t l (.slice pk (X.st.length - d) ck) { X with sv := v4, st := X.st.take (X.st.length - d) } X.root X.mark (X.st.take (X.st.length - d)) := by
        refine hPW.write (Fr.refl _ _) (Fr.setCell (S := [t]) W ⟨t, 4, none⟩ _ (by simp)) (by rw [set_in hPW.told 4 _]; rfl) ?_ (fun hp g hg => ?_) (by simp; omega) (fun p k c e => by injection e with e1 e2 e3; omega)
        · have h5 := hPW.kept
          rw [HKv.out] at h5
          exact h5.takeK _ (by omega)
        · left
          refine ⟨by simp at hp; omega, ?_⟩
          rw [HKv.out]
          cases pk with
          | none => simp [Value.ownBlock] at hg
          | some q => exact hg
      exact ⟨l, _, _, ⟨hz.idle hV, HP3.out.root, HP3.out.good, by have := HP3.out.age; show X.H.age ≤ n + 1; omega, HP3.out.oops, HP3.out.words⟩⟩
    clear hW F4W hPW hkr hKv HBd HP4 HKv h1
    go_wp2_with fail
    go_region
    go_wp2_with (go_at_call 11; refine Calls.mono (num_any _ _ (by omega) (by omega)) ?_; rintro e w' ⟨rfl, hw'⟩; rw [hw']; clear hw' w')
    go_ret
    exact ⟨rfl, HZ.out _ (Fr.drew [] _)⟩
end Go.Proofs.YtkmjimdaimbdfaaDoor
namespace Go.Proofs.YtkmjimdaimbdfaaDoor
open Go.RowKit Go.Maps
set_option linter.unusedVariables false
set_option linter.unusedSimpArgs false
attribute [local go_sem ↓] Go.wp_at_zero Go.wp_at_succ
set_option maxRecDepth 20000 in
set_option maxHeartbeats 8000000 in
theorem step_link {w0 w : World} {s a t : Nat} {l : Lay} {kv : Value} {X : SpS} {n : Nat} (P : Pl w0 w s a t l kv X n) (hn : n ≤ 999) (On A B C : Int) (po : Option Addr) (co : Nat) (ss : List Int) (hls : Rd w0 (.slice po ss.length co) ss) (hA : -9223372036854775808 ≤ A ∧ A ≤ 9223372036854775807) (hB : -9223372036854775808 ≤ B ∧ B ≤ 9223372036854775807) :
    Calls Tryd.prog 7 #[.pointer (some ⟨t, 0, none⟩), .pointer (some ⟨s, 0, none⟩), .agg #[.int .i64 2, .int .i64 On, .int .i64 A, .int .i64 B, .int .i64 C, .slice po ss.length co]] w fun e w' => e = .returned (.bool true) ∧ Ps w0 s a t (n + 1) w' := by
  have HP := mkHid P
  have HFt := mkHid P.pw.spc.rep.lt
  have HLs := mkHid hls
  have hoo := P.oops
  have hww := P.words
  have htw := lt_of_heap P.pw.told
  have hsw := lt_of_heap P.pw.spc.top
  have HSv : Hid (∀ g, X.sv.ownBlock = some g → g < w.heap.size) := fun g hg => (P.pw.spc.stk.lt g hg).2
  obtain ⟨pk, ck, hkv, -⟩ := P.pw.kept.at_
  have HKv := mkHid hkv
  clear P hls hkv
  go_enter Tryd.func7, Tryd.ntmps7
  go_wp2_with fail
  obtain ⟨V, hV⟩ : ∃ V, (w.alloc (.cells #[.int .i64 2, .int .i64 On, .int .i64 A, .int .i64 B, .int .i64 C, .slice po ss.length co] 31)) = V := ⟨_, rfl⟩
  rw [hV]
  have hfV : Fr [] w V := by rw [← hV]; exact (Fr.alloc [] _ _)
  have hbV : V.heap[w.heap.size]? = some (.cells #[.int .i64 2, .int .i64 On, .int .i64 A, .int .i64 B, .int .i64 C, .slice po ss.length co] 31 (0, 0)) := by
    rw [← hV]; exact heap_alloc_new _ _
  obtain ⟨bo, hbo⟩ : ∃ bo, w.heap.size = bo := ⟨_, rfl⟩
  rw [hbo] at hbV htw hsw HFt HSv ⊢
  have HBV := mkHid hbV
  have HPV := mkHid (HP.out.idle hfV)
  have hVs : bo < V.heap.size := lt_of_heap hbV
  clear hV hfV hbV HP hbo
  refine Calls.mono (sHeap_same HPV.out.pw.spc) ?_
  rintro e w1 ⟨rfl, rfl⟩
  go_wp2_with fail
  refine Calls.mono (sstateP_ok HPV.out.pw.spc) ?_
  rintro e w2 ⟨pa, ca, rfl, hsatP, hf2⟩
  have hsat := hsatP [] w2 (Fr.refl _ _) (by simp)
  have HSP := mkHid hsatP
  obtain ⟨U, hU⟩ : ∃ U, (w2.alloc (.cells #[.int .i64 (X.words : Int), .int .i64 (X.oops : Int), .int .i64 (X.mark : Int), .slice pa X.ks.length ca] 44)) = U := ⟨_, rfl⟩
  have fU : Fr [] w2 U := by rw [← hU]; exact (Fr.alloc [] _ _)
  have hb2 : U.heap[w2.heap.size]? = some (.cells #[.int .i64 (X.words : Int), .int .i64 (X.oops : Int), .int .i64 (X.mark : Int), .slice pa X.ks.length ca] 44 (0, 0)) := by
    rw [← hU]; exact heap_alloc_new _ _
  have HPU := mkHid (HPV.out.idle (hf2.trans fU (by simp)))
  have H1U := mkHid (hf2.trans fU (by simp))
  have HSA := mkHid (hsat.idle fU)
  have H2U := mkHid fU
  have hks := hsat.short
  have hsz2 := hf2.size
  obtain ⟨b, hb⟩ : ∃ b, w2.heap.size = b := ⟨_, rfl⟩
  have hbge : w1.heap.size ≤ b := by omega
  rw [hb] at hb2
  have HB2 := mkHid hb2
  have HUe := mkHid hU
  have HBe := mkHid hb
  have HCl2 : Hid (∀ W, Hid (Fr [] U W) → ((W.cell? ⟨b, 0, none⟩ = some (.int .i64 (X.words : Int)) ∧ W.cell? ⟨b, 1, none⟩ = some (.int .i64 (X.oops : Int)) ∧ W.cell? ⟨b, 2, none⟩ = some (.int .i64 (X.mark : Int)) ∧ W.cell? ⟨b, 3, none⟩ = some (.slice pa X.ks.length ca)) ∧ W.cell? ⟨t, 2, none⟩ = some (.int .i64 X.root) ∧ W.cell? ⟨t, 4, none⟩ = some (.slice pk X.st.length ck))) := fun W hW => by
    have e3 := (hW.out.block _ (lt_of_heap HB2.out) (by simp)).trans HB2.out
    obtain ⟨t0, t1, t2, t3, t4, t5⟩ := (HPU.out.idle hW.out).pw.cells
    rw [HKv.out] at t4
    exact ⟨⟨by rw [cell_in e3]; rfl, by rw [cell_in e3]; rfl, by rw [cell_in e3]; rfl, by rw [cell_in e3]; rfl⟩, t2, t4⟩
  have HLi : Hid (∀ W, Hid (Fr [] U W) → Calls Tryd.prog 27 #[.agg #[.int .i64 (X.words : Int), .int .i64 (X.oops : Int), .int .i64 (X.mark : Int), .slice pa X.ks.length ca], .int .i64 X.root, .slice pk X.st.length ck] W fun e w' => ∃ pm cm m, e = .returned (.slice pm m.length cm) ∧ Hid (LvE X.ks (rts X.root X.st) m) ∧ Hid (Pls w' U.heap.size (.slice pm m.length cm) m) ∧ Hid (Fr [] U w')) := fun W hW => by
    have hk := (HPU.out.idle hW.out).pw.kept
    rw [HKv.out] at hk
    refine (live_k X.ks X.root X.words X.oops X.mark (.slice pa X.ks.length ca) (.slice pk X.st.length ck) X.st W (HSA.out.idle hW.out) hk HPV.out.rootAt).mono ?_
    rintro e w' ⟨v, m, rfl, q1, q2, q3⟩
    obtain ⟨pm, cm, rfl⟩ := row_is q2
    exact ⟨pm, cm, m, rfl, q1, own_base q2 hW.out.size, hW.out.trans q3 (by simp)⟩
  have hR : Hid (Fr [] U U) := Fr.refl _ _
  clear hsat hsatP hf2 fU hb2 hU hb
  go_wp2_with fail
  rw [HUe.out, HBe.out]
  clear HUe HBe
  go_region_held3 (fun W => ((W.cell? ⟨b, 0, none⟩ = some (.int .i64 (X.words : Int)) ∧ W.cell? ⟨b, 1, none⟩ = some (.int .i64 (X.oops : Int)) ∧ W.cell? ⟨b, 2, none⟩ = some (.int .i64 (X.mark : Int)) ∧ W.cell? ⟨b, 3, none⟩ = some (.slice pa X.ks.length ca)) ∧ W.cell? ⟨t, 2, none⟩ = some (.int .i64 X.root) ∧ W.cell? ⟨t, 4, none⟩ = some (.slice pk X.st.length ck)))
    (first
      | exact HCl2.out _ (hid_drew hR)
      | exact HCl2.out _ hR
      | exact HCl2.out _ hg3)
    (first | (go_at_call 27; refine (HLi.out _ (hid_drew hR)).mono ?_; rintro e w3 ⟨pm, cm, m, rfl, hlv, hpm, hg3⟩))
  have HP3 := mkHid (HPU.out.idle hg3.out)
  have hml : m.length ≤ 65538 := addP_len hlv.out hks
  have HBo : Hid (∀ S W, Fr S w3 W → (∀ g ∈ S, g < bo) → W.heap[bo]? = some (.cells #[.int .i64 2, .int .i64 On, .int .i64 A, .int .i64 B, .int .i64 C, .slice po ss.length co] 31 (0, 0))) := fun S W hW hS => by
    have h1 := ((H1U.out.trans hg3.out (by simp)).block bo hVs (by simp)).trans HBV.out
    exact (hW.block bo (lt_of_heap h1) (fun hm => by have := hS bo hm; omega)).trans h1
  have HBb : Hid (∀ S W, Fr S w3 W → (∀ g ∈ S, g < bo) → W.heap[b]? = some (.cells #[.int .i64 (X.words : Int), .int .i64 (X.oops : Int), .int .i64 (X.mark : Int), .slice pa X.ks.length ca] 44 (0, 0))) := fun S W hW hS => by
    have h1 := (hg3.out.block b (lt_of_heap HB2.out) (by simp)).trans HB2.out
    exact (hW.block b (lt_of_heap h1) (fun hm => by have := hS b hm; omega)).trans h1
  have HSt : Hid (∀ S W, Fr S w3 W → (∀ g ∈ S, g < bo) → Sat W (.slice pa X.ks.length ca) X.ks) := fun S W hW hS => HSP.out S W (((H2U.out.trans hg3.out (by simp)).mono (by simp)).trans hW (fun g hg => .inl hg)) (fun g hg => by have := hS g hg; omega)
  have HMt : Hid (∀ S W, Fr S w3 W → (∀ g ∈ S, g < bo) → Rd W (.slice pm m.length cm) (zs m)) := fun S W hW hS => (hpm.out.keep hW (fun g hg hm => by
    have h3 := (World.ownsRow.lt hpm.out g hg).1
    have h4 := hS g hm
    have h5 := H1U.out.size
    omega)).rd hml
  obtain ⟨o0, o1, o2, o3, o4, o5⟩ : w3.cell? ⟨bo, 0, none⟩ = some (.int .i64 2) ∧ w3.cell? ⟨bo, 1, none⟩ = some (.int .i64 On) ∧ w3.cell? ⟨bo, 2, none⟩ = some (.int .i64 A) ∧ w3.cell? ⟨bo, 3, none⟩ = some (.int .i64 B) ∧ w3.cell? ⟨bo, 4, none⟩ = some (.int .i64 C) ∧ w3.cell? ⟨bo, 5, none⟩ = some (.slice po ss.length co) := by
    have h1 := HBo.out [] w3 (Fr.refl _ _) (by simp)
    refine ⟨?_, ?_, ?_, ?_, ?_, ?_⟩ <;> (rw [cell_in h1]; rfl)
  have hR3 : Hid (Fr [] w3 w3) := Fr.refl _ _
  clear HLi HCl2 HPU HPV HSA HB2 H1U H2U HSP HBV hR
  obtain ⟨nn, hn1, hn2⟩ : ∃ nn : Nat, (smN A : Int) % 64 = (nn : Int) ∧ nn ≤ 63 := ⟨smN A % 64, by omega, by omega⟩
  have hn3 : (smN A : Int).tmod 64 = (nn : Int) := by rw [Int.tmod_eq_emod_of_nonneg (by omega)]; exact hn1
  have hsA := smN_le A
  have HAl := mkHid (salloc_pl HP3.out hn 8 (by decide) nn 0 (by omega) (by omega) m hlv.out)
  clear HMt HLs HSt HBb
  go_wp2_with (first | (go_at_call 10; refine Calls.mono (small_ok A _) ?_; rintro e w' ⟨rfl, hw'⟩; rw [hw']; clear hw' w') | fail)
  refine Calls.mono HAl.out ?_
  rintro e w5 ⟨⟨l5, X5, hp5, hr5, hcase⟩, hfr5⟩
  have HMk : Hid (∀ (Y : SpS) (l' : Lay) (V : World) (mk : Nat), Pw w0 V s a t l' kv Y X.root mk X.st → Calls Tryd.prog 12 #[.pointer (some ⟨s, 0, none⟩)] V (fun e w' => e = .returned (.pointer (some ⟨a, 0, none⟩)) ∧ w' = V) ∧ Calls Tryd.prog 20 #[.pointer (some ⟨a, 0, none⟩)] V (fun e w' => e = .returned (.int .i64 (Y.mark : Int)) ∧ w' = V)) := fun Y l' V mk h => ⟨sHeap_same h.spc, by
    have := Marked_any a l' Y.H V h.spc.rep
    rw [h.spc.ka.mark] at this
    exact this⟩
  have h12 : (∃ E : Int, (E == 0) = false ∧ -100 ≤ E ∧ E ≤ 100 ∧ e = .returned (.tuple #[.int .i64 0, .int .i64 E])) ∨ (∃ q : Nat, e = .returned (.tuple #[.int .i64 (4 * (q : Int)), .int .i64 0]) ∧ X5.mark = X.mark - 1) := by
    rcases hcase with ⟨h1, h2, h3⟩ | ⟨h1, h2, h3, h4⟩ | ⟨h1, h2, h3, q, h4, -⟩
    · exact .inl ⟨23, by decide, by omega, by omega, h2⟩
    · exact .inl ⟨24, by decide, by omega, by omega, h3⟩
    · exact .inr ⟨q, h4, h3⟩
  rcases h12 with ⟨E, hE, hE1, hE2, rfl⟩ | ⟨q, rfl, hmk5⟩
  · obtain ⟨c12, c20⟩ := HMk.out X5 l5 w5 X.mark hp5
    have HC12 := mkHid c12
    have HC20 := mkHid c20
    obtain ⟨-, -, -, t3, -, -⟩ := hp5.cells
    have fz := frozen_in hp5.told 3
    have HZ : Hid (Ps w0 s a t (n + 1) (w5.setCell ⟨t, 3, none⟩ (.int .i64 (X5.mark : Int)))) := ⟨l5, kv, X5, (hp5.setMark X5.mark).pl HP3.out hlv.out hr5 rfl rfl rfl⟩
    clear hcase hp5 hr5 hfr5 HMk c12 c20 HAl HBo HP3
    go_wp2_with (first
      | (go_at_call 11; refine Calls.mono (num_any _ _ (by omega) (by omega)) ?_; rintro e w' ⟨rfl, hw'⟩; rw [hw']; clear hw' w')
      | (go_at_call 12; refine Calls.mono HC12.out ?_; rintro e w' ⟨rfl, hw'⟩; rw [hw']; clear hw' w')
      | (go_at_call 20; refine Calls.mono HC20.out ?_; rintro e w' ⟨rfl, hw'⟩; rw [hw']; clear hw' w'))
    go_ret
    exact ⟨rfl, HZ.out⟩
  · have h1 := HBo.out (foot a l) w5 hfr5 HFt.out
    have x3 : w5.cell? ⟨bo, 3, none⟩ = some (.int .i64 B) := by rw [cell_in h1]; rfl
    obtain ⟨hT5, -, hT50, -⟩ := hp5.tabs
    have HSr := mkHid (setRoot_ok hp5.spc B (4 * (q : Int)) hT5 hT50)
    have HP5 := mkHid hp5
    have HR5 := mkHid hr5
    have HM5 := mkHid hmk5
    clear hcase hp5 hr5 hfr5 HAl HBo h1 hT5 hT50 hmk5
    go_wp2_with (first
      | (go_at_call 11; refine Calls.mono (num_any _ _ (by omega) (by omega)) ?_; rintro e w' ⟨rfl, hw'⟩; rw [hw']; clear hw' w') | fail)
    refine Calls.mono HSr.out ?_
    rintro e w6 ⟨E, ks', H', M', rfl, hpk, hsp6, hag6, hx6⟩
    have hp6 : Pw w0 w6 s a t l5 kv { X5 with ks := ks', H := H', M := M' } X.root X.mark X.st := HP5.out.nx hsp6 rfl rfl HP5.out.br rfl hx6
    have hpl : ∀ (V : World), Pw w0 V s a t l5 kv { X5 with ks := ks', H := H', M := M' } X.root X5.mark X.st → Ps w0 s a t (n + 1) V := fun V hV => by
      have hr := HR5.out
      refine ⟨l5, kv, { X5 with ks := ks', H := H', M := M' }, ⟨?_, ?_, ?_, by show H'.age ≤ n + 1; rw [hag6]; exact hr.age, by show X5.oops ≤ 63; rw [hr.oops]; exact hoo, by show X5.words ≤ 2047; rw [hr.words]; exact hww⟩⟩
      · show Pw w0 V s a t l5 kv { X5 with ks := ks', H := H', M := M' } X5.root X5.mark X5.st
        rw [← hr.root, ← hr.st] at hV; exact hV
      · show X5.root = 0 ∨ hasK ks' X5.root = true
        rw [hpk.has, hr.root]
        exact live_root hlv.out HP3.out.root HP3.out.rootIn hr.live
      · show ∀ k ∈ ks', GoodK X5.oops k
        rw [hr.oops]
        exact hpk.good hr.good
    have HPl := mkHid hpl
    obtain ⟨-, -, -, t3, -, -⟩ := hp6.cells
    have fz := frozen_in hp6.told 3
    have hmm6 : (X5.mark : Int) ≤ 1073741824 := by
      have h3 := hp6.spc.ka.inv.safe.small.mark
      have h4 : H'.mark = X5.mark := hp6.spc.ka.mark
      have h5 : (H'.mark : Int) ≤ 1073741824 := h3
      omega
    by_cases hm0 : X.mark = 0
    · obtain ⟨c12, c20⟩ := HMk.out _ l5 w6 X.mark hp6
      have HC12 := mkHid c12
      have HC20 : Hid (Calls Tryd.prog 20 #[.pointer (some ⟨a, 0, none⟩)] w6 (fun e w' => e = .returned (.int .i64 (X5.mark : Int)) ∧ w' = w6)) := c20
      have HZ := mkHid (HPl.out _ (hp6.setMark X5.mark))
      rw [hm0] at t3
      clear hp6 hpl HPl hsp6 hx6 hpk hag6 HMk c12 c20 HSr HP5 HR5 HP3 hm0 HM5
      go_wp2_with (first
        | (go_at_call 12; refine Calls.mono HC12.out ?_; rintro e w' ⟨rfl, hw'⟩; rw [hw']; clear hw' w')
        | (go_at_call 20; refine Calls.mono HC20.out ?_; rintro e w' ⟨rfl, hw'⟩; rw [hw']; clear hw' w'))
      go_ret
      exact ⟨rfl, HZ.out⟩
    · obtain ⟨mm, hmm⟩ : ∃ mm, X.mark = mm + 1 := ⟨X.mark - 1, by omega⟩
      have hp7 := hp6.setMark mm
      have hmq : (X.mark : Int) = (mm : Int) + 1 := by omega
      have hm5 : X5.mark = mm := by rw [HM5.out, hmm]; rfl
      have hmb : (mm : Int) ≤ 1073741824 := by omega
      obtain ⟨c12, c20⟩ := HMk.out _ l5 _ mm hp7
      have HC12 := mkHid c12
      have HC20 : Hid (Calls Tryd.prog 20 #[.pointer (some ⟨a, 0, none⟩)] (w6.setCell ⟨t, 3, none⟩ (.int .i64 (mm : Int))) (fun e w' => e = .returned (.int .i64 (X5.mark : Int)) ∧ w' = w6.setCell ⟨t, 3, none⟩ (.int .i64 (mm : Int)))) := c20
      have HZ := mkHid (HPl.out _ (hp7.setMark X5.mark))
      obtain ⟨-, -, -, t3', -, -⟩ := hp7.cells
      have fz' := frozen_in hp7.told 3
      rw [hmq] at t3
      have hm4 : (0 : Int) < (mm : Int) + 1 := by omega
      clear hp6 hp7 hpl HPl hsp6 hx6 hpk hag6 HMk c12 c20 HSr HP5 HR5 HP3 hm0 HM5 hmm hmq hm5
      go_wp2_with (first
        | (go_at_call 12; refine Calls.mono HC12.out ?_; rintro e w' ⟨rfl, hw'⟩; rw [hw']; clear hw' w')
        | (go_at_call 20; refine Calls.mono HC20.out ?_; rintro e w' ⟨rfl, hw'⟩; rw [hw']; clear hw' w'))
      go_ret
      exact ⟨rfl, HZ.out⟩
end Go.Proofs.YtkmjimdaimbdfaaDoor
