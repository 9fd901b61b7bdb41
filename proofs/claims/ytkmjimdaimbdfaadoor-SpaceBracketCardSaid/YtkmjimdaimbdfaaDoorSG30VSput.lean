import Derived.Test.YtkmjimdaimbdfaaDoorSG28VAliv
import Derived.Deep.RegionHeld3
import Derived.BigQuiet
import Derived.BigRegion
namespace Go.Proofs.YtkmjimdaimbdfaaDoor
open Go.RowKit Go.Maps
set_option linter.unusedVariables false
set_option linter.unusedSimpArgs false
attribute [local go_sem ↓] Go.wp_at_zero Go.wp_at_succ
set_option maxRecDepth 20000 in
set_option maxHeartbeats 8000000 in
theorem step_alloc {w0 w : World} {s a t : Nat} {l : Lay} {kv : Value} {X : SpS} {n : Nat} (P : Pl w0 w s a t l kv X n) (hn : n ≤ 999) (On A B C : Int) (po : Option Addr) (co : Nat) (ss : List Int) (hls : Rd w0 (.slice po ss.length co) ss) (hA : -9223372036854775808 ≤ A ∧ A ≤ 9223372036854775807) (hB : -9223372036854775808 ≤ B ∧ B ≤ 9223372036854775807) :
    Calls Tryd.prog 7 #[.pointer (some ⟨t, 0, none⟩), .pointer (some ⟨s, 0, none⟩), .agg #[.int .i64 1, .int .i64 On, .int .i64 A, .int .i64 B, .int .i64 C, .slice po ss.length co]] w fun e w' => e = .returned (.bool true) ∧ Ps w0 s a t (n + 1) w' := by
  have HP := mkHid P
  have HFt := mkHid P.pw.spc.rep.lt
  have HLs := mkHid hls
  have hoo := P.oops
  have hww := P.words
  have htw := lt_of_heap P.pw.told
  have hsw := lt_of_heap P.pw.spc.top
  have HSv : Hid (∀ g, X.sv.ownBlock = some g → g < w.heap.size) := fun g hg => (P.pw.spc.stk.lt g hg).2
  obtain ⟨pk, ck, hkv, -⟩ := P.pw.kept.at_
  have HKv := mkHid hkv
  clear P hls hkv
  go_enter Tryd.func7, Tryd.ntmps7
  go_wp2_with fail
  obtain ⟨V, hV⟩ : ∃ V, (w.alloc (.cells #[.int .i64 1, .int .i64 On, .int .i64 A, .int .i64 B, .int .i64 C, .slice po ss.length co] 31)) = V := ⟨_, rfl⟩
  rw [hV]
  have hfV : Fr [] w V := by rw [← hV]; exact (Fr.alloc [] _ _)
  have hbV : V.heap[w.heap.size]? = some (.cells #[.int .i64 1, .int .i64 On, .int .i64 A, .int .i64 B, .int .i64 C, .slice po ss.length co] 31 (0, 0)) := by
    rw [← hV]; exact heap_alloc_new _ _
  obtain ⟨bo, hbo⟩ : ∃ bo, w.heap.size = bo := ⟨_, rfl⟩
  rw [hbo] at hbV htw hsw HFt HSv ⊢
  have HBV := mkHid hbV
  have HPV := mkHid (HP.out.idle hfV)
  have hVs : bo < V.heap.size := lt_of_heap hbV
  clear hV hfV hbV HP hbo
  refine Calls.mono (sHeap_same HPV.out.pw.spc) ?_
  rintro e w1 ⟨rfl, rfl⟩
  go_wp2_with fail
  refine Calls.mono (sstateP_ok HPV.out.pw.spc) ?_
  rintro e w2 ⟨pa, ca, rfl, hsatP, hf2⟩
  have hsat := hsatP [] w2 (Fr.refl _ _) (by simp)
  have HSP := mkHid hsatP
  obtain ⟨U, hU⟩ : ∃ U, (w2.alloc (.cells #[.int .i64 (X.words : Int), .int .i64 (X.oops : Int), .int .i64 (X.mark : Int), .slice pa X.ks.length ca] 44)) = U := ⟨_, rfl⟩
  have fU : Fr [] w2 U := by rw [← hU]; exact (Fr.alloc [] _ _)
  have hb2 : U.heap[w2.heap.size]? = some (.cells #[.int .i64 (X.words : Int), .int .i64 (X.oops : Int), .int .i64 (X.mark : Int), .slice pa X.ks.length ca] 44 (0, 0)) := by
    rw [← hU]; exact heap_alloc_new _ _
  have HPU := mkHid (HPV.out.idle (hf2.trans fU (by simp)))
  have H1U := mkHid (hf2.trans fU (by simp))
  have HSA := mkHid (hsat.idle fU)
  have H2U := mkHid fU
  have hks := hsat.short
  have hsz2 := hf2.size
  obtain ⟨b, hb⟩ : ∃ b, w2.heap.size = b := ⟨_, rfl⟩
  have hbge : w1.heap.size ≤ b := by omega
  rw [hb] at hb2
  have HB2 := mkHid hb2
  have HUe := mkHid hU
  have HBe := mkHid hb
  have HCl2 : Hid (∀ W, Hid (Fr [] U W) → ((W.cell? ⟨b, 0, none⟩ = some (.int .i64 (X.words : Int)) ∧ W.cell? ⟨b, 1, none⟩ = some (.int .i64 (X.oops : Int)) ∧ W.cell? ⟨b, 2, none⟩ = some (.int .i64 (X.mark : Int)) ∧ W.cell? ⟨b, 3, none⟩ = some (.slice pa X.ks.length ca)) ∧ W.cell? ⟨t, 2, none⟩ = some (.int .i64 X.root) ∧ W.cell? ⟨t, 4, none⟩ = some (.slice pk X.st.length ck))) := fun W hW => by
    have e3 := (hW.out.block _ (lt_of_heap HB2.out) (by simp)).trans HB2.out
    obtain ⟨t0, t1, t2, t3, t4, t5⟩ := (HPU.out.idle hW.out).pw.cells
    rw [HKv.out] at t4
    exact ⟨⟨by rw [cell_in e3]; rfl, by rw [cell_in e3]; rfl, by rw [cell_in e3]; rfl, by rw [cell_in e3]; rfl⟩, t2, t4⟩
  have HLi : Hid (∀ W, Hid (Fr [] U W) → Calls Tryd.prog 27 #[.agg #[.int .i64 (X.words : Int), .int .i64 (X.oops : Int), .int .i64 (X.mark : Int), .slice pa X.ks.length ca], .int .i64 X.root, .slice pk X.st.length ck] W fun e w' => ∃ pm cm m, e = .returned (.slice pm m.length cm) ∧ Hid (LvE X.ks (rts X.root X.st) m) ∧ Hid (Pls w' U.heap.size (.slice pm m.length cm) m) ∧ Hid (Fr [] U w')) := fun W hW => by
    have hk := (HPU.out.idle hW.out).pw.kept
    rw [HKv.out] at hk
    refine (live_k X.ks X.root X.words X.oops X.mark (.slice pa X.ks.length ca) (.slice pk X.st.length ck) X.st W (HSA.out.idle hW.out) hk HPV.out.rootAt).mono ?_
    rintro e w' ⟨v, m, rfl, q1, q2, q3⟩
    obtain ⟨pm, cm, rfl⟩ := row_is q2
    exact ⟨pm, cm, m, rfl, q1, own_base q2 hW.out.size, hW.out.trans q3 (by simp)⟩
  have hR : Hid (Fr [] U U) := Fr.refl _ _
  clear hsat hsatP hf2 fU hb2 hU hb
  go_wp2_with fail
  rw [HUe.out, HBe.out]
  clear HUe HBe
  go_region_held3 (fun W => ((W.cell? ⟨b, 0, none⟩ = some (.int .i64 (X.words : Int)) ∧ W.cell? ⟨b, 1, none⟩ = some (.int .i64 (X.oops : Int)) ∧ W.cell? ⟨b, 2, none⟩ = some (.int .i64 (X.mark : Int)) ∧ W.cell? ⟨b, 3, none⟩ = some (.slice pa X.ks.length ca)) ∧ W.cell? ⟨t, 2, none⟩ = some (.int .i64 X.root) ∧ W.cell? ⟨t, 4, none⟩ = some (.slice pk X.st.length ck)))
    (first
      | exact HCl2.out _ (hid_drew hR)
      | exact HCl2.out _ hR
      | exact HCl2.out _ hg3)
    (first | (go_at_call 27; refine (HLi.out _ (hid_drew hR)).mono ?_; rintro e w3 ⟨pm, cm, m, rfl, hlv, hpm, hg3⟩))
  have HP3 := mkHid (HPU.out.idle hg3.out)
  have hml : m.length ≤ 65538 := addP_len hlv.out hks
  have HBo : Hid (∀ S W, Fr S w3 W → (∀ g ∈ S, g < bo) → W.heap[bo]? = some (.cells #[.int .i64 1, .int .i64 On, .int .i64 A, .int .i64 B, .int .i64 C, .slice po ss.length co] 31 (0, 0))) := fun S W hW hS => by
    have h1 := ((H1U.out.trans hg3.out (by simp)).block bo hVs (by simp)).trans HBV.out
    exact (hW.block bo (lt_of_heap h1) (fun hm => by have := hS bo hm; omega)).trans h1
  have HBb : Hid (∀ S W, Fr S w3 W → (∀ g ∈ S, g < bo) → W.heap[b]? = some (.cells #[.int .i64 (X.words : Int), .int .i64 (X.oops : Int), .int .i64 (X.mark : Int), .slice pa X.ks.length ca] 44 (0, 0))) := fun S W hW hS => by
    have h1 := (hg3.out.block b (lt_of_heap HB2.out) (by simp)).trans HB2.out
    exact (hW.block b (lt_of_heap h1) (fun hm => by have := hS b hm; omega)).trans h1
  have HSt : Hid (∀ S W, Fr S w3 W → (∀ g ∈ S, g < bo) → Sat W (.slice pa X.ks.length ca) X.ks) := fun S W hW hS => HSP.out S W (((H2U.out.trans hg3.out (by simp)).mono (by simp)).trans hW (fun g hg => .inl hg)) (fun g hg => by have := hS g hg; omega)
  have HMt : Hid (∀ S W, Fr S w3 W → (∀ g ∈ S, g < bo) → Rd W (.slice pm m.length cm) (zs m)) := fun S W hW hS => (hpm.out.keep hW (fun g hg hm => by
    have h3 := (World.ownsRow.lt hpm.out g hg).1
    have h4 := hS g hm
    have h5 := H1U.out.size
    omega)).rd hml
  obtain ⟨o0, o1, o2, o3, o4, o5⟩ : w3.cell? ⟨bo, 0, none⟩ = some (.int .i64 1) ∧ w3.cell? ⟨bo, 1, none⟩ = some (.int .i64 On) ∧ w3.cell? ⟨bo, 2, none⟩ = some (.int .i64 A) ∧ w3.cell? ⟨bo, 3, none⟩ = some (.int .i64 B) ∧ w3.cell? ⟨bo, 4, none⟩ = some (.int .i64 C) ∧ w3.cell? ⟨bo, 5, none⟩ = some (.slice po ss.length co) := by
    have h1 := HBo.out [] w3 (Fr.refl _ _) (by simp)
    refine ⟨?_, ?_, ?_, ?_, ?_, ?_⟩ <;> (rw [cell_in h1]; rfl)
  have hR3 : Hid (Fr [] w3 w3) := Fr.refl _ _
  clear HLi HCl2 HPU HPV HSA HB2 H1U H2U HSP HBV hR
  have HFt2 : Hid (∀ g ∈ t :: foot a l, g < bo) := fun g hg => by
    rcases List.mem_cons.1 hg with e | e
    · rw [e]; exact htw
    · exact HFt.out g e
  have HOc : Hid (∀ S W, Fr S w3 W → (∀ g ∈ S, g < bo) → W.cell? ⟨bo, 2, none⟩ = some (.int .i64 A) ∧ W.cell? ⟨bo, 3, none⟩ = some (.int .i64 B)) := fun S W hW hS => by
    have h1 := HBo.out S W hW hS
    refine ⟨?_, ?_⟩ <;> (rw [cell_in h1]; rfl)
  have HKd := mkHid (rKind_any C w3)
  obtain ⟨nn, hn1, hn2⟩ : ∃ nn : Nat, (smN A : Int) % 64 = (nn : Int) ∧ nn ≤ 63 := ⟨smN A % 64, by omega, by omega⟩
  obtain ⟨ff, hf1, hf2⟩ : ∃ ff : Nat, (smN B : Int) % 2 = (ff : Int) ∧ ff ≤ 1 := ⟨smN B % 2, by omega, by omega⟩
  have hn3 : (smN A : Int).tmod 64 = (nn : Int) := by rw [Int.tmod_eq_emod_of_nonneg (by omega)]; exact hn1
  have hf3 : (smN B : Int).tmod 2 = (ff : Int) := by rw [Int.tmod_eq_emod_of_nonneg (by omega)]; exact hf1
  have HSm : Hid (∀ z, (z = A ∨ z = B) → ∀ W, Calls Tryd.prog 10 #[.int .i64 z] W fun e w' => e = .returned (.int .i64 (smN z : Int)) ∧ w' = W) := fun z _ W => small_ok z W
  have HAl : Hid (∀ c W, isW c = true → Hid (Fr [] w3 W) → Calls Tryd.prog 34 #[.pointer (some ⟨t, 0, none⟩), .pointer (some ⟨s, 0, none⟩), .int .i64 c, .int .i64 (nn : Int), .int .i64 (ff : Int)] W fun e w' => e = .returned (.bool true) ∧ Hid (Ps w0 s a t (n + 1) w') ∧ Hid (Fr (t :: foot a l) w3 w')) := fun c W hc hW => (talloc_k (HP3.out.idle hW.out) hn c hc nn ff (by omega) hf2).mono fun e w' ⟨h1, h2, h3⟩ => ⟨h1, h2, (hW.out.mono (by simp)).trans h3 (fun g hg => .inl hg)⟩
  have hsA := smN_le A
  have hsB := smN_le B
  obtain ⟨cc, hcc, hcase⟩ : ∃ cc : Int, isW cc = true ∧ ((kindOf C = 0 ∧ cc = 8) ∨ ((kindOf C == 0) = false ∧ cc = C)) := by
    by_cases h : kindOf C = 0
    · exact ⟨8, by decide, .inl ⟨h, rfl⟩⟩
    · exact ⟨C, by unfold isW; simpa using h, .inr ⟨by simpa using h, rfl⟩⟩
  have HCc := mkHid hcc
  clear hcc
  rcases hcase with ⟨h, rfl⟩ | ⟨h, rfl⟩
  case' inl => rw [h] at HKd; clear h
  case' inr => generalize kindOf cc = kd at *
  all_goals
    go_wp2_with (first | (go_at_call 33; refine Calls.mono HKd.out ?_; rintro e w' ⟨rfl, hw'⟩; rw [hw']; clear hw' w') | fail)
    go_region_held3 (fun W => W.cell? ⟨bo, 2, none⟩ = some (.int .i64 A) ∧ W.cell? ⟨bo, 3, none⟩ = some (.int .i64 B))
      (first
        | exact HOc.out [] _ (hid_drew hR3).out (by simp)
        | exact HOc.out [] _ hR3.out (by simp)
        | exact HOc.out _ _ hg5.out HFt2.out)
      (first
        | (go_at_call 10; refine (HSm.out _ (by first | exact .inl rfl | exact .inr rfl) _).mono ?_; rintro e w' ⟨rfl, hw'⟩; rw [hw']; clear hw' w')
        | (go_at_call 34; refine (HAl.out _ _ HCc.out (hid_drew hR3)).mono ?_; rintro e w4 ⟨rfl, hps, hg5⟩))
  all_goals go_wp2_with fail
  all_goals
    go_ret
    exact ⟨rfl, hps.out⟩
end Go.Proofs.YtkmjimdaimbdfaaDoor
namespace Go.Proofs.YtkmjimdaimbdfaaDoor
open Go.RowKit Go.Maps
set_option linter.unusedVariables false
set_option linter.unusedSimpArgs false
attribute [local go_sem ↓] Go.wp_at_zero Go.wp_at_succ
set_option maxRecDepth 20000 in
set_option maxHeartbeats 8000000 in
theorem step_else {w0 w : World} {s a t : Nat} {l : Lay} {kv : Value} {X : SpS} {n : Nat} (P : Pl w0 w s a t l kv X n) (hn : n ≤ 999) (K : Int) (g1 : (K == 1) = false) (g2 : (K == 2) = false) (g3 : (K == 3) = false) (g6 : (K == 6) = false) (g7 : (K == 7) = false) (g8 : (K == 8) = false) (g12 : (K == 12) = false) (g13 : (K == 13) = false) (On A B C : Int) (po : Option Addr) (co : Nat) (ss : List Int) (hls : Rd w0 (.slice po ss.length co) ss) (hA : -9223372036854775808 ≤ A ∧ A ≤ 9223372036854775807) (hB : -9223372036854775808 ≤ B ∧ B ≤ 9223372036854775807) :
    Calls Tryd.prog 7 #[.pointer (some ⟨t, 0, none⟩), .pointer (some ⟨s, 0, none⟩), .agg #[.int .i64 K, .int .i64 On, .int .i64 A, .int .i64 B, .int .i64 C, .slice po ss.length co]] w fun e w' => e = .returned (.bool true) ∧ Ps w0 s a t (n + 1) w' := by
  have HP := mkHid P
  have HFt := mkHid P.pw.spc.rep.lt
  have HLs := mkHid hls
  have hoo := P.oops
  have hww := P.words
  have htw := lt_of_heap P.pw.told
  have hsw := lt_of_heap P.pw.spc.top
  have HSv : Hid (∀ g, X.sv.ownBlock = some g → g < w.heap.size) := fun g hg => (P.pw.spc.stk.lt g hg).2
  obtain ⟨pk, ck, hkv, -⟩ := P.pw.kept.at_
  have HKv := mkHid hkv
  clear P hls hkv
  go_enter Tryd.func7, Tryd.ntmps7
  go_wp2_with fail
  obtain ⟨V, hV⟩ : ∃ V, (w.alloc (.cells #[.int .i64 K, .int .i64 On, .int .i64 A, .int .i64 B, .int .i64 C, .slice po ss.length co] 31)) = V := ⟨_, rfl⟩
  rw [hV]
  have hfV : Fr [] w V := by rw [← hV]; exact (Fr.alloc [] _ _)
  have hbV : V.heap[w.heap.size]? = some (.cells #[.int .i64 K, .int .i64 On, .int .i64 A, .int .i64 B, .int .i64 C, .slice po ss.length co] 31 (0, 0)) := by
    rw [← hV]; exact heap_alloc_new _ _
  obtain ⟨bo, hbo⟩ : ∃ bo, w.heap.size = bo := ⟨_, rfl⟩
  rw [hbo] at hbV htw hsw HFt HSv ⊢
  have HBV := mkHid hbV
  have HPV := mkHid (HP.out.idle hfV)
  have hVs : bo < V.heap.size := lt_of_heap hbV
  clear hV hfV hbV HP hbo
  refine Calls.mono (sHeap_same HPV.out.pw.spc) ?_
  rintro e w1 ⟨rfl, rfl⟩
  go_wp2_with fail
  refine Calls.mono (sstateP_ok HPV.out.pw.spc) ?_
  rintro e w2 ⟨pa, ca, rfl, hsatP, hf2⟩
  have hsat := hsatP [] w2 (Fr.refl _ _) (by simp)
  have HSP := mkHid hsatP
  obtain ⟨U, hU⟩ : ∃ U, (w2.alloc (.cells #[.int .i64 (X.words : Int), .int .i64 (X.oops : Int), .int .i64 (X.mark : Int), .slice pa X.ks.length ca] 44)) = U := ⟨_, rfl⟩
  have fU : Fr [] w2 U := by rw [← hU]; exact (Fr.alloc [] _ _)
  have hb2 : U.heap[w2.heap.size]? = some (.cells #[.int .i64 (X.words : Int), .int .i64 (X.oops : Int), .int .i64 (X.mark : Int), .slice pa X.ks.length ca] 44 (0, 0)) := by
    rw [← hU]; exact heap_alloc_new _ _
  have HPU := mkHid (HPV.out.idle (hf2.trans fU (by simp)))
  have H1U := mkHid (hf2.trans fU (by simp))
  have HSA := mkHid (hsat.idle fU)
  have H2U := mkHid fU
  have hks := hsat.short
  have hsz2 := hf2.size
  obtain ⟨b, hb⟩ : ∃ b, w2.heap.size = b := ⟨_, rfl⟩
  have hbge : w1.heap.size ≤ b := by omega
  rw [hb] at hb2
  have HB2 := mkHid hb2
  have HUe := mkHid hU
  have HBe := mkHid hb
  have HCl2 : Hid (∀ W, Hid (Fr [] U W) → ((W.cell? ⟨b, 0, none⟩ = some (.int .i64 (X.words : Int)) ∧ W.cell? ⟨b, 1, none⟩ = some (.int .i64 (X.oops : Int)) ∧ W.cell? ⟨b, 2, none⟩ = some (.int .i64 (X.mark : Int)) ∧ W.cell? ⟨b, 3, none⟩ = some (.slice pa X.ks.length ca)) ∧ W.cell? ⟨t, 2, none⟩ = some (.int .i64 X.root) ∧ W.cell? ⟨t, 4, none⟩ = some (.slice pk X.st.length ck))) := fun W hW => by
    have e3 := (hW.out.block _ (lt_of_heap HB2.out) (by simp)).trans HB2.out
    obtain ⟨t0, t1, t2, t3, t4, t5⟩ := (HPU.out.idle hW.out).pw.cells
    rw [HKv.out] at t4
    exact ⟨⟨by rw [cell_in e3]; rfl, by rw [cell_in e3]; rfl, by rw [cell_in e3]; rfl, by rw [cell_in e3]; rfl⟩, t2, t4⟩
  have HLi : Hid (∀ W, Hid (Fr [] U W) → Calls Tryd.prog 27 #[.agg #[.int .i64 (X.words : Int), .int .i64 (X.oops : Int), .int .i64 (X.mark : Int), .slice pa X.ks.length ca], .int .i64 X.root, .slice pk X.st.length ck] W fun e w' => ∃ pm cm m, e = .returned (.slice pm m.length cm) ∧ Hid (LvE X.ks (rts X.root X.st) m) ∧ Hid (Pls w' U.heap.size (.slice pm m.length cm) m) ∧ Hid (Fr [] U w')) := fun W hW => by
    have hk := (HPU.out.idle hW.out).pw.kept
    rw [HKv.out] at hk
    refine (live_k X.ks X.root X.words X.oops X.mark (.slice pa X.ks.length ca) (.slice pk X.st.length ck) X.st W (HSA.out.idle hW.out) hk HPV.out.rootAt).mono ?_
    rintro e w' ⟨v, m, rfl, q1, q2, q3⟩
    obtain ⟨pm, cm, rfl⟩ := row_is q2
    exact ⟨pm, cm, m, rfl, q1, own_base q2 hW.out.size, hW.out.trans q3 (by simp)⟩
  have hR : Hid (Fr [] U U) := Fr.refl _ _
  clear hsat hsatP hf2 fU hb2 hU hb
  go_wp2_with fail
  rw [HUe.out, HBe.out]
  clear HUe HBe
  go_region_held3 (fun W => ((W.cell? ⟨b, 0, none⟩ = some (.int .i64 (X.words : Int)) ∧ W.cell? ⟨b, 1, none⟩ = some (.int .i64 (X.oops : Int)) ∧ W.cell? ⟨b, 2, none⟩ = some (.int .i64 (X.mark : Int)) ∧ W.cell? ⟨b, 3, none⟩ = some (.slice pa X.ks.length ca)) ∧ W.cell? ⟨t, 2, none⟩ = some (.int .i64 X.root) ∧ W.cell? ⟨t, 4, none⟩ = some (.slice pk X.st.length ck)))
    (first
      | exact HCl2.out _ (hid_drew hR)
      | exact HCl2.out _ hR
      | exact HCl2.out _ hg3)
    (first | (go_at_call 27; refine (HLi.out _ (hid_drew hR)).mono ?_; rintro e w3 ⟨pm, cm, m, rfl, hlv, hpm, hg3⟩))
  have HP3 := mkHid (HPU.out.idle hg3.out)
  have hml : m.length ≤ 65538 := addP_len hlv.out hks
  have HBo : Hid (∀ S W, Fr S w3 W → (∀ g ∈ S, g < bo) → W.heap[bo]? = some (.cells #[.int .i64 K, .int .i64 On, .int .i64 A, .int .i64 B, .int .i64 C, .slice po ss.length co] 31 (0, 0))) := fun S W hW hS => by
    have h1 := ((H1U.out.trans hg3.out (by simp)).block bo hVs (by simp)).trans HBV.out
    exact (hW.block bo (lt_of_heap h1) (fun hm => by have := hS bo hm; omega)).trans h1
  have HBb : Hid (∀ S W, Fr S w3 W → (∀ g ∈ S, g < bo) → W.heap[b]? = some (.cells #[.int .i64 (X.words : Int), .int .i64 (X.oops : Int), .int .i64 (X.mark : Int), .slice pa X.ks.length ca] 44 (0, 0))) := fun S W hW hS => by
    have h1 := (hg3.out.block b (lt_of_heap HB2.out) (by simp)).trans HB2.out
    exact (hW.block b (lt_of_heap h1) (fun hm => by have := hS b hm; omega)).trans h1
  have HSt : Hid (∀ S W, Fr S w3 W → (∀ g ∈ S, g < bo) → Sat W (.slice pa X.ks.length ca) X.ks) := fun S W hW hS => HSP.out S W (((H2U.out.trans hg3.out (by simp)).mono (by simp)).trans hW (fun g hg => .inl hg)) (fun g hg => by have := hS g hg; omega)
  have HMt : Hid (∀ S W, Fr S w3 W → (∀ g ∈ S, g < bo) → Rd W (.slice pm m.length cm) (zs m)) := fun S W hW hS => (hpm.out.keep hW (fun g hg hm => by
    have h3 := (World.ownsRow.lt hpm.out g hg).1
    have h4 := hS g hm
    have h5 := H1U.out.size
    omega)).rd hml
  obtain ⟨o0, o1, o2, o3, o4, o5⟩ : w3.cell? ⟨bo, 0, none⟩ = some (.int .i64 K) ∧ w3.cell? ⟨bo, 1, none⟩ = some (.int .i64 On) ∧ w3.cell? ⟨bo, 2, none⟩ = some (.int .i64 A) ∧ w3.cell? ⟨bo, 3, none⟩ = some (.int .i64 B) ∧ w3.cell? ⟨bo, 4, none⟩ = some (.int .i64 C) ∧ w3.cell? ⟨bo, 5, none⟩ = some (.slice po ss.length co) := by
    have h1 := HBo.out [] w3 (Fr.refl _ _) (by simp)
    refine ⟨?_, ?_, ?_, ?_, ?_, ?_⟩ <;> (rw [cell_in h1]; rfl)
  have hR3 : Hid (Fr [] w3 w3) := Fr.refl _ _
  clear HLi HCl2 HPU HPV HSA HB2 H1U H2U HSP HBV hR
  have HZ : Hid (Ps w0 s a t (n + 1) w3) := ⟨l, kv, X, ⟨HP3.out.pw, HP3.out.root, HP3.out.good, by have := HP3.out.age; omega, HP3.out.oops, HP3.out.words⟩⟩
  clear HP3 HBo HBb HSt HMt
  go_wp2_with fail
  go_ret
  exact ⟨rfl, HZ.out⟩
end Go.Proofs.YtkmjimdaimbdfaaDoor
namespace Go.Proofs.YtkmjimdaimbdfaaDoor
open Go.RowKit Go.Maps
set_option linter.unusedVariables false
set_option linter.unusedSimpArgs false
attribute [local go_sem ↓] Go.wp_at_zero Go.wp_at_succ
set_option maxRecDepth 20000 in
set_option maxHeartbeats 8000000 in
theorem step_keep {w0 w : World} {s a t : Nat} {l : Lay} {kv : Value} {X : SpS} {n : Nat} (P : Pl w0 w s a t l kv X n) (hn : n ≤ 999) (On A B C : Int) (po : Option Addr) (co : Nat) (ss : List Int) (hls : Rd w0 (.slice po ss.length co) ss) (hA : -9223372036854775808 ≤ A ∧ A ≤ 9223372036854775807) (hB : -9223372036854775808 ≤ B ∧ B ≤ 9223372036854775807) :
    Calls Tryd.prog 7 #[.pointer (some ⟨t, 0, none⟩), .pointer (some ⟨s, 0, none⟩), .agg #[.int .i64 6, .int .i64 On, .int .i64 A, .int .i64 B, .int .i64 C, .slice po ss.length co]] w fun e w' => e = .returned (.bool true) ∧ Ps w0 s a t (n + 1) w' := by
  have HP := mkHid P
  have HFt := mkHid P.pw.spc.rep.lt
  have HLs := mkHid hls
  have hoo := P.oops
  have hww := P.words
  have htw := lt_of_heap P.pw.told
  have hsw := lt_of_heap P.pw.spc.top
  have HSv : Hid (∀ g, X.sv.ownBlock = some g → g < w.heap.size) := fun g hg => (P.pw.spc.stk.lt g hg).2
  obtain ⟨pk, ck, hkv, -⟩ := P.pw.kept.at_
  have HKv := mkHid hkv
  clear P hls hkv
  go_enter Tryd.func7, Tryd.ntmps7
  go_wp2_with fail
  obtain ⟨V, hV⟩ : ∃ V, (w.alloc (.cells #[.int .i64 6, .int .i64 On, .int .i64 A, .int .i64 B, .int .i64 C, .slice po ss.length co] 31)) = V := ⟨_, rfl⟩
  rw [hV]
  have hfV : Fr [] w V := by rw [← hV]; exact (Fr.alloc [] _ _)
  have hbV : V.heap[w.heap.size]? = some (.cells #[.int .i64 6, .int .i64 On, .int .i64 A, .int .i64 B, .int .i64 C, .slice po ss.length co] 31 (0, 0)) := by
    rw [← hV]; exact heap_alloc_new _ _
  obtain ⟨bo, hbo⟩ : ∃ bo, w.heap.size = bo := ⟨_, rfl⟩
  rw [hbo] at hbV htw hsw HFt HSv ⊢
  have HBV := mkHid hbV
  have HPV := mkHid (HP.out.idle hfV)
  have hVs : bo < V.heap.size := lt_of_heap hbV
  clear hV hfV hbV HP hbo
  refine Calls.mono (sHeap_same HPV.out.pw.spc) ?_
  rintro e w1 ⟨rfl, rfl⟩
  go_wp2_with fail
  refine Calls.mono (sstateP_ok HPV.out.pw.spc) ?_
  rintro e w2 ⟨pa, ca, rfl, hsatP, hf2⟩
  have hsat := hsatP [] w2 (Fr.refl _ _) (by simp)
  have HSP := mkHid hsatP
  obtain ⟨U, hU⟩ : ∃ U, (w2.alloc (.cells #[.int .i64 (X.words : Int), .int .i64 (X.oops : Int), .int .i64 (X.mark : Int), .slice pa X.ks.length ca] 44)) = U := ⟨_, rfl⟩
  have fU : Fr [] w2 U := by rw [← hU]; exact (Fr.alloc [] _ _)
  have hb2 : U.heap[w2.heap.size]? = some (.cells #[.int .i64 (X.words : Int), .int .i64 (X.oops : Int), .int .i64 (X.mark : Int), .slice pa X.ks.length ca] 44 (0, 0)) := by
    rw [← hU]; exact heap_alloc_new _ _
  have HPU := mkHid (HPV.out.idle (hf2.trans fU (by simp)))
  have H1U := mkHid (hf2.trans fU (by simp))
  have HSA := mkHid (hsat.idle fU)
  have H2U := mkHid fU
  have hks := hsat.short
  have hsz2 := hf2.size
  obtain ⟨b, hb⟩ : ∃ b, w2.heap.size = b := ⟨_, rfl⟩
  have hbge : w1.heap.size ≤ b := by omega
  rw [hb] at hb2
  have HB2 := mkHid hb2
  have HUe := mkHid hU
  have HBe := mkHid hb
  have HCl2 : Hid (∀ W, Hid (Fr [] U W) → ((W.cell? ⟨b, 0, none⟩ = some (.int .i64 (X.words : Int)) ∧ W.cell? ⟨b, 1, none⟩ = some (.int .i64 (X.oops : Int)) ∧ W.cell? ⟨b, 2, none⟩ = some (.int .i64 (X.mark : Int)) ∧ W.cell? ⟨b, 3, none⟩ = some (.slice pa X.ks.length ca)) ∧ W.cell? ⟨t, 2, none⟩ = some (.int .i64 X.root) ∧ W.cell? ⟨t, 4, none⟩ = some (.slice pk X.st.length ck))) := fun W hW => by
    have e3 := (hW.out.block _ (lt_of_heap HB2.out) (by simp)).trans HB2.out
    obtain ⟨t0, t1, t2, t3, t4, t5⟩ := (HPU.out.idle hW.out).pw.cells
    rw [HKv.out] at t4
    exact ⟨⟨by rw [cell_in e3]; rfl, by rw [cell_in e3]; rfl, by rw [cell_in e3]; rfl, by rw [cell_in e3]; rfl⟩, t2, t4⟩
  have HLi : Hid (∀ W, Hid (Fr [] U W) → Calls Tryd.prog 27 #[.agg #[.int .i64 (X.words : Int), .int .i64 (X.oops : Int), .int .i64 (X.mark : Int), .slice pa X.ks.length ca], .int .i64 X.root, .slice pk X.st.length ck] W fun e w' => ∃ pm cm m, e = .returned (.slice pm m.length cm) ∧ Hid (LvE X.ks (rts X.root X.st) m) ∧ Hid (Pls w' U.heap.size (.slice pm m.length cm) m) ∧ Hid (Fr [] U w')) := fun W hW => by
    have hk := (HPU.out.idle hW.out).pw.kept
    rw [HKv.out] at hk
    refine (live_k X.ks X.root X.words X.oops X.mark (.slice pa X.ks.length ca) (.slice pk X.st.length ck) X.st W (HSA.out.idle hW.out) hk HPV.out.rootAt).mono ?_
    rintro e w' ⟨v, m, rfl, q1, q2, q3⟩
    obtain ⟨pm, cm, rfl⟩ := row_is q2
    exact ⟨pm, cm, m, rfl, q1, own_base q2 hW.out.size, hW.out.trans q3 (by simp)⟩
  have hR : Hid (Fr [] U U) := Fr.refl _ _
  clear hsat hsatP hf2 fU hb2 hU hb
  go_wp2_with fail
  rw [HUe.out, HBe.out]
  clear HUe HBe
  go_region_held3 (fun W => ((W.cell? ⟨b, 0, none⟩ = some (.int .i64 (X.words : Int)) ∧ W.cell? ⟨b, 1, none⟩ = some (.int .i64 (X.oops : Int)) ∧ W.cell? ⟨b, 2, none⟩ = some (.int .i64 (X.mark : Int)) ∧ W.cell? ⟨b, 3, none⟩ = some (.slice pa X.ks.length ca)) ∧ W.cell? ⟨t, 2, none⟩ = some (.int .i64 X.root) ∧ W.cell? ⟨t, 4, none⟩ = some (.slice pk X.st.length ck)))
    (first
      | exact HCl2.out _ (hid_drew hR)
      | exact HCl2.out _ hR
      | exact HCl2.out _ hg3)
    (first | (go_at_call 27; refine (HLi.out _ (hid_drew hR)).mono ?_; rintro e w3 ⟨pm, cm, m, rfl, hlv, hpm, hg3⟩))
  have HP3 := mkHid (HPU.out.idle hg3.out)
  have hml : m.length ≤ 65538 := addP_len hlv.out hks
  have HBo : Hid (∀ S W, Fr S w3 W → (∀ g ∈ S, g < bo) → W.heap[bo]? = some (.cells #[.int .i64 6, .int .i64 On, .int .i64 A, .int .i64 B, .int .i64 C, .slice po ss.length co] 31 (0, 0))) := fun S W hW hS => by
    have h1 := ((H1U.out.trans hg3.out (by simp)).block bo hVs (by simp)).trans HBV.out
    exact (hW.block bo (lt_of_heap h1) (fun hm => by have := hS bo hm; omega)).trans h1
  have HBb : Hid (∀ S W, Fr S w3 W → (∀ g ∈ S, g < bo) → W.heap[b]? = some (.cells #[.int .i64 (X.words : Int), .int .i64 (X.oops : Int), .int .i64 (X.mark : Int), .slice pa X.ks.length ca] 44 (0, 0))) := fun S W hW hS => by
    have h1 := (hg3.out.block b (lt_of_heap HB2.out) (by simp)).trans HB2.out
    exact (hW.block b (lt_of_heap h1) (fun hm => by have := hS b hm; omega)).trans h1
  have HSt : Hid (∀ S W, Fr S w3 W → (∀ g ∈ S, g < bo) → Sat W (.slice pa X.ks.length ca) X.ks) := fun S W hW hS => HSP.out S W (((H2U.out.trans hg3.out (by simp)).mono (by simp)).trans hW (fun g hg => .inl hg)) (fun g hg => by have := hS g hg; omega)
  have HMt : Hid (∀ S W, Fr S w3 W → (∀ g ∈ S, g < bo) → Rd W (.slice pm m.length cm) (zs m)) := fun S W hW hS => (hpm.out.keep hW (fun g hg hm => by
    have h3 := (World.ownsRow.lt hpm.out g hg).1
    have h4 := hS g hm
    have h5 := H1U.out.size
    omega)).rd hml
  obtain ⟨o0, o1, o2, o3, o4, o5⟩ : w3.cell? ⟨bo, 0, none⟩ = some (.int .i64 6) ∧ w3.cell? ⟨bo, 1, none⟩ = some (.int .i64 On) ∧ w3.cell? ⟨bo, 2, none⟩ = some (.int .i64 A) ∧ w3.cell? ⟨bo, 3, none⟩ = some (.int .i64 B) ∧ w3.cell? ⟨bo, 4, none⟩ = some (.int .i64 C) ∧ w3.cell? ⟨bo, 5, none⟩ = some (.slice po ss.length co) := by
    have h1 := HBo.out [] w3 (Fr.refl _ _) (by simp)
    refine ⟨?_, ?_, ?_, ?_, ?_, ?_⟩ <;> (rw [cell_in h1]; rfl)
  have hR3 : Hid (Fr [] w3 w3) := Fr.refl _ _
  clear HLi HCl2 HPU HPV HSA HB2 H1U H2U HSP HBV hR
  have HK := mkHid (keeps_k HP3.out ss (.slice po ss.length co) HLs.out)
  clear HP3 HBo HBb HSt HMt HLs
  go_wp2_with fail
  refine Calls.mono HK.out ?_
  rintro e w4 ⟨rfl, l4, kv4, X4, h4⟩
  have HZ : Hid (Ps w0 s a t (n + 1) w4) := ⟨l4, kv4, X4, ⟨h4.pw, h4.root, h4.good, by have := h4.age; omega, h4.oops, h4.words⟩⟩
  clear h4 HK
  go_wp2_with fail
  go_ret
  exact ⟨rfl, HZ.out⟩
end Go.Proofs.YtkmjimdaimbdfaaDoor
namespace Go.Proofs.YtkmjimdaimbdfaaDoor
open Go.RowKit Go.Maps
set_option linter.unusedVariables false
set_option linter.unusedSimpArgs false
attribute [local go_sem ↓] Go.wp_at_zero Go.wp_at_succ
set_option maxRecDepth 20000 in
set_option maxHeartbeats 8000000 in
theorem step_mark {w0 w : World} {s a t : Nat} {l : Lay} {kv : Value} {X : SpS} {n : Nat} (P : Pl w0 w s a t l kv X n) (hn : n ≤ 999) (On A B C : Int) (po : Option Addr) (co : Nat) (ss : List Int) (hls : Rd w0 (.slice po ss.length co) ss) (hA : -9223372036854775808 ≤ A ∧ A ≤ 9223372036854775807) (hB : -9223372036854775808 ≤ B ∧ B ≤ 9223372036854775807) :
    Calls Tryd.prog 7 #[.pointer (some ⟨t, 0, none⟩), .pointer (some ⟨s, 0, none⟩), .agg #[.int .i64 12, .int .i64 On, .int .i64 A, .int .i64 B, .int .i64 C, .slice po ss.length co]] w fun e w' => e = .returned (.bool true) ∧ Ps w0 s a t (n + 1) w' := by
  have HP := mkHid P
  have HFt := mkHid P.pw.spc.rep.lt
  have HLs := mkHid hls
  have hoo := P.oops
  have hww := P.words
  have htw := lt_of_heap P.pw.told
  have hsw := lt_of_heap P.pw.spc.top
  have HSv : Hid (∀ g, X.sv.ownBlock = some g → g < w.heap.size) := fun g hg => (P.pw.spc.stk.lt g hg).2
  obtain ⟨pk, ck, hkv, -⟩ := P.pw.kept.at_
  have HKv := mkHid hkv
  clear P hls hkv
  go_enter Tryd.func7, Tryd.ntmps7
  go_wp2_with fail
  obtain ⟨V, hV⟩ : ∃ V, (w.alloc (.cells #[.int .i64 12, .int .i64 On, .int .i64 A, .int .i64 B, .int .i64 C, .slice po ss.length co] 31)) = V := ⟨_, rfl⟩
  rw [hV]
  have hfV : Fr [] w V := by rw [← hV]; exact (Fr.alloc [] _ _)
  have hbV : V.heap[w.heap.size]? = some (.cells #[.int .i64 12, .int .i64 On, .int .i64 A, .int .i64 B, .int .i64 C, .slice po ss.length co] 31 (0, 0)) := by
    rw [← hV]; exact heap_alloc_new _ _
  obtain ⟨bo, hbo⟩ : ∃ bo, w.heap.size = bo := ⟨_, rfl⟩
  rw [hbo] at hbV htw hsw HFt HSv ⊢
  have HBV := mkHid hbV
  have HPV := mkHid (HP.out.idle hfV)
  have hVs : bo < V.heap.size := lt_of_heap hbV
  clear hV hfV hbV HP hbo
  refine Calls.mono (sHeap_same HPV.out.pw.spc) ?_
  rintro e w1 ⟨rfl, rfl⟩
  go_wp2_with fail
  refine Calls.mono (sstateP_ok HPV.out.pw.spc) ?_
  rintro e w2 ⟨pa, ca, rfl, hsatP, hf2⟩
  have hsat := hsatP [] w2 (Fr.refl _ _) (by simp)
  have HSP := mkHid hsatP
  obtain ⟨U, hU⟩ : ∃ U, (w2.alloc (.cells #[.int .i64 (X.words : Int), .int .i64 (X.oops : Int), .int .i64 (X.mark : Int), .slice pa X.ks.length ca] 44)) = U := ⟨_, rfl⟩
  have fU : Fr [] w2 U := by rw [← hU]; exact (Fr.alloc [] _ _)
  have hb2 : U.heap[w2.heap.size]? = some (.cells #[.int .i64 (X.words : Int), .int .i64 (X.oops : Int), .int .i64 (X.mark : Int), .slice pa X.ks.length ca] 44 (0, 0)) := by
    rw [← hU]; exact heap_alloc_new _ _
  have HPU := mkHid (HPV.out.idle (hf2.trans fU (by simp)))
  have H1U := mkHid (hf2.trans fU (by simp))
  have HSA := mkHid (hsat.idle fU)
  have H2U := mkHid fU
  have hks := hsat.short
  have hsz2 := hf2.size
  obtain ⟨b, hb⟩ : ∃ b, w2.heap.size = b := ⟨_, rfl⟩
  have hbge : w1.heap.size ≤ b := by omega
  rw [hb] at hb2
  have HB2 := mkHid hb2
  have HUe := mkHid hU
  have HBe := mkHid hb
  have HCl2 : Hid (∀ W, Hid (Fr [] U W) → ((W.cell? ⟨b, 0, none⟩ = some (.int .i64 (X.words : Int)) ∧ W.cell? ⟨b, 1, none⟩ = some (.int .i64 (X.oops : Int)) ∧ W.cell? ⟨b, 2, none⟩ = some (.int .i64 (X.mark : Int)) ∧ W.cell? ⟨b, 3, none⟩ = some (.slice pa X.ks.length ca)) ∧ W.cell? ⟨t, 2, none⟩ = some (.int .i64 X.root) ∧ W.cell? ⟨t, 4, none⟩ = some (.slice pk X.st.length ck))) := fun W hW => by
    have e3 := (hW.out.block _ (lt_of_heap HB2.out) (by simp)).trans HB2.out
    obtain ⟨t0, t1, t2, t3, t4, t5⟩ := (HPU.out.idle hW.out).pw.cells
    rw [HKv.out] at t4
    exact ⟨⟨by rw [cell_in e3]; rfl, by rw [cell_in e3]; rfl, by rw [cell_in e3]; rfl, by rw [cell_in e3]; rfl⟩, t2, t4⟩
  have HLi : Hid (∀ W, Hid (Fr [] U W) → Calls Tryd.prog 27 #[.agg #[.int .i64 (X.words : Int), .int .i64 (X.oops : Int), .int .i64 (X.mark : Int), .slice pa X.ks.length ca], .int .i64 X.root, .slice pk X.st.length ck] W fun e w' => ∃ pm cm m, e = .returned (.slice pm m.length cm) ∧ Hid (LvE X.ks (rts X.root X.st) m) ∧ Hid (Pls w' U.heap.size (.slice pm m.length cm) m) ∧ Hid (Fr [] U w')) := fun W hW => by
    have hk := (HPU.out.idle hW.out).pw.kept
    rw [HKv.out] at hk
    refine (live_k X.ks X.root X.words X.oops X.mark (.slice pa X.ks.length ca) (.slice pk X.st.length ck) X.st W (HSA.out.idle hW.out) hk HPV.out.rootAt).mono ?_
    rintro e w' ⟨v, m, rfl, q1, q2, q3⟩
    obtain ⟨pm, cm, rfl⟩ := row_is q2
    exact ⟨pm, cm, m, rfl, q1, own_base q2 hW.out.size, hW.out.trans q3 (by simp)⟩
  have hR : Hid (Fr [] U U) := Fr.refl _ _
  clear hsat hsatP hf2 fU hb2 hU hb
  go_wp2_with fail
  rw [HUe.out, HBe.out]
  clear HUe HBe
  go_region_held3 (fun W => ((W.cell? ⟨b, 0, none⟩ = some (.int .i64 (X.words : Int)) ∧ W.cell? ⟨b, 1, none⟩ = some (.int .i64 (X.oops : Int)) ∧ W.cell? ⟨b, 2, none⟩ = some (.int .i64 (X.mark : Int)) ∧ W.cell? ⟨b, 3, none⟩ = some (.slice pa X.ks.length ca)) ∧ W.cell? ⟨t, 2, none⟩ = some (.int .i64 X.root) ∧ W.cell? ⟨t, 4, none⟩ = some (.slice pk X.st.length ck)))
    (first
      | exact HCl2.out _ (hid_drew hR)
      | exact HCl2.out _ hR
      | exact HCl2.out _ hg3)
    (first | (go_at_call 27; refine (HLi.out _ (hid_drew hR)).mono ?_; rintro e w3 ⟨pm, cm, m, rfl, hlv, hpm, hg3⟩))
  have HP3 := mkHid (HPU.out.idle hg3.out)
  have hml : m.length ≤ 65538 := addP_len hlv.out hks
  have HBo : Hid (∀ S W, Fr S w3 W → (∀ g ∈ S, g < bo) → W.heap[bo]? = some (.cells #[.int .i64 12, .int .i64 On, .int .i64 A, .int .i64 B, .int .i64 C, .slice po ss.length co] 31 (0, 0))) := fun S W hW hS => by
    have h1 := ((H1U.out.trans hg3.out (by simp)).block bo hVs (by simp)).trans HBV.out
    exact (hW.block bo (lt_of_heap h1) (fun hm => by have := hS bo hm; omega)).trans h1
  have HBb : Hid (∀ S W, Fr S w3 W → (∀ g ∈ S, g < bo) → W.heap[b]? = some (.cells #[.int .i64 (X.words : Int), .int .i64 (X.oops : Int), .int .i64 (X.mark : Int), .slice pa X.ks.length ca] 44 (0, 0))) := fun S W hW hS => by
    have h1 := (hg3.out.block b (lt_of_heap HB2.out) (by simp)).trans HB2.out
    exact (hW.block b (lt_of_heap h1) (fun hm => by have := hS b hm; omega)).trans h1
  have HSt : Hid (∀ S W, Fr S w3 W → (∀ g ∈ S, g < bo) → Sat W (.slice pa X.ks.length ca) X.ks) := fun S W hW hS => HSP.out S W (((H2U.out.trans hg3.out (by simp)).mono (by simp)).trans hW (fun g hg => .inl hg)) (fun g hg => by have := hS g hg; omega)
  have HMt : Hid (∀ S W, Fr S w3 W → (∀ g ∈ S, g < bo) → Rd W (.slice pm m.length cm) (zs m)) := fun S W hW hS => (hpm.out.keep hW (fun g hg hm => by
    have h3 := (World.ownsRow.lt hpm.out g hg).1
    have h4 := hS g hm
    have h5 := H1U.out.size
    omega)).rd hml
  obtain ⟨o0, o1, o2, o3, o4, o5⟩ : w3.cell? ⟨bo, 0, none⟩ = some (.int .i64 12) ∧ w3.cell? ⟨bo, 1, none⟩ = some (.int .i64 On) ∧ w3.cell? ⟨bo, 2, none⟩ = some (.int .i64 A) ∧ w3.cell? ⟨bo, 3, none⟩ = some (.int .i64 B) ∧ w3.cell? ⟨bo, 4, none⟩ = some (.int .i64 C) ∧ w3.cell? ⟨bo, 5, none⟩ = some (.slice po ss.length co) := by
    have h1 := HBo.out [] w3 (Fr.refl _ _) (by simp)
    refine ⟨?_, ?_, ?_, ?_, ?_, ?_⟩ <;> (rw [cell_in h1]; rfl)
  have hR3 : Hid (Fr [] w3 w3) := Fr.refl _ _
  clear HLi HCl2 HPU HPV HSA HB2 H1U H2U HSP HBV hR
  obtain ⟨kk, hk1, hk2⟩ : ∃ kk : Nat, (smN A : Int) % 6 = (kk : Int) ∧ kk ≤ 5 := ⟨smN A % 6, by omega, by omega⟩
  have hk3 : (smN A : Int).tmod 6 = (kk : Int) := by rw [Int.tmod_eq_emod_of_nonneg (by omega)]; exact hk1
  have hsA := smN_le A
  obtain ⟨-, -, -, t3, -, -⟩ := HP3.out.pw.cells
  have fz := frozen_in HP3.out.pw.told 3
  have HP4 := mkHid (HP3.out.pw.setMark kk)
  have HH4 := mkHid (sHeap_same HP4.out.spc)
  have HM4 := mkHid (smark_ok HP4.out.spc kk (by omega))
  clear HBo HBb HSt HMt HLs
  go_wp2_with (first
    | (go_at_call 10; refine Calls.mono (small_ok A _) ?_; rintro e w' ⟨rfl, hw'⟩; rw [hw']; clear hw' w')
    | (go_at_call 12; refine Calls.mono HH4.out ?_; rintro e w' ⟨rfl, hw'⟩; rw [hw']; clear hw' w'))
  refine Calls.mono HM4.out ?_
  rintro e w5 ⟨rfl, hsp5, hx5⟩
  have HZ : Hid (Ps w0 s a t (n + 1) w5) := ⟨l, kv, _, ⟨HP4.out.nx hsp5 rfl rfl HP3.out.pw.br rfl hx5, HP3.out.root, HP3.out.good, by have := HP3.out.age; show X.H.age ≤ n + 1; omega, HP3.out.oops, HP3.out.words⟩⟩
  clear hsp5 hx5 HM4 HH4 HP4 HP3
  go_wp2_with (go_at_call 11; refine Calls.mono (num_any _ _ (by omega) (by omega)) ?_; rintro e w' ⟨rfl, hw'⟩; rw [hw']; clear hw' w')
  go_ret
  exact ⟨rfl, HZ.out⟩
end Go.Proofs.YtkmjimdaimbdfaaDoor
namespace Go.Proofs.YtkmjimdaimbdfaaDoor
open Go.RowKit Go.Maps
set_option linter.unusedVariables false
set_option linter.unusedSimpArgs false
attribute [local go_sem ↓] Go.wp_at_zero Go.wp_at_succ
set_option maxRecDepth 20000 in
set_option maxHeartbeats 8000000 in
theorem step_put {w0 w : World} {s a t : Nat} {l : Lay} {kv : Value} {X : SpS} {n : Nat} (P : Pl w0 w s a t l kv X n) (hn : n ≤ 999) (On A B C : Int) (po : Option Addr) (co : Nat) (ss : List Int) (hls : Rd w0 (.slice po ss.length co) ss) (hA : -9223372036854775808 ≤ A ∧ A ≤ 9223372036854775807) (hB : -9223372036854775808 ≤ B ∧ B ≤ 9223372036854775807) :
    Calls Tryd.prog 7 #[.pointer (some ⟨t, 0, none⟩), .pointer (some ⟨s, 0, none⟩), .agg #[.int .i64 13, .int .i64 On, .int .i64 A, .int .i64 B, .int .i64 C, .slice po ss.length co]] w fun e w' => e = .returned (.bool true) ∧ Ps w0 s a t (n + 1) w' := by
  have HP := mkHid P
  have HFt := mkHid P.pw.spc.rep.lt
  have HLs := mkHid hls
  have hoo := P.oops
  have hww := P.words
  have htw := lt_of_heap P.pw.told
  have hsw := lt_of_heap P.pw.spc.top
  have HSv : Hid (∀ g, X.sv.ownBlock = some g → g < w.heap.size) := fun g hg => (P.pw.spc.stk.lt g hg).2
  obtain ⟨pk, ck, hkv, -⟩ := P.pw.kept.at_
  have HKv := mkHid hkv
  clear P hls hkv
  go_enter Tryd.func7, Tryd.ntmps7
  go_wp2_with fail
  obtain ⟨V, hV⟩ : ∃ V, (w.alloc (.cells #[.int .i64 13, .int .i64 On, .int .i64 A, .int .i64 B, .int .i64 C, .slice po ss.length co] 31)) = V := ⟨_, rfl⟩
  rw [hV]
  have hfV : Fr [] w V := by rw [← hV]; exact (Fr.alloc [] _ _)
  have hbV : V.heap[w.heap.size]? = some (.cells #[.int .i64 13, .int .i64 On, .int .i64 A, .int .i64 B, .int .i64 C, .slice po ss.length co] 31 (0, 0)) := by
    rw [← hV]; exact heap_alloc_new _ _
  obtain ⟨bo, hbo⟩ : ∃ bo, w.heap.size = bo := ⟨_, rfl⟩
  rw [hbo] at hbV htw hsw HFt HSv ⊢
  have HBV := mkHid hbV
  have HPV := mkHid (HP.out.idle hfV)
  have hVs : bo < V.heap.size := lt_of_heap hbV
  clear hV hfV hbV HP hbo
  refine Calls.mono (sHeap_same HPV.out.pw.spc) ?_
  rintro e w1 ⟨rfl, rfl⟩
  go_wp2_with fail
  refine Calls.mono (sstateP_ok HPV.out.pw.spc) ?_
  rintro e w2 ⟨pa, ca, rfl, hsatP, hf2⟩
  have hsat := hsatP [] w2 (Fr.refl _ _) (by simp)
  have HSP := mkHid hsatP
  obtain ⟨U, hU⟩ : ∃ U, (w2.alloc (.cells #[.int .i64 (X.words : Int), .int .i64 (X.oops : Int), .int .i64 (X.mark : Int), .slice pa X.ks.length ca] 44)) = U := ⟨_, rfl⟩
  have fU : Fr [] w2 U := by rw [← hU]; exact (Fr.alloc [] _ _)
  have hb2 : U.heap[w2.heap.size]? = some (.cells #[.int .i64 (X.words : Int), .int .i64 (X.oops : Int), .int .i64 (X.mark : Int), .slice pa X.ks.length ca] 44 (0, 0)) := by
    rw [← hU]; exact heap_alloc_new _ _
  have HPU := mkHid (HPV.out.idle (hf2.trans fU (by simp)))
  have H1U := mkHid (hf2.trans fU (by simp))
  have HSA := mkHid (hsat.idle fU)
  have H2U := mkHid fU
  have hks := hsat.short
  have hsz2 := hf2.size
  obtain ⟨b, hb⟩ : ∃ b, w2.heap.size = b := ⟨_, rfl⟩
  have hbge : w1.heap.size ≤ b := by omega
  rw [hb] at hb2
  have HB2 := mkHid hb2
  have HUe := mkHid hU
  have HBe := mkHid hb
  have HCl2 : Hid (∀ W, Hid (Fr [] U W) → ((W.cell? ⟨b, 0, none⟩ = some (.int .i64 (X.words : Int)) ∧ W.cell? ⟨b, 1, none⟩ = some (.int .i64 (X.oops : Int)) ∧ W.cell? ⟨b, 2, none⟩ = some (.int .i64 (X.mark : Int)) ∧ W.cell? ⟨b, 3, none⟩ = some (.slice pa X.ks.length ca)) ∧ W.cell? ⟨t, 2, none⟩ = some (.int .i64 X.root) ∧ W.cell? ⟨t, 4, none⟩ = some (.slice pk X.st.length ck))) := fun W hW => by
    have e3 := (hW.out.block _ (lt_of_heap HB2.out) (by simp)).trans HB2.out
    obtain ⟨t0, t1, t2, t3, t4, t5⟩ := (HPU.out.idle hW.out).pw.cells
    rw [HKv.out] at t4
    exact ⟨⟨by rw [cell_in e3]; rfl, by rw [cell_in e3]; rfl, by rw [cell_in e3]; rfl, by rw [cell_in e3]; rfl⟩, t2, t4⟩
  have HLi : Hid (∀ W, Hid (Fr [] U W) → Calls Tryd.prog 27 #[.agg #[.int .i64 (X.words : Int), .int .i64 (X.oops : Int), .int .i64 (X.mark : Int), .slice pa X.ks.length ca], .int .i64 X.root, .slice pk X.st.length ck] W fun e w' => ∃ pm cm m, e = .returned (.slice pm m.length cm) ∧ Hid (LvE X.ks (rts X.root X.st) m) ∧ Hid (Pls w' U.heap.size (.slice pm m.length cm) m) ∧ Hid (Fr [] U w')) := fun W hW => by
    have hk := (HPU.out.idle hW.out).pw.kept
    rw [HKv.out] at hk
    refine (live_k X.ks X.root X.words X.oops X.mark (.slice pa X.ks.length ca) (.slice pk X.st.length ck) X.st W (HSA.out.idle hW.out) hk HPV.out.rootAt).mono ?_
    rintro e w' ⟨v, m, rfl, q1, q2, q3⟩
    obtain ⟨pm, cm, rfl⟩ := row_is q2
    exact ⟨pm, cm, m, rfl, q1, own_base q2 hW.out.size, hW.out.trans q3 (by simp)⟩
  have hR : Hid (Fr [] U U) := Fr.refl _ _
  clear hsat hsatP hf2 fU hb2 hU hb
  go_wp2_with fail
  rw [HUe.out, HBe.out]
  clear HUe HBe
  go_region_held3 (fun W => ((W.cell? ⟨b, 0, none⟩ = some (.int .i64 (X.words : Int)) ∧ W.cell? ⟨b, 1, none⟩ = some (.int .i64 (X.oops : Int)) ∧ W.cell? ⟨b, 2, none⟩ = some (.int .i64 (X.mark : Int)) ∧ W.cell? ⟨b, 3, none⟩ = some (.slice pa X.ks.length ca)) ∧ W.cell? ⟨t, 2, none⟩ = some (.int .i64 X.root) ∧ W.cell? ⟨t, 4, none⟩ = some (.slice pk X.st.length ck)))
    (first
      | exact HCl2.out _ (hid_drew hR)
      | exact HCl2.out _ hR
      | exact HCl2.out _ hg3)
    (first | (go_at_call 27; refine (HLi.out _ (hid_drew hR)).mono ?_; rintro e w3 ⟨pm, cm, m, rfl, hlv, hpm, hg3⟩))
  have HP3 := mkHid (HPU.out.idle hg3.out)
  have hml : m.length ≤ 65538 := addP_len hlv.out hks
  have HBo : Hid (∀ S W, Fr S w3 W → (∀ g ∈ S, g < bo) → W.heap[bo]? = some (.cells #[.int .i64 13, .int .i64 On, .int .i64 A, .int .i64 B, .int .i64 C, .slice po ss.length co] 31 (0, 0))) := fun S W hW hS => by
    have h1 := ((H1U.out.trans hg3.out (by simp)).block bo hVs (by simp)).trans HBV.out
    exact (hW.block bo (lt_of_heap h1) (fun hm => by have := hS bo hm; omega)).trans h1
  have HBb : Hid (∀ S W, Fr S w3 W → (∀ g ∈ S, g < bo) → W.heap[b]? = some (.cells #[.int .i64 (X.words : Int), .int .i64 (X.oops : Int), .int .i64 (X.mark : Int), .slice pa X.ks.length ca] 44 (0, 0))) := fun S W hW hS => by
    have h1 := (hg3.out.block b (lt_of_heap HB2.out) (by simp)).trans HB2.out
    exact (hW.block b (lt_of_heap h1) (fun hm => by have := hS b hm; omega)).trans h1
  have HSt : Hid (∀ S W, Fr S w3 W → (∀ g ∈ S, g < bo) → Sat W (.slice pa X.ks.length ca) X.ks) := fun S W hW hS => HSP.out S W (((H2U.out.trans hg3.out (by simp)).mono (by simp)).trans hW (fun g hg => .inl hg)) (fun g hg => by have := hS g hg; omega)
  have HMt : Hid (∀ S W, Fr S w3 W → (∀ g ∈ S, g < bo) → Rd W (.slice pm m.length cm) (zs m)) := fun S W hW hS => (hpm.out.keep hW (fun g hg hm => by
    have h3 := (World.ownsRow.lt hpm.out g hg).1
    have h4 := hS g hm
    have h5 := H1U.out.size
    omega)).rd hml
  obtain ⟨o0, o1, o2, o3, o4, o5⟩ : w3.cell? ⟨bo, 0, none⟩ = some (.int .i64 13) ∧ w3.cell? ⟨bo, 1, none⟩ = some (.int .i64 On) ∧ w3.cell? ⟨bo, 2, none⟩ = some (.int .i64 A) ∧ w3.cell? ⟨bo, 3, none⟩ = some (.int .i64 B) ∧ w3.cell? ⟨bo, 4, none⟩ = some (.int .i64 C) ∧ w3.cell? ⟨bo, 5, none⟩ = some (.slice po ss.length co) := by
    have h1 := HBo.out [] w3 (Fr.refl _ _) (by simp)
    refine ⟨?_, ?_, ?_, ?_, ?_, ?_⟩ <;> (rw [cell_in h1]; rfl)
  have hR3 : Hid (Fr [] w3 w3) := Fr.refl _ _
  clear HLi HCl2 HPU HPV HSA HB2 H1U H2U HSP HBV hR
  have HCl : Hid (∀ S W, Fr S w3 W → (∀ g ∈ S, g < bo) → W.cell? ⟨bo, 2, none⟩ = some (.int .i64 A) ∧ W.cell? ⟨bo, 3, none⟩ = some (.int .i64 B) ∧ W.cell? ⟨bo, 4, none⟩ = some (.int .i64 C)) := fun S W hW hS => by
    have h1 := HBo.out S W hW hS
    refine ⟨?_, ?_, ?_⟩ <;> (rw [cell_in h1]; rfl)
  have HHp : Hid (∀ W, Hid (Fr [] w3 W) → Calls Tryd.prog 12 #[.pointer (some ⟨s, 0, none⟩)] W fun e w' => e = .returned (.pointer (some ⟨a, 0, none⟩)) ∧ w' = W) := fun W hW => sHeap_same (HP3.out.idle hW.out).pw.spc
  have HPt : Hid (∀ W, Hid (Fr [] w3 W) → Calls Tryd.prog 40 #[.pointer (some ⟨a, 0, none⟩), .int .i64 A, .int .i64 B, .int .i64 C] W fun e w' => ∃ E : Int, e = .returned (.int .i64 E) ∧ Hid (Ps w0 s a t (n + 1) w') ∧ Hid (Fr (foot a l) w3 w')) := fun W hW => by
    have hPW := HP3.out.idle hW.out
    refine (sput_ok hPW.pw.spc A B C hPW.pw.tabs.1).mono ?_
    rintro e w' ⟨E, ks', H', M', rfl, h1, h2, h3, h4⟩
    refine ⟨E, rfl, ⟨l, kv, { X with ks := ks', H := H', M := M' }, ⟨hPW.pw.nx h2 rfl rfl hPW.pw.br rfl h4, ?_, h1.good HP3.out.good, by have := HP3.out.age; show H'.age ≤ n + 1; omega, HP3.out.oops, HP3.out.words⟩⟩, (hW.out.mono (by simp)).trans h4.1 (fun g hg => .inl hg)⟩
    rcases HP3.out.root with e | e
    · exact .inl e
    · exact .inr (by show hasK ks' X.root = true; rw [h1.has]; exact e)
  clear HBb HSt HMt HLs HBo
  go_wp2_with fail
  go_region_held3 (fun W => W.cell? ⟨bo, 2, none⟩ = some (.int .i64 A) ∧ W.cell? ⟨bo, 3, none⟩ = some (.int .i64 B) ∧ W.cell? ⟨bo, 4, none⟩ = some (.int .i64 C))
    (first
      | exact HCl.out [] _ (hid_drew hR3).out (by simp)
      | exact HCl.out [] _ hR3.out (by simp)
      | exact HCl.out _ _ hg5.out HFt.out)
    (first
      | (go_at_call 12; refine (HHp.out _ (hid_drew hR3)).mono ?_; rintro e w' ⟨rfl, hw'⟩; rw [hw']; clear hw' w')
      | (go_at_call 40; refine (HPt.out _ (hid_drew hR3)).mono ?_; rintro e w5 ⟨E, rfl, hg4, hg5⟩))
  all_goals go_wp2_with fail
  all_goals
    go_ret
    exact ⟨rfl, hg4.out⟩
end Go.Proofs.YtkmjimdaimbdfaaDoor
