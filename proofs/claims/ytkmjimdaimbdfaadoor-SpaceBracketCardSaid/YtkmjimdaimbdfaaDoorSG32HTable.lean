import Derived.Test.YtkmjimdaimbdfaaDoorSG28VAliv
import Derived.Deep.RegionHeld3
import Derived.BigQuiet
import Derived.BigRegion
import Derived.Test.YtkmjimdaimbdfaaDoorSVRight
import Derived.Test.YtkmjimdaimbdfaaDoorSG30VSput
import Derived.Test.YtkmjimdaimbdfaaDoorSG31VSlink
import Derived.WalkKit
import Derived.OpenShut
import Derived.LaidMore
import Derived.SizedLaws
import Derived.Deep.Slices
import Derived.ChangeSlices
import Derived.FnData
namespace Go.Proofs.YtkmjimdaimbdfaaDoor
open Go.RowKit Go.Maps
set_option linter.unusedVariables false
set_option linter.unusedSimpArgs false
attribute [local go_sem ↓] Go.wp_at_zero Go.wp_at_succ
set_option maxRecDepth 20000 in
set_option maxHeartbeats 8000000 in
theorem step_collect {w0 w : World} {s a t : Nat} {l : Lay} {kv : Value} {X : SpS} {n : Nat} (P : Pl w0 w s a t l kv X n) (hn : n ≤ 999) (On A B C : Int) (po : Option Addr) (co : Nat) (ss : List Int) (hls : Rd w0 (.slice po ss.length co) ss) (hA : -9223372036854775808 ≤ A ∧ A ≤ 9223372036854775807) (hB : -9223372036854775808 ≤ B ∧ B ≤ 9223372036854775807) :
    Calls Tryd.prog 7 #[.pointer (some ⟨t, 0, none⟩), .pointer (some ⟨s, 0, none⟩), .agg #[.int .i64 8, .int .i64 On, .int .i64 A, .int .i64 B, .int .i64 C, .slice po ss.length co]] w fun e w' => e = .returned (.bool true) ∧ Ps w0 s a t (n + 1) w' := by
  have HP := mkHid P
  have HFt := mkHid P.pw.spc.rep.lt
  have HLs := mkHid hls
  have hoo := P.oops
  have hww := P.words
  have htw := lt_of_heap P.pw.told
  have hsw := lt_of_heap P.pw.spc.top
  have HSv : Hid (∀ g, X.sv.ownBlock = some g → g < w.heap.size) := fun g hg => (P.pw.spc.stk.lt g hg).2
  obtain ⟨pk, ck, hkv, -⟩ := P.pw.kept.at_
  have HKv := mkHid hkv
  clear P hls hkv
  go_enter Tryd.func7, Tryd.ntmps7
  go_wp2_with fail
  obtain ⟨V, hV⟩ : ∃ V, (w.alloc (.cells #[.int .i64 8, .int .i64 On, .int .i64 A, .int .i64 B, .int .i64 C, .slice po ss.length co] 31)) = V := ⟨_, rfl⟩
  rw [hV]
  have hfV : Fr [] w V := by rw [← hV]; exact (Fr.alloc [] _ _)
  have hbV : V.heap[w.heap.size]? = some (.cells #[.int .i64 8, .int .i64 On, .int .i64 A, .int .i64 B, .int .i64 C, .slice po ss.length co] 31 (0, 0)) := by
    rw [← hV]; exact heap_alloc_new _ _
  obtain ⟨bo, hbo⟩ : ∃ bo, w.heap.size = bo := ⟨_, rfl⟩
  rw [hbo] at hbV htw hsw HFt HSv ⊢
  have HBV := mkHid hbV
  have HPV := mkHid (HP.out.idle hfV)
  have hVs : bo < V.heap.size := lt_of_heap hbV
  clear hV hfV hbV HP hbo
  refine Calls.mono (sHeap_same HPV.out.pw.spc) ?_
  rintro e w1 ⟨rfl, rfl⟩
  go_wp2_with fail
  refine Calls.mono (sstateP_ok HPV.out.pw.spc) ?_
  rintro e w2 ⟨pa, ca, rfl, hsatP, hf2⟩
  have hsat := hsatP [] w2 (Fr.refl _ _) (by simp)
  have HSP := mkHid hsatP
  obtain ⟨U, hU⟩ : ∃ U, (w2.alloc (.cells #[.int .i64 (X.words : Int), .int .i64 (X.oops : Int), .int .i64 (X.mark : Int), .slice pa X.ks.length ca] 44)) = U := ⟨_, rfl⟩
  have fU : Fr [] w2 U := by rw [← hU]; exact (Fr.alloc [] _ _)
  have hb2 : U.heap[w2.heap.size]? = some (.cells #[.int .i64 (X.words : Int), .int .i64 (X.oops : Int), .int .i64 (X.mark : Int), .slice pa X.ks.length ca] 44 (0, 0)) := by
    rw [← hU]; exact heap_alloc_new _ _
  have HPU := mkHid (HPV.out.idle (hf2.trans fU (by simp)))
  have H1U := mkHid (hf2.trans fU (by simp))
  have HSA := mkHid (hsat.idle fU)
  have H2U := mkHid fU
  have hks := hsat.short
  have hsz2 := hf2.size
  obtain ⟨b, hb⟩ : ∃ b, w2.heap.size = b := ⟨_, rfl⟩
  have hbge : w1.heap.size ≤ b := by omega
  rw [hb] at hb2
  have HB2 := mkHid hb2
  have HUe := mkHid hU
  have HBe := mkHid hb
  have HCl2 : Hid (∀ W, Hid (Fr [] U W) → ((W.cell? ⟨b, 0, none⟩ = some (.int .i64 (X.words : Int)) ∧ W.cell? ⟨b, 1, none⟩ = some (.int .i64 (X.oops : Int)) ∧ W.cell? ⟨b, 2, none⟩ = some (.int .i64 (X.mark : Int)) ∧ W.cell? ⟨b, 3, none⟩ = some (.slice pa X.ks.length ca)) ∧ W.cell? ⟨t, 2, none⟩ = some (.int .i64 X.root) ∧ W.cell? ⟨t, 4, none⟩ = some (.slice pk X.st.length ck))) := fun W hW => by
    have e3 := (hW.out.block _ (lt_of_heap HB2.out) (by simp)).trans HB2.out
    obtain ⟨t0, t1, t2, t3, t4, t5⟩ := (HPU.out.idle hW.out).pw.cells
    rw [HKv.out] at t4
    exact ⟨⟨by rw [cell_in e3]; rfl, by rw [cell_in e3]; rfl, by rw [cell_in e3]; rfl, by rw [cell_in e3]; rfl⟩, t2, t4⟩
  have HLi : Hid (∀ W, Hid (Fr [] U W) → Calls Tryd.prog 27 #[.agg #[.int .i64 (X.words : Int), .int .i64 (X.oops : Int), .int .i64 (X.mark : Int), .slice pa X.ks.length ca], .int .i64 X.root, .slice pk X.st.length ck] W fun e w' => ∃ pm cm m, e = .returned (.slice pm m.length cm) ∧ Hid (LvE X.ks (rts X.root X.st) m) ∧ Hid (Pls w' U.heap.size (.slice pm m.length cm) m) ∧ Hid (Fr [] U w')) := fun W hW => by
    have hk := (HPU.out.idle hW.out).pw.kept
    rw [HKv.out] at hk
    refine (live_k X.ks X.root X.words X.oops X.mark (.slice pa X.ks.length ca) (.slice pk X.st.length ck) X.st W (HSA.out.idle hW.out) hk HPV.out.rootAt).mono ?_
    rintro e w' ⟨v, m, rfl, q1, q2, q3⟩
    obtain ⟨pm, cm, rfl⟩ := row_is q2
    exact ⟨pm, cm, m, rfl, q1, own_base q2 hW.out.size, hW.out.trans q3 (by simp)⟩
  have hR : Hid (Fr [] U U) := Fr.refl _ _
  clear hsat hsatP hf2 fU hb2 hU hb
  go_wp2_with fail
  rw [HUe.out, HBe.out]
  clear HUe HBe
  go_region_held3 (fun W => ((W.cell? ⟨b, 0, none⟩ = some (.int .i64 (X.words : Int)) ∧ W.cell? ⟨b, 1, none⟩ = some (.int .i64 (X.oops : Int)) ∧ W.cell? ⟨b, 2, none⟩ = some (.int .i64 (X.mark : Int)) ∧ W.cell? ⟨b, 3, none⟩ = some (.slice pa X.ks.length ca)) ∧ W.cell? ⟨t, 2, none⟩ = some (.int .i64 X.root) ∧ W.cell? ⟨t, 4, none⟩ = some (.slice pk X.st.length ck)))
    (first
      | exact HCl2.out _ (hid_drew hR)
      | exact HCl2.out _ hR
      | exact HCl2.out _ hg3)
    (first | (go_at_call 27; refine (HLi.out _ (hid_drew hR)).mono ?_; rintro e w3 ⟨pm, cm, m, rfl, hlv, hpm, hg3⟩))
  have HP3 := mkHid (HPU.out.idle hg3.out)
  have hml : m.length ≤ 65538 := addP_len hlv.out hks
  have HBo : Hid (∀ S W, Fr S w3 W → (∀ g ∈ S, g < bo) → W.heap[bo]? = some (.cells #[.int .i64 8, .int .i64 On, .int .i64 A, .int .i64 B, .int .i64 C, .slice po ss.length co] 31 (0, 0))) := fun S W hW hS => by
    have h1 := ((H1U.out.trans hg3.out (by simp)).block bo hVs (by simp)).trans HBV.out
    exact (hW.block bo (lt_of_heap h1) (fun hm => by have := hS bo hm; omega)).trans h1
  have HBb : Hid (∀ S W, Fr S w3 W → (∀ g ∈ S, g < bo) → W.heap[b]? = some (.cells #[.int .i64 (X.words : Int), .int .i64 (X.oops : Int), .int .i64 (X.mark : Int), .slice pa X.ks.length ca] 44 (0, 0))) := fun S W hW hS => by
    have h1 := (hg3.out.block b (lt_of_heap HB2.out) (by simp)).trans HB2.out
    exact (hW.block b (lt_of_heap h1) (fun hm => by have := hS b hm; omega)).trans h1
  have HSt : Hid (∀ S W, Fr S w3 W → (∀ g ∈ S, g < bo) → Sat W (.slice pa X.ks.length ca) X.ks) := fun S W hW hS => HSP.out S W (((H2U.out.trans hg3.out (by simp)).mono (by simp)).trans hW (fun g hg => .inl hg)) (fun g hg => by have := hS g hg; omega)
  have HMt : Hid (∀ S W, Fr S w3 W → (∀ g ∈ S, g < bo) → Rd W (.slice pm m.length cm) (zs m)) := fun S W hW hS => (hpm.out.keep hW (fun g hg hm => by
    have h3 := (World.ownsRow.lt hpm.out g hg).1
    have h4 := hS g hm
    have h5 := H1U.out.size
    omega)).rd hml
  obtain ⟨o0, o1, o2, o3, o4, o5⟩ : w3.cell? ⟨bo, 0, none⟩ = some (.int .i64 8) ∧ w3.cell? ⟨bo, 1, none⟩ = some (.int .i64 On) ∧ w3.cell? ⟨bo, 2, none⟩ = some (.int .i64 A) ∧ w3.cell? ⟨bo, 3, none⟩ = some (.int .i64 B) ∧ w3.cell? ⟨bo, 4, none⟩ = some (.int .i64 C) ∧ w3.cell? ⟨bo, 5, none⟩ = some (.slice po ss.length co) := by
    have h1 := HBo.out [] w3 (Fr.refl _ _) (by simp)
    refine ⟨?_, ?_, ?_, ?_, ?_, ?_⟩ <;> (rw [cell_in h1]; rfl)
  have hR3 : Hid (Fr [] w3 w3) := Fr.refl _ _
  clear HLi HCl2 HPU HPV HSA HB2 H1U H2U HSP HBV hR
  obtain ⟨hT3, -, hT30, -⟩ := HP3.out.pw.tabs
  have HCo := mkHid (collect_ok HP3.out.pw.spc (by have := HP3.out.pw.stl; omega) HP3.out.rootIn (by have := HP3.out.age; omega) hT3 hT30)
  clear HLs hT3 hT30
  go_wp2_with fail
  refine Calls.mono HCo.out ?_
  rintro e w4 (⟨h1, -⟩ | ⟨-, st, H', M', hst, rfl, hsp4, hag, hx4⟩)
  · exact absurd HP3.out.pw.br h1
  have hls := HP3.out.pw.spc.ka.liveSum hst hlv.out (rts_mem X)
  have hlm := HP3.out.pw.spc.ka.liveMem hst hlv.out (rts_mem X)
  have hP4 : Pw w0 w4 s a t l kv { X with ks := keepK X.ks st, H := H', M := M' } X.root X.mark X.st := HP3.out.pw.nx hsp4 rfl rfl HP3.out.pw.br rfl hx4
  have hPl4 : Pl w0 w4 s a t l kv { X with ks := keepK X.ks st, H := H', M := M' } (n + 1) := by
    refine ⟨hP4, ?_, fun k hk => HP3.out.good k (keepK_mem.1 hk).1, by have := HP3.out.age; show H'.age ≤ n + 1; omega, hoo, hww⟩
    show X.root = 0 ∨ hasK (keepK X.ks st) X.root = true
    exact live_root hlv.out HP3.out.root HP3.out.rootIn hlm
  have HSs := mkHid HFt.out
  have h1 := HBb.out (foot a l) w4 hx4.1 HFt.out
  have HP4 := mkHid hPl4
  have HSa := mkHid (HSt.out (foot a l) w4 hx4.1 HFt.out)
  have HMa := mkHid (HMt.out (foot a l) w4 hx4.1 HFt.out)
  have HB4 := mkHid h1
  obtain ⟨-, -, -, -, -, t5⟩ := hP4.cells
  rw [← hls.1]
  have HLm := mkHid hlm
  have HLs := mkHid hls.1
  have HHp := mkHid (sHeap_same hsp4)
  obtain ⟨v0, v1, v2, v3⟩ : w4.cell? ⟨b, 0, none⟩ = some (.int .i64 (X.words : Int)) ∧ w4.cell? ⟨b, 1, none⟩ = some (.int .i64 (X.oops : Int)) ∧ w4.cell? ⟨b, 2, none⟩ = some (.int .i64 (X.mark : Int)) ∧ w4.cell? ⟨b, 3, none⟩ = some (.slice pa X.ks.length ca) := by
    refine ⟨?_, ?_, ?_, ?_⟩ <;> (rw [cell_in h1]; rfl)
  have hse := hsp4.ka.inv.told.seats
  have hlenA : (allTo H' H'.seats.length).length = m.length := by
    have h2 := hsp4.ka.inv.countAll
    have h3 := hsp4.ka.count
    rw [HLs.out]
    exact h2.trans h3
  have HAl : Hid (Calls Tryd.prog 17 #[.pointer (some ⟨a, 0, none⟩)] w4 fun e w' => ∃ pA cA, e = .returned (.slice pA m.length cA) ∧ Fr [] w4 w') := by
    refine (All_ok a l H' w4 hsp4.rep (by exact hse)).mono ?_
    rintro e w' ⟨v, rfl, hv, hf⟩
    obtain ⟨pA, cA, rfl⟩ := row_is hv
    rw [hlenA]
    exact ⟨pA, cA, rfl, hf⟩
  have hkl := HLs.out
  have hkk : m.length ≤ X.ks.length := by rw [hkl]; exact List.length_filter_le _ _
  clear hkl hls hlm hP4 hPl4 hsp4 hag hx4 hst HCo HBb HBo HSt HMt h1 hse hlenA HP3
  generalize endK X.ks - endK (keepK X.ks st) = ek at *
  go_wp2_with (first
    | (go_at_call 11; refine Calls.mono (num_any _ _ (by omega) (by omega)) ?_; rintro e w' ⟨rfl, hw'⟩; rw [hw']; clear hw' w')
    | (go_at_call 12; refine Calls.mono HHp.out ?_; rintro e w' ⟨rfl, hw'⟩; rw [hw']; clear hw' w')
    | fail)
  refine Calls.mono HAl.out ?_
  rintro e w5 ⟨pA, cA, rfl, hf5⟩
  have hb5 := (hf5.block b (lt_of_heap HB4.out) (by simp)).trans HB4.out
  obtain ⟨v0, v1, v2, v3⟩ : w5.cell? ⟨b, 0, none⟩ = some (.int .i64 (X.words : Int)) ∧ w5.cell? ⟨b, 1, none⟩ = some (.int .i64 (X.oops : Int)) ∧ w5.cell? ⟨b, 2, none⟩ = some (.int .i64 (X.mark : Int)) ∧ w5.cell? ⟨b, 3, none⟩ = some (.slice pa X.ks.length ca) := by
    refine ⟨?_, ?_, ?_, ?_⟩ <;> (rw [cell_in hb5]; rfl)
  have HUn := mkHid (untouched_k (HP4.out.idle hf5).pw.spc X.ks m X.words X.oops X.mark (.slice pa X.ks.length ca) (.slice pm m.length cm) (HSa.out.idle hf5) (HMa.out.idle hf5) (fun i hi => ⟨hlv.out.lt i hi, HLm.out i hi⟩))
  have HP5 := mkHid (HP4.out.idle hf5)
  clear hf5 hb5 HAl HB4 HSa HMa HP4
  go_wp2_with fail
  refine Calls.mono HUn.out ?_
  rintro e w6 ⟨rfl, hf6⟩
  have HZ : Hid (Ps w0 s a t (n + 1) w6) := ⟨l, kv, _, HP5.out.idle hf6⟩
  clear hf6 HUn HP5
  go_wp2_with fail
  go_ret
  exact ⟨rfl, HZ.out⟩
end Go.Proofs.YtkmjimdaimbdfaaDoor
namespace Go.Proofs.YtkmjimdaimbdfaaDoor
open Go.RowKit Go.Maps
set_option linter.unusedVariables false
set_option linter.unusedSimpArgs false
attribute [local go_sem ↓] Go.wp_at_zero Go.wp_at_succ
/-- a step, of whatever kind -/
theorem step_k {w0 w : World} {s a t : Nat} {l : Lay} {kv : Value} {X : SpS} {n : Nat} (P : Pl w0 w s a t l kv X n) (hn : n ≤ 999) (K On A B C : Int) (po : Option Addr) (co : Nat) (ss : List Int) (hls : Rd w0 (.slice po ss.length co) ss) (hA : -9223372036854775808 ≤ A ∧ A ≤ 9223372036854775807) (hB : -9223372036854775808 ≤ B ∧ B ≤ 9223372036854775807) :
    Calls Tryd.prog 7 #[.pointer (some ⟨t, 0, none⟩), .pointer (some ⟨s, 0, none⟩), .agg #[.int .i64 K, .int .i64 On, .int .i64 A, .int .i64 B, .int .i64 C, .slice po ss.length co]] w fun e w' => e = .returned (.bool true) ∧ Ps w0 s a t (n + 1) w' := by
  by_cases g1 : K = 1
  · subst g1; exact step_alloc P hn On A B C po co ss hls hA hB
  by_cases g2 : K = 2
  · subst g2; exact step_link P hn On A B C po co ss hls hA hB
  by_cases g3 : K = 3
  · subst g3; exact step_crown P hn On A B C po co ss hls hA hB
  by_cases g6 : K = 6
  · subst g6; exact step_keep P hn On A B C po co ss hls hA hB
  by_cases g7 : K = 7
  · subst g7; exact step_drop P hn On A B C po co ss hls hA hB
  by_cases g8 : K = 8
  · subst g8; exact step_collect P hn On A B C po co ss hls hA hB
  by_cases g12 : K = 12
  · subst g12; exact step_mark P hn On A B C po co ss hls hA hB
  by_cases g13 : K = 13
  · subst g13; exact step_put P hn On A B C po co ss hls hA hB
  exact step_else P hn K (by simpa using g1) (by simpa using g2) (by simpa using g3) (by simpa using g6) (by simpa using g7) (by simpa using g8) (by simpa using g12) (by simpa using g13) On A B C po co ss hls hA hB
set_option maxRecDepth 20000 in
set_option maxHeartbeats 4000000 in
/-- a new space, and what the law knows of it -/
theorem begun_k (n1 n2 : Int) (w : World) (hT : Tab w) (hT2 : Tab64 w) (h2 : 2 ≤ w.heap.size) :
    Calls Tryd.prog 6 #[.int .i64 n1, .int .i64 n2] w fun e w' => ∃ s a t X, e = .returned (.tuple #[.pointer (some ⟨s, 0, none⟩), .pointer (some ⟨t, 0, none⟩), .bool true]) ∧ X.words = smN n1 ∧ X.oops = smN n2 % 64 ∧ Pl w w' s a t nilLay (.slice none 0 0) X 0 := by
  have hs1 := smN_le n1
  have hs2 := smN_le n2
  obtain ⟨r1, e1⟩ : ∃ r1, smN n1 = r1 := ⟨_, rfl⟩
  obtain ⟨r2, e2⟩ : ∃ r2, smN n2 = r2 := ⟨_, rfl⟩
  have HM1 := mkHid (fun W => small_ok n1 W)
  have HM2 := mkHid (fun W => small_ok n2 W)
  have HE1 := mkHid e1
  have HE2 := mkHid e2
  rw [e1] at HM1 hs1
  rw [e2] at HM2 hs2
  clear e1 e2
  obtain ⟨r3, hr3, hr4⟩ : ∃ r3 : Nat, (r2 : Int) % 64 = (r3 : Int) ∧ r3 ≤ 63 := ⟨r2 % 64, by omega, by omega⟩
  have HR3 : Hid (r3 = r2 % 64) := by show r3 = r2 % 64; omega
  have hr5 : (r2 : Int).tmod 64 = (r3 : Int) := by rw [Int.tmod_eq_emod_of_nonneg (by omega)]; exact hr3
  obtain ⟨V, hV⟩ : ∃ V, (w.alloc (.cells #[.int .i64 (r1 : Int), .int .i64 (r3 : Int), .int .i64 0, .int .i64 0, .slice none 0 0, .bool false] 63)) = V := ⟨_, rfl⟩
  have hfV : Fr [] w V := by rw [← hV]; exact (Fr.alloc [] _ _)
  have hbV : V.heap[w.heap.size]? = some (.cells #[.int .i64 (r1 : Int), .int .i64 (r3 : Int), .int .i64 0, .int .i64 0, .slice none 0 0, .bool false] 63 (0, 0)) := by
    rw [← hV]; exact heap_alloc_new _ _
  obtain ⟨t, ht⟩ : ∃ t, w.heap.size = t := ⟨_, rfl⟩
  have hVs : V.heap.size = t + 1 := by rw [← hV, ← ht]; simp
  rw [ht] at hbV
  have HVe := mkHid hV
  have HTe := mkHid ht
  have HBV := mkHid hbV
  have HFV := mkHid hfV
  have HCl : Hid (∀ W, Hid (Fr [] V W) → W.cell? ⟨t, 0, none⟩ = some (.int .i64 (r1 : Int)) ∧ W.cell? ⟨t, 1, none⟩ = some (.int .i64 (r3 : Int))) := fun W hW => by
    have e3 := (hW.out.block _ (lt_of_heap HBV.out) (by simp)).trans HBV.out
    refine ⟨?_, ?_⟩ <;> (rw [cell_in e3]; rfl)
  have HNw : Hid (∀ W, Hid (Fr [] V W) → Calls Tryd.prog 32 #[.int .i64 (r1 : Int), .int .i64 (r3 : Int)] W fun e w' => ∃ s, e = .returned (.tuple #[.pointer (some ⟨s, 0, none⟩), .int .i64 0]) ∧ Hid (∃ a, Pl w w' s a t nilLay (.slice none 0 0) (sp0 r1 r3) 0) ∧ Hid (Fr [] V w')) := fun W hW => by
    refine (sNew_ok r1 r3 W (by omega) (by omega)).mono ?_
    rintro e w' ⟨s, rfl, hsp, hs, hf⟩
    have hVW := hW.out.size
    have hF : Fr [] V w' := hW.out.trans hf (by simp)
    have hfoot : foot W.heap.size nilLay = [W.heap.size] := by simp [foot, Lay.blocks, nilLay, blk]
    refine ⟨s, rfl, ⟨W.heap.size, ⟨⟨hsp, rfl, ?_, ⟨⟨none, 0, rfl, fun h => by simp [sp0] at h⟩, fun c hc => by injection hc with _ _ e; exact e.symm, by simp [sp0]⟩, by simp [sp0], ⟨?_, ?_, ?_⟩, fun hp => by simp [sp0] at hp, HFV.out.trans hF (by simp), fun b hb => ?_, ?_, ?_, ?_, h2, hT, hT2, fun p k c e => ?_⟩, .inl rfl, fun k hk => by simp [sp0] at hk, ?_, hr4, hs1⟩⟩, hF⟩
    · exact (hF.block t (lt_of_heap HBV.out) (by simp)).trans HBV.out
    · rw [hfoot]; simp; omega
    · omega
    · simp [sp0, Value.ownBlock]
    · rw [hfoot] at hb
      have e : b = W.heap.size := by simpa using hb
      omega
    · omega
    · omega
    · intro g hg; simp [sp0, Value.ownBlock] at hg
    · injection e with e1 e2 e3; omega
    · show (emptyH r1 r3).age ≤ 0
      exact Nat.le_refl _
  have hR : Hid (Fr [] V V) := Fr.refl _ _
  clear hV ht hbV hfV
  go_enter Tryd.func6, Tryd.ntmps6
  go_wp2_with (first
    | (go_at_call 10; refine Calls.mono (HM1.out _) ?_; rintro e w' ⟨rfl, hw'⟩; rw [hw']; clear hw' w')
    | (go_at_call 10; refine Calls.mono (HM2.out _) ?_; rintro e w' ⟨rfl, hw'⟩; rw [hw']; clear hw' w')
    | fail)
  rw [HVe.out, HTe.out]
  clear HVe
  go_region_held3 (fun W => W.cell? ⟨t, 0, none⟩ = some (.int .i64 (r1 : Int)) ∧ W.cell? ⟨t, 1, none⟩ = some (.int .i64 (r3 : Int)))
    (first
      | exact HCl.out _ (hid_drew hR)
      | exact HCl.out _ hR
      | exact HCl.out _ hg2)
    (first | (go_at_call 32; refine (HNw.out _ (hid_drew hR)).mono ?_; rintro e w2 ⟨s, rfl, hp2, hg2⟩))
  all_goals
    have hFw2 : Hid (Fr [] w w2) := HFV.out.trans hg2.out (by simp)
    have HAl := mkHid (alive_s w2 (hT.fr hFw2.out (by omega)) (hT2.keep hFw2.out (by omega) (by simp)) (by have := hFw2.out.size; omega))
    clear HCl HNw hT hT2
    go_wp2_with (first
      | (go_at_call 11; refine Calls.mono (num_any _ _ (by omega) (by omega)) ?_; rintro e w' ⟨rfl, hw'⟩; rw [hw']; clear hw' w')
      | fail)
    refine Calls.mono HAl.out ?_
    rintro e w3 ⟨rfl, hf3⟩
    have HZ : Hid (∃ a, Pl w w3 s a t nilLay (.slice none 0 0) (sp0 r1 r3) 0) := by
      obtain ⟨a, h⟩ := hp2.out
      exact ⟨a, h.idle hf3⟩
    clear hf3 HAl
    go_wp2_with fail
    refine bodyPost_ret (results_tmp3 rfl _ _ _) rfl ?_
    obtain ⟨a, hz⟩ := HZ.out
    exact ⟨s, a, t, _, rfl, by rw [HE1.out]; rfl, by rw [HE2.out]; exact HR3.out, hz⟩
end Go.Proofs.YtkmjimdaimbdfaaDoor
namespace Go.Proofs.YtkmjimdaimbdfaaDoor
open Go.RowKit Go.Maps
set_option linter.unusedVariables false
set_option linter.unusedSimpArgs false
attribute [local go_sem ↓] Go.wp_at_zero Go.wp_at_succ
/-- the step at i, as it lies in old memory -/
def StepAt (w0 : World) (b off i : Nat) : Prop := ∃ (K O A B C : Int) (po : Option Addr) (co : Nat) (ss : List Int),
  w0.cell? ⟨b, off + i * 6, none⟩ = some (.int .i64 K) ∧ w0.cell? ⟨b, off + i * 6 + 1, none⟩ = some (.int .i64 O) ∧ w0.cell? ⟨b, off + i * 6 + 2, none⟩ = some (.int .i64 A) ∧ w0.cell? ⟨b, off + i * 6 + 3, none⟩ = some (.int .i64 B) ∧
  w0.cell? ⟨b, off + i * 6 + 4, none⟩ = some (.int .i64 C) ∧ w0.cell? ⟨b, off + i * 6 + 5, none⟩ = some (.slice po ss.length co) ∧ Rd w0 (.slice po ss.length co) ss ∧ (-9223372036854775808 ≤ A ∧ A ≤ 9223372036854775807) ∧ (-9223372036854775808 ≤ B ∧ B ≤ 9223372036854775807)
set_option maxRecDepth 20000 in
set_option maxHeartbeats 4000000 in
theorem truly_any (n1 n2 : Int) (ao : Option Addr) (b off sz c : Nat) (w : World) (hT : Tab w) (hT2 : Tab64 w) (h2 : 2 ≤ w.heap.size) (hao : 0 < sz → ao = some ⟨b, off, none⟩)
    (hb : 0 < sz → b < w.heap.size) (hsz : (sz : Int) ≤ 9223372036854775807) (hst : ∀ i, i < sz → StepAt w b off i) :
    Calls Tryd.prog 3 #[.int .i64 n1, .int .i64 n2, .slice ao sz c] w fun e w' => e = .returned (.bool true) ∧ Fr [] w w' := by
  have HT := mkHid hT
  have HT2 := mkHid hT2
  have HST := mkHid hst
  have HBg := mkHid (begun_k n1 n2 w hT hT2 h2)
  clear hT hT2 hst
  go_enter Tryd.func3, Tryd.ntmps3
  go_wp2_with fail
  refine Calls.mono HBg.out ?_
  rintro e w1 ⟨s, a, t, X, rfl, -, -, hP⟩
  have HS1 : Hid (Ps w s a t 0 w1) := ⟨nilLay, .slice none 0 0, X, hP⟩
  clear hP HBg
  go_wp2_with fail
  go_loopw [10] (fun q wr => ∃ k : Nat, k ≤ 300 ∧ k ≤ sz ∧ q = .int .i64 k ∧ Hid (Ps w s a t k wr)) (fun q _ => 300 - (intOf q).toNat)
  case atStart => exact ⟨0, by omega, by omega, rfl, HS1⟩
  case round =>
    clear HS1
    obtain ⟨k, hk1, hk2, rfl, hq⟩ := hrel
    obtain ⟨l, kv, Y, hP⟩ := hq.out
    have hfr := hP.pw.fr
    by_cases hc : k < sz ∧ k < 300
    · obtain ⟨hc1, hc2⟩ := hc
      have hao' := hao (by omega)
      subst hao'
      have hb := hb (by omega)
      clear hao
      obtain ⟨K, O, A, B, C, po, co, ss, s0, s1, s2, s3, s4, s5, hls, hA, hB⟩ := HST.out k hc1
      have g0 := (hfr.cell (p := ⟨b, off + k * 6, none⟩) hb (by simp)).trans s0
      have g1 := (hfr.cell (p := ⟨b, off + k * 6 + 1, none⟩) hb (by simp)).trans s1
      have g2 := (hfr.cell (p := ⟨b, off + k * 6 + 2, none⟩) hb (by simp)).trans s2
      have g3 := (hfr.cell (p := ⟨b, off + k * 6 + 3, none⟩) hb (by simp)).trans s3
      have g4 := (hfr.cell (p := ⟨b, off + k * 6 + 4, none⟩) hb (by simp)).trans s4
      have g5 := (hfr.cell (p := ⟨b, off + k * 6 + 5, none⟩) hb (by simp)).trans s5
      have HSt := mkHid (step_k hP (by omega) K O A B C po co ss hls hA hB)
      have k1 : (0 : Int) ≤ (k : Int) := by omega
      have k2 : (k : Int) < (sz : Int) := by omega
      have k3 : (k : Int) < 300 := by omega
      clear hP hq hls s0 s1 s2 s3 s4 s5 hfr
      generalize ss.length = zn at *
      go_wp2_with fail
      refine Calls.mono HSt.out ?_
      rintro e w5 ⟨rfl, l5, kv5, X5, hP5⟩
      have HRi := mkHid (right_k hP5)
      have HP5 := mkHid hP5
      clear hP5 HSt
      go_wp2_with fail
      refine Calls.mono HRi.out ?_
      rintro e w6 ⟨rfl, hf6⟩
      have HS6 : Hid (Ps w s a t (k + 1) w6) := ⟨l5, kv5, X5, HP5.out.idle hf6⟩
      clear hf6 HP5 HRi
      go_wp2_with fail
      go_roundw
      case rel => exact ⟨k + 1, by omega, by omega, by go_num, HS6⟩
      case measure => simp [intOf]; omega
    · have HF := mkHid hfr
      have HAl := mkHid (alive_s wr (HT.out.fr hfr (by omega)) (HT2.out.keep hfr (by omega) (by simp)) (by have := hfr.size; omega))
      have hx : (sz : Int) ≤ (k : Int) ∨ ((k : Int) < (sz : Int) ∧ (300 : Int) ≤ (k : Int)) := by omega
      clear hP hq hc hfr
      rcases hx with hx | ⟨hx, hx2⟩
      all_goals
        go_wp2_with fail
        refine Calls.mono HAl.out ?_
        rintro e w6 ⟨rfl, hf6⟩
        have HF6 := mkHid (HF.out.trans hf6 (by simp))
        clear hf6
        go_wp2_with fail
        go_ret
        exact ⟨rfl, HF6.out⟩
end Go.Proofs.YtkmjimdaimbdfaaDoor
namespace Go.Proofs.YtkmjimdaimbdfaaDoor
open Go.ChangeShapes Go.WideShapes Go.RowKit
set_option linter.unusedVariables false
theorem weightsAll_mem {H : Type} {P : Program} {e : TypeId} {d : DataW H} : ∀ {ds : List (DataW H)}, d ∈ ds → ∀ n ∈ d.weights P e, n ∈ DataW.weightsAll P e ds := by
  intro ds
  induction ds with
  | nil => intro h; simp at h
  | cons x ds ih =>
    intro h n hn
    unfold DataW.weightsAll
    rcases List.mem_cons.1 h with rfl | h
    · exact List.mem_append_left _ hn
    · exact List.mem_append_right _ (ih h n hn)
theorem vc31 : Tryd.prog.cellsOf 31 = 6 := by kernel_rfl
theorem vc3 : Tryd.prog.cellsOf 3 = 1 := by kernel_rfl
theorem vc28 : Tryd.prog.cellsOf 28 = 1 := by kernel_rfl
theorem vc29 : Tryd.prog.cellsOf 29 = 1 := by kernel_rfl
theorem vb28 : Tryd.prog.bytesOf 28 = 8 := by kernel_rfl
theorem wf_range {n : Int} (h : (Lit.int .i64 n).wf = true) : -9223372036854775808 ≤ n ∧ n ≤ 9223372036854775807 := by
  simpa [Lit.wf, IntKind.min, IntKind.max, IntKind.signed, IntKind.bits] using h
section
variable {H : Type} {enc : TypeId × Value → H} {w : World} {spare : Nat → Bool} {held : Bool}
/-- the words of a step, opened -/
theorem open_wl {fuel : Nat} {u : Value} {y : DataW H × List MemPlace} (h : DataW.trod enc Tryd.prog w 0 spare held fuel 29 [u] = some y) (hz : ∀ n ∈ y.1.weights Tryd.prog 29, n ≤ reachBytes) :
    ∃ (ao : Option Addr) (c : Nat) (zs : List Int), u = .slice ao zs.length c ∧ Rd w (.slice ao zs.length c) zs := by
  rcases open_ints Tryd.underlying29 Tryd.underlying28 vc28 h with ⟨hcs, _⟩ | ⟨a, len, cap, zs, hcs, _, hl, hm, hzl, hx, hc, _⟩
  · simp at hcs
    exact ⟨none, 0, [], hcs, ⟨none, 0, rfl, fun h => by simp at h⟩, fun c hc => by injection hc with _ _ e; exact e.symm, by simp⟩
  · simp at hcs
    have hlz : len ≤ zs.length := by rw [hzl]; split <;> omega
    have htl : (zs.take len).length = len := by simp; omega
    refine ⟨some a, cap, zs.take len, by rw [htl]; exact hcs, ⟨some a, cap, rfl, fun hpos => ?_⟩, fun c hc => (by injection hc with e; cases e), ?_⟩
    · rw [htl] at hpos
      obtain ⟨b, off, spot⟩ := a
      have hspot : spot = none := by simpa [Addr.add] using World.cell?_spot (hc 0 (by omega))
      subst hspot
      have hcell : ∀ j, j < len → w.cell? ⟨b, off + j, none⟩ = some (.int .i64 (zs.getD j 0)) := fun j hj => by
        have := hc j (by omega)
        rwa [Addr.add_mid] at this
      refine ⟨b, off, rfl, World.block_lt_of_cell? w ⟨b, off + 0, none⟩ (hcell 0 hpos), fun j hj => ?_⟩
      rw [htl] at hj
      rw [hcell j hj, List.getD_eq_getElem?_getD, List.getD_eq_getElem?_getD, List.getElem?_take, if_pos hj]
    · rw [htl]
      have hw := hz (((lits (H := H) .i64 (zs.take len)).length + (lits (H := H) .i64 (zs.drop len)).length) * Tryd.prog.bytesOf 28) (by rw [hx]; simp [DataW.weights, Tryd.underlying29])
      have e1 : (lits (H := H) .i64 (zs.take len)).length = len := by simp [lits]; omega
      rw [e1, vb28] at hw
      unfold reachBytes at hw
      omega
set_option maxRecDepth 20000 in
/-- the steps, opened -/
theorem open_steps {fuel : Nat} {cs : List Value} {x : DataW H × List MemPlace} (h : DataW.trod enc Tryd.prog w 0 spare held fuel 22 cs = some x) (hz : ∀ n ∈ x.1.weights Tryd.prog 22, n ≤ reachBytes) :
    ∃ (ao : Option Addr) (sz c b off : Nat), cs = [.slice ao sz c] ∧ (0 < sz → ao = some ⟨b, off, none⟩ ∧ b < w.heap.size) ∧ sz ≤ maxLen ∧ ∀ i, i < sz → StepAt w b off i := by
  rcases Go.Deep.open_slice Tryd.underlying22 h with ⟨rfl, rfl⟩ | ⟨a, len, cap, m, n, D, Pl, rfl, _, hl, hm, hmm, rfl, hx⟩
  · exact ⟨none, 0, 0, 0, 0, rfl, fun h => by omega, by unfold maxLen; omega, fun i hi => by omega⟩
  · by_cases h0 : len = 0
    · subst h0
      exact ⟨some a, 0, cap, 0, 0, rfl, fun h => by omega, by unfold maxLen; omega, fun i hi => by omega⟩
    · have hlm : len ≤ m := by rw [hmm]; split <;> omega
      rw [vc31] at hx
      obtain ⟨b, off, spot⟩ := a
      have hspot : spot = none := by
        obtain ⟨cs', h1, h2⟩ := hx 0 (by omega)
        obtain ⟨_, hlen, hcell⟩ := World.cells?_some h1
        have := hcell 0 (by omega)
        rw [Go.Deep.add_add] at this
        match cs', hlen with
        | u :: _, _ => simpa [Addr.add] using World.cell?_spot this
      subst hspot
      have hstep : ∀ i, i < len → StepAt w b off i := fun i hi => by
        obtain ⟨cs', h1, h2⟩ := hx i (by omega)
        obtain ⟨_, hlen, hcell⟩ := World.cells?_some h1
        obtain ⟨xs, k, hk, hxy, _, hxl, hf⟩ := DataW.trod_struct Tryd.underlying31 h2
        match xs, hxl, cs', hlen with
        | [y0, y1, y2, y3, y4, y5], _, [t0, t1, t2, t3, t4, t5], _ =>
          have g0 := hf 0 _ rfl
          have g1 := hf 1 _ rfl
          have g2 := hf 2 _ rfl
          have g3 := hf 3 _ rfl
          have g4 := hf 4 _ rfl
          have g5 := hf 5 _ rfl
          simp [vc3, vc28, vc29] at g0 g1 g2 g3 g4 g5
          obtain ⟨K, e0, -, -⟩ := DataW.trod_int Tryd.underlying3 g0
          obtain ⟨O, e1, -, -⟩ := DataW.trod_int Tryd.underlying3 g1
          obtain ⟨A, e2, -, wfA⟩ := DataW.trod_int Tryd.underlying3 g2
          obtain ⟨B, e3, -, wfB⟩ := DataW.trod_int Tryd.underlying3 g3
          obtain ⟨C, e4, -, -⟩ := DataW.trod_int Tryd.underlying28 g4
          simp at e0 e1 e2 e3 e4
          obtain ⟨lo, lc, zs, e5, hls⟩ := open_wl g5 (fun n hn => by
            refine hz n ?_
            have hd : D i = .agg [y0.1, y1.1, y2.1, y3.1, y4.1, y5.1] := by simpa using congrArg Prod.fst hxy
            have h3 : n ∈ (D i).weights Tryd.prog 31 := by
              rw [hd]
              simp only [DataW.weights, Tryd.underlying31]
              exact DataW.weights_mem_each (j := 5) (t := 29) (d := y5.1) rfl rfl n hn
            simp only [DataW.weights, Tryd.underlying22]
            refine List.mem_cons_of_mem _ (List.mem_append_left _ (weightsAll_mem (d := D i) ?_ n h3))
            exact List.mem_map.2 ⟨i, List.mem_range.2 hi, rfl⟩)
          have m0 := hcell 0 (by omega)
          have m1 := hcell 1 (by omega)
          have m2 := hcell 2 (by omega)
          have m3 := hcell 3 (by omega)
          have m4 := hcell 4 (by omega)
          have m5 := hcell 5 (by omega)
          rw [Addr.add_mid, Addr.add_mid] at m0 m1 m2 m3 m4 m5
          simp at m0 m1 m2 m3 m4 m5
          subst e0 e1 e2 e3 e4 e5
          exact ⟨K, O, A, B, C, lo, lc, zs, m0, m1, m2, m3, m4, m5, hls, wf_range wfA, wf_range wfB⟩
      obtain ⟨K, _, _, _, _, _, _, _, m0, _⟩ := hstep 0 (by omega)
      exact ⟨some ⟨b, off, none⟩, len, cap, b, off, rfl, fun _ => ⟨rfl, World.block_lt_of_cell? w _ m0⟩, by omega, hstep⟩
end
end Go.Proofs.YtkmjimdaimbdfaaDoor
namespace Go.Proofs.YtkmjimdaimbdfaaDoor
open Go.ChangeShapes Go.WideShapes
/-- a table of integers, cell by cell -/
theorem int_table {H : Type} {enc : TypeId × Value → H} {P : Program} {w : World} {base : Nat} {spare : Nat → Bool} {held : Bool} {fuel n : Nat} {t e : TypeId} {k : IntKind} {cs : List Value} {vals : List Int} {p : List MemPlace}
    (ht : P.underlying t = some (.array n e)) (he : P.underlying e = some (.int k)) (ce : P.cellsOf e = 1)
    (hd : DataW.trod enc P w base spare held fuel t cs = some (.agg (vals.map fun v => .lit (.int k v)), p)) (i : Nat) (hi : i < vals.length) :
    cs[i]? = some (.int k (vals.getD i 0)) := by
  obtain ⟨xs, m, _, hx, _, hn, hel⟩ := DataW.trod_array ht hd
  simp only [Prod.mk.injEq, DataW.agg.injEq] at hx
  have hlen : xs.length = vals.length := by
    have := congrArg List.length hx.1
    simpa using this.symm
  have h := hel i (by omega)
  rw [ce, Nat.mul_one] at h
  obtain ⟨x, hxi⟩ : ∃ x, xs[i]? = some x := ⟨xs[i]'(by omega), by rw [List.getElem?_eq_getElem (by omega)]⟩
  rw [hxi] at h
  obtain ⟨v, e1, e2, _⟩ := DataW.trod_int he h
  have hv : vals[i]? = some v := by
    have h3 := congrArg (fun l => l[i]?) hx.1
    simp only [List.getElem?_map, hxi, e2] at h3
    cases hvi : vals[i]? with
    | none => rw [hvi] at h3; simp at h3
    | some y => rw [hvi] at h3; simp at h3; rw [h3]
  have h4 : cs[i]? = some (.int k v) := by
    have h5 := congrArg (fun l => l[0]?) e1
    simpa [List.getElem?_take, List.getElem?_drop] using h5
  rw [h4, List.getD_eq_getElem?_getD, hv]
  rfl
end Go.Proofs.YtkmjimdaimbdfaaDoor

