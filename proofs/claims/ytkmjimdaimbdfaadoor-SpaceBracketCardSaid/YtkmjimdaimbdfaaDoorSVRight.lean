import Derived.Test.YtkmjimdaimbdfaaDoorSG28VAliv
import Derived.Deep.RegionHeld3
namespace Go.Proofs.YtkmjimdaimbdfaaDoor
open Go.RowKit Go.Maps
set_option linter.unusedVariables false
set_option linter.unusedSimpArgs false
attribute [local go_sem ↓] Go.wp_at_zero Go.wp_at_succ
set_option maxRecDepth 20000 in
set_option maxHeartbeats 8000000 in
theorem right_k {w0 w : World} {s a t : Nat} {l : Lay} {kv : Value} {X : SpS} {n : Nat} (P : Pl w0 w s a t l kv X n) :
    Calls Tryd.prog 8 #[.pointer (some ⟨t, 0, none⟩), .pointer (some ⟨s, 0, none⟩)] w fun e w' => e = .returned (.bool true) ∧ Fr [] w w' := by
  have HP := mkHid P
  have HHp := mkHid (sHeap_same P.pw.spc)
  have HSt := mkHid (sstate_ok P.pw.spc)
  have hoo := P.oops
  have hww := P.words
  obtain ⟨pk, ck, hkv, -⟩ := P.pw.kept.at_
  have HKv := mkHid hkv
  clear P hkv
  go_enter Tryd.func8, Tryd.ntmps8
  go_wp2_with fail
  refine Calls.mono HHp.out ?_
  rintro e w1 ⟨rfl, rfl⟩
  go_wp2_with fail
  refine Calls.mono HSt.out ?_
  rintro e w2 ⟨pa, ca, rfl, hsat, hf2⟩
  obtain ⟨U, hU⟩ : ∃ U, (w2.alloc (.cells #[.int .i64 (X.words : Int), .int .i64 (X.oops : Int), .int .i64 (X.mark : Int), .slice pa X.ks.length ca] 44)) = U := ⟨_, rfl⟩
  have fU : Fr [] w2 U := by rw [← hU]; exact (Fr.alloc [] _ _)
  have hb2 : U.heap[w2.heap.size]? = some (.cells #[.int .i64 (X.words : Int), .int .i64 (X.oops : Int), .int .i64 (X.mark : Int), .slice pa X.ks.length ca] 44 (0, 0)) := by
    rw [← hU]; exact heap_alloc_new _ _
  have H1U := mkHid (hf2.trans fU (by simp))
  have HPU := mkHid (HP.out.idle H1U.out)
  have HSA := mkHid (hsat.idle fU)
  have hks := hsat.short
  obtain ⟨b, hb⟩ : ∃ b, w2.heap.size = b := ⟨_, rfl⟩
  rw [hb] at hb2
  have HB2 := mkHid hb2
  have HUe := mkHid hU
  have HBe := mkHid hb
  have HCl2 : Hid (∀ W, Hid (Fr [] U W) → ((W.cell? ⟨b, 0, none⟩ = some (.int .i64 (X.words : Int)) ∧ W.cell? ⟨b, 1, none⟩ = some (.int .i64 (X.oops : Int)) ∧ W.cell? ⟨b, 2, none⟩ = some (.int .i64 (X.mark : Int)) ∧ W.cell? ⟨b, 3, none⟩ = some (.slice pa X.ks.length ca)) ∧ W.cell? ⟨t, 0, none⟩ = some (.int .i64 (X.words : Int)) ∧ W.cell? ⟨t, 1, none⟩ = some (.int .i64 (X.oops : Int)) ∧ W.cell? ⟨t, 2, none⟩ = some (.int .i64 X.root) ∧ W.cell? ⟨t, 3, none⟩ = some (.int .i64 (X.mark : Int)) ∧ W.cell? ⟨t, 4, none⟩ = some (.slice pk X.st.length ck))) := fun W hW => by
    have e3 := (hW.out.block _ (lt_of_heap HB2.out) (by simp)).trans HB2.out
    obtain ⟨t0, t1, t2, t3, t4, t5⟩ := (HPU.out.idle hW.out).pw.cells
    rw [HKv.out] at t4
    exact ⟨⟨by rw [cell_in e3]; rfl, by rw [cell_in e3]; rfl, by rw [cell_in e3]; rfl, by rw [cell_in e3]; rfl⟩, t0, t1, t2, t3, t4⟩
  have HLi : Hid (∀ W, Hid (Fr [] U W) → Calls Tryd.prog 27 #[.agg #[.int .i64 (X.words : Int), .int .i64 (X.oops : Int), .int .i64 (X.mark : Int), .slice pa X.ks.length ca], .int .i64 X.root, .slice pk X.st.length ck] W fun e w' => ∃ pm cm m, e = .returned (.slice pm m.length cm) ∧ Hid (LvE X.ks (rts X.root X.st) m) ∧ Hid (Pls w' U.heap.size (.slice pm m.length cm) m) ∧ Hid (Fr [] U w')) := fun W hW => by
    have hk := (HPU.out.idle hW.out).pw.kept
    rw [HKv.out] at hk
    refine (live_k X.ks X.root X.words X.oops X.mark (.slice pa X.ks.length ca) (.slice pk X.st.length ck) X.st W (HSA.out.idle hW.out) hk HP.out.rootAt).mono ?_
    rintro e w' ⟨v, m, rfl, q1, q2, q3⟩
    obtain ⟨pm, cm, rfl⟩ := row_is q2
    exact ⟨pm, cm, m, rfl, q1, own_base q2 hW.out.size, hW.out.trans q3 (by simp)⟩
  have hR : Hid (Fr [] U U) := Fr.refl _ _
  clear hsat hf2 fU hb2 HSt HHp hU hb
  go_wp2_with fail
  rw [HUe.out, HBe.out]
  clear HUe HBe
  go_region_held3 (fun W => ((W.cell? ⟨b, 0, none⟩ = some (.int .i64 (X.words : Int)) ∧ W.cell? ⟨b, 1, none⟩ = some (.int .i64 (X.oops : Int)) ∧ W.cell? ⟨b, 2, none⟩ = some (.int .i64 (X.mark : Int)) ∧ W.cell? ⟨b, 3, none⟩ = some (.slice pa X.ks.length ca)) ∧ W.cell? ⟨t, 0, none⟩ = some (.int .i64 (X.words : Int)) ∧ W.cell? ⟨t, 1, none⟩ = some (.int .i64 (X.oops : Int)) ∧ W.cell? ⟨t, 2, none⟩ = some (.int .i64 X.root) ∧ W.cell? ⟨t, 3, none⟩ = some (.int .i64 (X.mark : Int)) ∧ W.cell? ⟨t, 4, none⟩ = some (.slice pk X.st.length ck)))
    (first
      | exact HCl2.out _ (hid_drew hR)
      | exact HCl2.out _ hR
      | exact HCl2.out _ hg3)
    (first | (go_at_call 27; refine (HLi.out _ (hid_drew hR)).mono ?_; rintro e w3 ⟨pm, cm, m, rfl, hlv, hpm, hg3⟩))
  have hlt := hlv.out.lt
  have hml : m.length ≤ 65538 := addP_len hlv.out hks
  have hrm := mkHid (hpm.out.rd hml)
  have hsb := sumK_bound X.ks HSA.out.slots m hlt
  have hP3 := HPU.out.idle hg3.out
  obtain ⟨hT3, -, hT30, -⟩ := hP3.pw.tabs
  have HRo : Hid (Calls Tryd.prog 28 #[.pointer (some ⟨s, 0, none⟩)] w3 fun e w' => e = .returned (.tuple #[.int .i64 ((X.words : Int) - sumK X.ks m), .int .i64 ((X.oops : Int) - (m.length : Int))]) ∧ Fr [] w3 w') := by
    refine (room_k hP3.pw.spc (by have := hP3.pw.stl; omega) HP.out.rootIn hT3 hT30 HP.out.fmts).mono ?_
    rintro e w' ⟨st, q1, rfl, q2⟩
    have h1 := hP3.pw.spc.ka.liveSum q1 hlv.out (rts_mem X)
    rw [← h1.1, ← h1.2]
    exact ⟨rfl, q2⟩
  clear hT3 hT30 hP3
  go_wp2_with fail
  refine Calls.mono HRo.out ?_
  rintro e w5 ⟨rfl, hf5⟩
  have hg5 : Hid (Fr [] U w5) := hg3.out.trans hf5 (by simp)
  have HNe : Hid (∀ W, Hid (Fr [] w5 W) → Calls Tryd.prog 30 #[.agg #[.int .i64 (X.words : Int), .int .i64 (X.oops : Int), .int .i64 (X.mark : Int), .slice pa X.ks.length ca], .slice pm m.length cm] W fun e w' => e = .returned (.int .i64 (sumK X.ks m)) ∧ Hid (Fr [] w5 w')) := fun W hW => by
    refine (needed_k X.ks m X.words X.oops X.mark (.slice pa X.ks.length ca) (.slice pm m.length cm) W (HSA.out.idle (hg5.out.trans hW.out (by simp))) (hrm.out.idle (hf5.trans hW.out (by simp))) hlt hml HP.out.fmts).mono ?_
    rintro e w' ⟨rfl, hf⟩
    exact ⟨rfl, hW.out.trans hf (by simp)⟩
  have HKp : Hid (∀ W, Hid (Fr [] w5 W) → Calls Tryd.prog 16 #[.pointer (some ⟨s, 0, none⟩)] W fun e w' => ∃ pq cq, e = .returned (.slice pq X.st.length cq) ∧ Hid (Rd w' (.slice pq X.st.length cq) X.st) ∧ Hid (Fr [] w5 w')) := fun W hW => by
    have hPW := HPU.out.idle (hg5.out.trans hW.out (by simp))
    have hsl := hPW.pw.stl
    refine (kept_ok hPW.pw.spc (by omega)).mono ?_
    rintro e w' ⟨v, rfl, hv, hf⟩
    obtain ⟨pq, cq, rfl⟩ := row_is hv
    exact ⟨pq, cq, rfl, own_rd hv (by omega), hW.out.trans hf (by simp)⟩
  have HSw : Hid (∀ W pq cq, Hid (Fr [] w5 W) → Hid (Rd W (.slice pq X.st.length cq) X.st) → Calls Tryd.prog 24 #[.slice pq X.st.length cq, .slice pk X.st.length ck] W fun e w' => e = .returned (.bool true) ∧ Hid (Fr [] w5 w')) := fun W pq cq hW hr => by
    have hPW := HPU.out.idle (hg5.out.trans hW.out (by simp))
    have hk := hPW.pw.kept
    rw [HKv.out] at hk
    refine (sameWords_ok X.st _ _ W hr.out hk).mono ?_
    rintro e w' ⟨rfl, x, rfl⟩
    exact ⟨rfl, hW.out.trans (Fr.drewN [] _ _) (by simp)⟩
  have HHp : Hid (∀ W, Hid (Fr [] w5 W) → Calls Tryd.prog 12 #[.pointer (some ⟨s, 0, none⟩)] W fun e w' => e = .returned (.pointer (some ⟨a, 0, none⟩)) ∧ w' = W) := fun W hW => sHeap_same (HPU.out.idle (hg5.out.trans hW.out (by simp))).pw.spc
  have HMk : Hid (∀ W, Hid (Fr [] w5 W) → Calls Tryd.prog 20 #[.pointer (some ⟨a, 0, none⟩)] W fun e w' => e = .returned (.int .i64 (X.mark : Int)) ∧ w' = W) := fun W hW => by
    have h := (HPU.out.idle (hg5.out.trans hW.out (by simp))).pw.spc
    have := Marked_any a l X.H W h.rep
    rw [h.ka.mark] at this
    exact this
  have HCl5 : Hid (∀ W, Hid (Fr [] w5 W) → ((W.cell? ⟨b, 0, none⟩ = some (.int .i64 (X.words : Int)) ∧ W.cell? ⟨b, 1, none⟩ = some (.int .i64 (X.oops : Int)) ∧ W.cell? ⟨b, 2, none⟩ = some (.int .i64 (X.mark : Int)) ∧ W.cell? ⟨b, 3, none⟩ = some (.slice pa X.ks.length ca)) ∧ W.cell? ⟨t, 0, none⟩ = some (.int .i64 (X.words : Int)) ∧ W.cell? ⟨t, 1, none⟩ = some (.int .i64 (X.oops : Int)) ∧ W.cell? ⟨t, 2, none⟩ = some (.int .i64 X.root) ∧ W.cell? ⟨t, 3, none⟩ = some (.int .i64 (X.mark : Int)) ∧ W.cell? ⟨t, 4, none⟩ = some (.slice pk X.st.length ck))) := fun W hW => HCl2.out W (hg5.out.trans hW.out (by simp))
  have HZ : Hid (∀ W, Hid (Fr [] w5 W) → Fr [] w1 W) := fun W hW => H1U.out.trans (hg5.out.trans hW.out (by simp)) (by simp)
  have hR5 : Hid (Fr [] w5 w5) := Fr.refl _ _
  clear HRo hf5 hg5 hg3 HLi HCl2 hpm hrm HSA HPU HP hlt
  generalize sumK X.ks m = sm at *
  have hw1 : IntKind.i64.wrap ((X.words : Int) - sm) = (X.words : Int) - sm := by rw [iwrap]; unfold wrap64; omega
  have hw2 : IntKind.i64.wrap ((X.oops : Int) - (m.length : Int)) = (X.oops : Int) - (m.length : Int) := by rw [iwrap]; unfold wrap64; omega
  go_wp2_with fail
  go_region_held3 (fun W => ((W.cell? ⟨b, 0, none⟩ = some (.int .i64 (X.words : Int)) ∧ W.cell? ⟨b, 1, none⟩ = some (.int .i64 (X.oops : Int)) ∧ W.cell? ⟨b, 2, none⟩ = some (.int .i64 (X.mark : Int)) ∧ W.cell? ⟨b, 3, none⟩ = some (.slice pa X.ks.length ca)) ∧ W.cell? ⟨t, 0, none⟩ = some (.int .i64 (X.words : Int)) ∧ W.cell? ⟨t, 1, none⟩ = some (.int .i64 (X.oops : Int)) ∧ W.cell? ⟨t, 2, none⟩ = some (.int .i64 X.root) ∧ W.cell? ⟨t, 3, none⟩ = some (.int .i64 (X.mark : Int)) ∧ W.cell? ⟨t, 4, none⟩ = some (.slice pk X.st.length ck)))
    (first
      | exact HCl5.out _ (hid_drew hR5)
      | exact HCl5.out _ hR5
      | exact HCl5.out _ hg8
      | exact HCl5.out _ hg7
      | exact HCl5.out _ hg6)
    (first
      | (go_at_call 20; refine (HMk.out _ hg8).mono ?_; rintro e w' ⟨rfl, hw'⟩; rw [hw']; clear hw' w')
      | (go_at_call 12; refine (HHp.out _ hg8).mono ?_; rintro e w' ⟨rfl, hw'⟩; rw [hw']; clear hw' w')
      | (go_at_call 24; refine (HSw.out _ _ _ hg7 hr7).mono ?_; rintro e w8 ⟨rfl, hg8⟩)
      | (go_at_call 16; refine (HKp.out _ hg6).mono ?_; rintro e w7 ⟨pq, cq, rfl, hr7, hg7⟩)
      | (go_at_call 30; refine (HNe.out _ (hid_drew hR5)).mono ?_; rintro e w6 ⟨rfl, hg6⟩))
  all_goals go_wp2_with fail
  all_goals
    go_ret
    exact ⟨rfl, HZ.out _ hg8⟩
end Go.Proofs.YtkmjimdaimbdfaaDoor
