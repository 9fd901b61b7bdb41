import Derived.Test.YtkmjimdaimbdfaaDoorSG26VAlp
import Derived.Deep.RegionHeld3
namespace Go.Proofs.YtkmjimdaimbdfaaDoor
open Go.RowKit Go.Maps
set_option linter.unusedVariables false
set_option linter.unusedSimpArgs false
attribute [local go_sem ↓] Go.wp_at_zero Go.wp_at_succ
theorem mem_single {g t : Nat} (h : g ∈ [t]) : g = t := by simpa using h
/-- the space is as the law knows it, wherever -/
def Ps (w0 : World) (s a t : Nat) (n : Nat) (w : World) : Prop := ∃ l kv X, Pl w0 w s a t l kv X n
theorem Pw.pl {w0 w : World} {s a t : Nat} {l l0 : Lay} {kv : Value} {X X' : SpS} {n n' : Nat} {ro : Int} {mk : Nat} {st : List Int} {m : List Nat} {w1 : World} (P : Pl w0 w1 s a t l0 kv X n) (hm : LvE X.ks (rts X.root X.st) m) (h : Pw w0 w s a t l kv X' ro mk st) (hr : AlcR X m X' n') (e1 : ro = X.root) (e2 : mk = X'.mark) (e3 : st = X.st) : Pl w0 w s a t l kv X' n' := by
  subst e1 e2 e3
  refine ⟨by rw [hr.root, hr.st]; exact h, ?_, by rw [hr.oops]; exact hr.good, hr.age, by rw [hr.oops]; exact P.oops, by rw [hr.words]; exact P.words⟩
  rw [hr.root]
  exact live_root hm P.root P.rootIn hr.live
set_option maxRecDepth 20000 in
set_option maxHeartbeats 8000000 in
theorem talloc_k {w0 w : World} {s a t : Nat} {l : Lay} {kv : Value} {X : SpS} {n : Nat} (P : Pl w0 w s a t l kv X n) (hn : n ≤ 999) (cl : Int) (hcl : isW cl = true) (nn ff : Nat) (hnn : nn ≤ 64) (hff : ff ≤ 1) :
    Calls Tryd.prog 34 #[.pointer (some ⟨t, 0, none⟩), .pointer (some ⟨s, 0, none⟩), .int .i64 cl, .int .i64 (nn : Int), .int .i64 (ff : Int)] w fun e w' => e = .returned (.bool true) ∧ Ps w0 s a t (n + 1) w' ∧ Fr (t :: foot a l) w w' := by
  have HP := mkHid P
  have HHp := mkHid (sHeap_same P.pw.spc)
  have HSt := mkHid (sstateP_ok P.pw.spc)
  have HFt := mkHid P.pw.spc.rep.lt
  have hoo := P.oops
  have hww := P.words
  have HCl := mkHid hcl
  obtain ⟨pk, ck, hkv, -⟩ := P.pw.kept.at_
  clear P hcl
  go_enter Tryd.func34, Tryd.ntmps34
  go_wp2_with fail
  refine Calls.mono HHp.out ?_
  rintro e w1 ⟨rfl, rfl⟩
  go_wp2_with fail
  refine Calls.mono HSt.out ?_
  rintro e w2 ⟨pa, ca, rfl, hsatP, hf2⟩
  have hsat := hsatP [] w2 (Fr.refl _ _) (by simp)
  have HSP := mkHid hsatP
  obtain ⟨U, hU⟩ : ∃ U, (w2.alloc (.cells #[.int .i64 (X.words : Int), .int .i64 (X.oops : Int), .int .i64 (X.mark : Int), .slice pa X.ks.length ca] 44)) = U := ⟨_, rfl⟩
  have fU : Fr [] w2 U := by rw [← hU]; exact (Fr.alloc [] _ _)
  have hb2 : U.heap[w2.heap.size]? = some (.cells #[.int .i64 (X.words : Int), .int .i64 (X.oops : Int), .int .i64 (X.mark : Int), .slice pa X.ks.length ca] 44 (0, 0)) := by
    rw [← hU]; exact heap_alloc_new _ _
  have HPU := mkHid (HP.out.idle (hf2.trans fU (by simp)))
  have HSA := mkHid (hsat.idle fU)
  have H2U := mkHid fU
  have H1U := mkHid (hf2.trans fU (by simp))
  have hsz2 := hf2.size
  have hks := hsat.short
  obtain ⟨b, hb⟩ : ∃ b, w2.heap.size = b := ⟨_, rfl⟩
  have hbge : w1.heap.size ≤ b := by omega
  rw [hb] at hb2
  have HB2 := mkHid hb2
  have HUe := mkHid hU
  have HBe := mkHid hb
  have HCl2 : Hid (∀ W, Hid (Fr [] U W) → ((W.cell? ⟨b, 0, none⟩ = some (.int .i64 (X.words : Int)) ∧ W.cell? ⟨b, 1, none⟩ = some (.int .i64 (X.oops : Int)) ∧ W.cell? ⟨b, 2, none⟩ = some (.int .i64 (X.mark : Int)) ∧ W.cell? ⟨b, 3, none⟩ = some (.slice pa X.ks.length ca)) ∧ W.cell? ⟨t, 0, none⟩ = some (.int .i64 (X.words : Int)) ∧ W.cell? ⟨t, 1, none⟩ = some (.int .i64 (X.oops : Int)) ∧ W.cell? ⟨t, 2, none⟩ = some (.int .i64 X.root) ∧ W.cell? ⟨t, 4, none⟩ = some (.slice pk X.st.length ck))) := fun W hW => by
    have e3 := (hW.out.block _ (lt_of_heap HB2.out) (by simp)).trans HB2.out
    obtain ⟨t0, t1, t2, t3, t4, t5⟩ := (HPU.out.idle hW.out).pw.cells
    rw [hkv] at t4
    exact ⟨⟨by rw [cell_in e3]; rfl, by rw [cell_in e3]; rfl, by rw [cell_in e3]; rfl, by rw [cell_in e3]; rfl⟩, t0, t1, t2, t4⟩
  have HLi : Hid (∀ W, Hid (Fr [] U W) → Calls Tryd.prog 27 #[.agg #[.int .i64 (X.words : Int), .int .i64 (X.oops : Int), .int .i64 (X.mark : Int), .slice pa X.ks.length ca], .int .i64 X.root, .slice pk X.st.length ck] W fun e w' => ∃ pm cm m, e = .returned (.slice pm m.length cm) ∧ Hid (LvE X.ks (rts X.root X.st) m) ∧ Hid (Pls w' U.heap.size (.slice pm m.length cm) m) ∧ Hid (Fr [] U w')) := fun W hW => by
    have hk := (HPU.out.idle hW.out).pw.kept
    rw [hkv] at hk
    refine (live_k X.ks X.root X.words X.oops X.mark (.slice pa X.ks.length ca) (.slice pk X.st.length ck) X.st W (HSA.out.idle hW.out) hk HP.out.rootAt).mono ?_
    rintro e w' ⟨v, m, rfl, q1, q2, q3⟩
    obtain ⟨pm, cm, rfl⟩ := row_is q2
    exact ⟨pm, cm, m, rfl, q1, own_base q2 hW.out.size, hW.out.trans q3 (by simp)⟩
  have hR : Hid (Fr [] U U) := Fr.refl _ _
  clear hsat hsatP hf2 fU hb2 HSt HHp hU hb
  go_wp2_with fail
  rw [HUe.out, HBe.out]
  clear HUe HBe
  go_region_held3 (fun W => ((W.cell? ⟨b, 0, none⟩ = some (.int .i64 (X.words : Int)) ∧ W.cell? ⟨b, 1, none⟩ = some (.int .i64 (X.oops : Int)) ∧ W.cell? ⟨b, 2, none⟩ = some (.int .i64 (X.mark : Int)) ∧ W.cell? ⟨b, 3, none⟩ = some (.slice pa X.ks.length ca)) ∧ W.cell? ⟨t, 0, none⟩ = some (.int .i64 (X.words : Int)) ∧ W.cell? ⟨t, 1, none⟩ = some (.int .i64 (X.oops : Int)) ∧ W.cell? ⟨t, 2, none⟩ = some (.int .i64 X.root) ∧ W.cell? ⟨t, 4, none⟩ = some (.slice pk X.st.length ck)))
    (first
      | exact HCl2.out _ (hid_drew hR)
      | exact HCl2.out _ hR
      | exact HCl2.out _ hg3)
    (first | (go_at_call 27; refine (HLi.out _ (hid_drew hR)).mono ?_; rintro e w3 ⟨pm, cm, m, rfl, hlv, hpm, hg3⟩))
  have hlt := hlv.out.lt
  have hml : m.length ≤ 65538 := addP_len hlv.out hks
  have hrm := mkHid (hpm.out.rd hml)
  have hsb := sumK_bound X.ks HSA.out.slots m hlt
  have HNe : Hid (∀ W, Hid (Fr [] w3 W) → Calls Tryd.prog 30 #[.agg #[.int .i64 (X.words : Int), .int .i64 (X.oops : Int), .int .i64 (X.mark : Int), .slice pa X.ks.length ca], .slice pm m.length cm] W fun e w' => e = .returned (.int .i64 (sumK X.ks m)) ∧ Hid (Fr [] w3 w')) := fun W hW => by
    refine (needed_k X.ks m X.words X.oops X.mark (.slice pa X.ks.length ca) (.slice pm m.length cm) W (HSA.out.idle (hg3.out.trans hW.out (by simp))) (hrm.out.idle hW.out) hlt hml HP.out.fmts).mono ?_
    rintro e w' ⟨rfl, hf⟩
    exact ⟨rfl, hW.out.trans hf (by simp)⟩
  have HLe : Hid (∀ W, Calls Tryd.prog 63 #[.int .i64 (nn : Int), .int .i64 (ff : Int)] W fun e w' => e = .returned (.int .i64 ((lenN nn ff : Nat) : Int)) ∧ w' = W) := fun W => refLen_any nn ff W (by omega)
  have HCl3 : Hid (∀ W, Hid (Fr [] w3 W) → ((W.cell? ⟨b, 0, none⟩ = some (.int .i64 (X.words : Int)) ∧ W.cell? ⟨b, 1, none⟩ = some (.int .i64 (X.oops : Int)) ∧ W.cell? ⟨b, 2, none⟩ = some (.int .i64 (X.mark : Int)) ∧ W.cell? ⟨b, 3, none⟩ = some (.slice pa X.ks.length ca)) ∧ W.cell? ⟨t, 0, none⟩ = some (.int .i64 (X.words : Int)) ∧ W.cell? ⟨t, 1, none⟩ = some (.int .i64 (X.oops : Int)) ∧ W.cell? ⟨t, 2, none⟩ = some (.int .i64 X.root) ∧ W.cell? ⟨t, 4, none⟩ = some (.slice pk X.st.length ck))) := fun W hW => HCl2.out W (hg3.out.trans hW.out (by simp))
  have hln : lenOf (nn : Int) (ff : Int) = (lenN nn ff : Nat) := lenOf_nat _ _
  have hln2 : lenN nn ff ≤ 70 := by unfold lenN; split <;> omega
  have hRm : Hid (RoomP X m nn ff) ∨ Hid (¬ RoomP X m nn ff) := Classical.em _
  have hR3 : Hid (Fr [] w3 w3) := Fr.refl _ _
  have HAl : Hid (∀ W, Hid (Fr [] w3 W) → Calls Tryd.prog 18 #[.pointer (some ⟨s, 0, none⟩), .int .i64 cl, .int .i64 (nn : Int), .int .i64 (ff : Int)] W fun e w' => AlcO w0 s a t kv X (n + 1) cl nn ff m e w' ∧ Fr (foot a l) W w') := fun W hW => salloc_pl (HPU.out.idle (hg3.out.trans hW.out (by simp))) hn cl HCl.out nn ff (by omega) hff m hlv.out
  have HRp : Hid (RoomP X m nn ff ↔ m.length < X.oops ∧ sumK X.ks m + ((lenN nn ff : Nat) : Int) ≤ (X.words : Int)) := by
    show RoomP X m nn ff ↔ _
    unfold RoomP
    rw [hln]
  clear hln hlt HLi HCl2 hRm
  generalize lenN nn ff = ln at *
  generalize sumK X.ks m = sm at *
  have h3 : (Hid (¬ RoomP X m nn ff) ∧ decide ((m.length : Int) < (X.oops : Int)) = false) ∨ (Hid (RoomP X m nn ff) ∧ (m.length : Int) < (X.oops : Int) ∧ sm + (ln : Int) ≤ (X.words : Int)) ∨ (Hid (¬ RoomP X m nn ff) ∧ (m.length : Int) < (X.oops : Int) ∧ decide (sm + (ln : Int) ≤ (X.words : Int)) = false) := by
    by_cases h1 : (m.length : Int) < (X.oops : Int)
    · by_cases h2 : sm + (ln : Int) ≤ (X.words : Int)
      · exact .inr (.inl ⟨HRp.out.2 ⟨by omega, h2⟩, h1, h2⟩)
      · exact .inr (.inr ⟨fun h => h2 (HRp.out.1 h).2, h1, decide_eq_false h2⟩)
    · exact .inl ⟨fun h => h1 (by have := (HRp.out.1 h).1; omega), decide_eq_false h1⟩
  go_wp2_with fail
  rcases h3 with ⟨hroom, hA⟩ | ⟨hroom, hA, hB⟩ | ⟨hroom, hA, hB⟩
  · obtain ⟨v0, v1, v2, v3, v4⟩ := HCl3.out _ hR3
    have hA2 : decide (m.length < X.oops) = false := decide_eq_false (fun h => (of_decide_eq_false hA) (by omega))
    go_quiet (fail)
    have hgq : Hid (Fr [] w3 (w3.drewN nq)) := Fr.drewN [] _ _
    go_wp2_with fail
    refine Calls.mono (HAl.out _ hgq) ?_
    rintro e w5 ⟨⟨l5, X5, hp5, hr5, hcase⟩, hfr5⟩
    rcases hcase with ⟨h1, rfl, h2⟩ | ⟨h1, -⟩ | ⟨h1, -⟩
    rotate_left
    · exact absurd h1 hroom.out
    · exact absurd h1 hroom.out
    obtain ⟨-, -, -, -, -, t5⟩ := hp5.cells
    have F15 : Fr (t :: foot a l) w1 w5 := (((((H1U.out.trans hg3.out (by simp)).trans hgq.out (by simp)).mono (by simp)).trans hfr5 (fun g hg => .inl hg)) : Fr (foot a l) w1 w5).mono (fun g hg => .inl (by simp [hg]))
    have HZ : Hid (Ps w0 s a t (n + 1) w5 ∧ Fr (t :: foot a l) w1 w5) := ⟨⟨l5, kv, X5, hp5.pl HP.out hlv.out hr5 rfl h2.symm rfl⟩, F15⟩
    clear F15 hfr5
    clear h1 hp5 hr5 h2 HCl3 HNe HLe HAl HRp hroom HSP HPU hpm hrm hlv
    go_wp2_with (go_at_call 11; refine Calls.mono (num_any _ _ (by omega) (by omega)) ?_; rintro e w' ⟨rfl, hw'⟩; rw [hw']; clear hw' w')
    go_ret
    exact ⟨rfl, HZ.out⟩
  · 
    go_region_held3 (fun W => ((W.cell? ⟨b, 0, none⟩ = some (.int .i64 (X.words : Int)) ∧ W.cell? ⟨b, 1, none⟩ = some (.int .i64 (X.oops : Int)) ∧ W.cell? ⟨b, 2, none⟩ = some (.int .i64 (X.mark : Int)) ∧ W.cell? ⟨b, 3, none⟩ = some (.slice pa X.ks.length ca)) ∧ W.cell? ⟨t, 0, none⟩ = some (.int .i64 (X.words : Int)) ∧ W.cell? ⟨t, 1, none⟩ = some (.int .i64 (X.oops : Int)) ∧ W.cell? ⟨t, 2, none⟩ = some (.int .i64 X.root) ∧ W.cell? ⟨t, 4, none⟩ = some (.slice pk X.st.length ck)))
      (first
        | exact HCl3.out _ (hid_drew hR3)
        | exact HCl3.out _ hR3
        | exact HCl3.out _ hg4)
      (first
        | (go_at_call 30; refine (HNe.out _ (hid_drew hR3)).mono ?_; rintro e w4 ⟨rfl, hg4⟩)
        | (go_at_call 63; refine (HLe.out _).mono ?_; rintro e w' ⟨rfl, hw'⟩; rw [hw']; clear hw' w'))
    go_wp2_with fail
    refine Calls.mono (HAl.out _ hg4) ?_
    rintro e w5 ⟨⟨l5, X5, hp5, hr5, hcase⟩, hfr5⟩
    rcases hcase with ⟨h1, -⟩ | ⟨-, h1, rfl, h2⟩ | ⟨-, h1, h2, q, rfl, hq1, hq2, hnk, hno⟩
    · exact absurd hroom.out h1
    · obtain ⟨-, -, -, t3, -, t5⟩ := hp5.cells
      have fz := frozen_in hp5.told 3
      have F15 : Fr (t :: foot a l) w1 w5 := (((((H1U.out.trans hg3.out (by simp)).trans hg4.out (by simp)).mono (by simp)).trans hfr5 (fun g hg => .inl hg)) : Fr (foot a l) w1 w5).mono (fun g hg => .inl (by simp [hg]))
      have HZ : Hid (Ps w0 s a t (n + 1) (w5.setCell ⟨t, 3, none⟩ (.int .i64 0)) ∧ Fr (t :: foot a l) w1 (w5.setCell ⟨t, 3, none⟩ (.int .i64 0))) := ⟨⟨l5, kv, X5, (hp5.setMark 0).pl HP.out hlv.out hr5 rfl h2.symm rfl⟩, F15.trans (Fr.setCell (S := t :: foot a l) w5 ⟨t, 3, none⟩ _ (by simp)) (fun g hg => .inl hg)⟩
      clear F15
      rw [h1] at t3
      clear h1 hp5 hr5 h2 HCl3 HNe HLe HAl HRp hroom HSP HPU hpm hrm hlv hfr5 HSA
      go_wp2_with (go_at_call 11; refine Calls.mono (num_any _ _ (by omega) (by omega)) ?_; rintro e w' ⟨rfl, hw'⟩; rw [hw']; clear hw' w')
      go_ret
      exact ⟨rfl, HZ.out⟩
    · obtain ⟨-, -, -, t3, -, t5⟩ := hp5.cells
      have fz := frozen_in hp5.told 3
      have hmk := hp5.spc.ka.inv.safe.small
      have hb1 : (X.mark == 1) = false := by simpa using h1
      have hb1' : ((X.mark : Int) == 1) = false := by simpa using (by omega : ¬ (X.mark : Int) = 1)
      -- what stands in memory at w5
      have F25 : Fr (foot a l) w2 w5 := (((H2U.out.trans hg3.out (by simp)).trans hg4.out (by simp)).mono (by simp)).trans hfr5 (fun g hg => .inl hg)
      have hs5 := HSP.out (foot a l) w5 F25 HFt.out
      have Fm5 : Fr (foot a l) w3 w5 := (hg4.out.mono (by simp)).trans hfr5 (fun g hg => .inl hg)
      have hm5 : Pls w5 U.heap.size (.slice pm m.length cm) m := hpm.out.keep Fm5 (fun g hg hm => by
        have h3 := (World.ownsRow.lt hpm.out g hg).1
        have h4 := HFt.out g hm
        have h5 := H2U.out.size
        omega)
      have hbn : b ∉ foot a l := fun hm => by
        have h4 := HFt.out b hm
        omega
      have e3 := (((hg3.out.trans hg4.out (by simp)).mono (by simp)).trans hfr5 (fun g hg => .inl hg) : Fr (foot a l) U w5).block b (lt_of_heap HB2.out) hbn
      have hb5 := e3.trans HB2.out
      have hX5 : (X5.mark : Int) ≤ 1073741824 := by
        have h3 := hmk.mark
        have h4 := hp5.spc.ka.mark
        omega
      have HKd : Hid (∀ W, Calls Tryd.prog 33 #[.int .i64 (4 * (q : Int))] W fun e w' => e = .returned (.int .i64 3) ∧ w' = W) := fun W => by
        have := rKind_any (4 * (q : Int)) W
        rw [(kind3 _).2 ⟨by omega, by omega, by omega⟩] at this
        exact this
      have hq4 : (4 * (q : Int)).tdiv 4 = (q : Int) := by rw [Int.tdiv_eq_ediv_of_nonneg (by omega)]; omega
      have HFr : Hid (∀ W, Pw w0 W s a t l5 kv X5 X.root X5.mark X.st → Fr [t] w5 W → Calls Tryd.prog 65 #[.pointer (some ⟨t, 0, none⟩), .pointer (some ⟨s, 0, none⟩), .agg #[.int .i64 (X.words : Int), .int .i64 (X.oops : Int), .int .i64 (X.mark : Int), .slice pa X.ks.length ca], .slice pm m.length cm, .int .i64 (q : Int), .int .i64 (nn : Int), .int .i64 (ff : Int)] W fun e w' => e = .returned (.bool true) ∧ Ps w0 s a t (n + 1) w' ∧ Fr (t :: foot a l) w1 w') := fun W hPW hFW => by
        have hl1 : (newKey q cl nn ff).2.2.2.length = nn := by simp [newKey]
        have F2W : Fr (t :: foot a l) w2 W := (F25.mono (fun g hg => .inl (by simp [hg]))).trans hFW (fun g hg => .inl (by simp at hg; simp [hg]))
        have htS : ∀ g ∈ t :: foot a l, g < w1.heap.size := fun g hg => by
          rcases List.mem_cons.1 hg with e | e
          · rw [e]; exact lt_of_heap HP.out.pw.told
          · exact HFt.out g e
        have hsW := HSP.out (t :: foot a l) W F2W htS
        have hmW : Pls W U.heap.size (.slice pm m.length cm) m := hm5.keep hFW (fun g hg hm => by
          have h3 := (World.ownsRow.lt hpm.out g hg).1
          have h4 := lt_of_heap HP.out.pw.told
          have h5 := H2U.out.size
          have h6 : g = t := by simpa using hm
          omega)
        have := fresh_k hPW rfl hX5 X.ks m X.words X.oops X.mark (.slice pa X.ks.length ca) (.slice pm m.length cm) hsW (hmW.rd hml) (fun i hi => ⟨hlv.out.lt i hi, hr5.live i hi⟩) (newKey q cl nn ff) hnk hno
        rw [hl1] at this
        refine Calls.mono this ?_
        rintro e w' ⟨rfl, hf⟩
        have F15 : Fr (t :: foot a l) w1 w5 := (((((H1U.out.trans hg3.out (by simp)).trans hg4.out (by simp)).mono (by simp)).trans hfr5 (fun g hg => .inl hg)) : Fr (foot a l) w1 w5).mono (fun g hg => .inl (by simp [hg]))
        exact ⟨rfl, ⟨l5, kv, X5, (hPW.idle hf).pl HP.out hlv.out hr5 rfl rfl rfl⟩, (F15.trans hFW (fun g hg => .inl (by rw [mem_single hg]; simp))).trans hf (by simp)⟩
      have hcb : ∀ W, Fr [t] w5 W → W.cell? ⟨b, 0, none⟩ = some (.int .i64 (X.words : Int)) ∧ W.cell? ⟨b, 1, none⟩ = some (.int .i64 (X.oops : Int)) ∧ W.cell? ⟨b, 2, none⟩ = some (.int .i64 (X.mark : Int)) ∧ W.cell? ⟨b, 3, none⟩ = some (.slice pa X.ks.length ca) := fun W hW => by
        have hbt : b ∉ [t] := fun hm => by
          have h4 := lt_of_heap HP.out.pw.told
          have h6 : b = t := by simpa using hm
          omega
        have e4 := (hW.block b (lt_of_heap hb5) hbt).trans hb5
        refine ⟨?_, ?_, ?_, ?_⟩ <;> (rw [cell_in e4]; rfl)
      have z5 : Fr [t] w5 w5 := Fr.refl _ _
      obtain ⟨v0, v1, v2, v3⟩ := hcb w5 z5
      by_cases hm0 : X.mark = 0
      · have hPW : Pw w0 w5 s a t l5 kv X5 X.root X5.mark X.st := by
          have e : X5.mark = X.mark := by rw [h2, hm0]
          rw [e]; exact hp5
        have HF5 := mkHid (HFr.out w5 hPW z5)
        rw [hm0] at t3
        have hm1 : (X.mark : Int) = 0 := by omega
        have HM1 := mkHid hm1
        clear h1 hp5 hr5 h2 HCl3 HNe HLe HAl HRp hroom HSP HPU hpm hrm hlv hfr5 HSA hPW HFr hcb z5 F25 hs5 Fm5 hm5 hbn e3 hb5 hb1 hb1' hm0 hm1 hmk HB2
        go_wp2_with (first
          | (go_at_call 11; refine Calls.mono (num_any _ _ (by omega) (by omega)) ?_; rintro e w' ⟨rfl, hw'⟩; rw [hw']; clear hw' w')
          | (go_at_call 33; refine Calls.mono (HKd.out _) ?_; rintro e w' ⟨rfl, hw'⟩; rw [hw']; clear hw' w'))
        refine Calls.mono HF5.out ?_
        rintro e w6 ⟨rfl, hps⟩
        have HZ := mkHid hps
        clear hps HF5
        go_wp2_with fail
        go_ret
        exact ⟨rfl, HZ.out⟩
      · obtain ⟨mm, hmm⟩ : ∃ mm, X.mark = mm + 1 := ⟨X.mark - 1, by omega⟩
        have hPW : Pw w0 (w5.setCell ⟨t, 3, none⟩ (.int .i64 (mm : Int))) s a t l5 kv X5 X.root X5.mark X.st := by
          have e : X5.mark = mm := by rw [h2, hmm]; rfl
          rw [e]; exact hp5.setMark mm
        have z6 : Fr [t] w5 (w5.setCell ⟨t, 3, none⟩ (.int .i64 (mm : Int))) := Fr.setCell (S := [t]) w5 ⟨t, 3, none⟩ _ (by simp)
        have HF5 := mkHid (HFr.out _ hPW z6)
        obtain ⟨y0, y1, y2, y3⟩ := hcb _ z6
        have hmq : (X.mark : Int) = (mm : Int) + 1 := by omega
        rw [hmq] at t3 v2 y2 HF5
        have hm3 : (mm : Int) ≤ 1073741824 := by omega
        have hb2 : ((mm : Int) + 1 == 1) = false := by rw [← hmq]; exact hb1'
        have hm4 : (0 : Int) < (mm : Int) + 1 := by omega
        clear h1 hp5 hr5 h2 HCl3 HNe HLe HAl HRp hroom HSP HPU hpm hrm hlv hfr5 HSA hPW HFr hcb z5 z6 F25 hs5 Fm5 hm5 hbn e3 hb5 hb1 hb1' hm0 hmm hmq hmk HB2
        go_wp2_with (first
          | (go_at_call 11; refine Calls.mono (num_any _ _ (by omega) (by omega)) ?_; rintro e w' ⟨rfl, hw'⟩; rw [hw']; clear hw' w')
          | (go_at_call 33; refine Calls.mono (HKd.out _) ?_; rintro e w' ⟨rfl, hw'⟩; rw [hw']; clear hw' w'))
        refine Calls.mono HF5.out ?_
        rintro e w6 ⟨rfl, hps⟩
        have HZ := mkHid hps
        clear hps HF5
        go_wp2_with fail
        go_ret
        exact ⟨rfl, HZ.out⟩
  · 
    go_region_held3 (fun W => ((W.cell? ⟨b, 0, none⟩ = some (.int .i64 (X.words : Int)) ∧ W.cell? ⟨b, 1, none⟩ = some (.int .i64 (X.oops : Int)) ∧ W.cell? ⟨b, 2, none⟩ = some (.int .i64 (X.mark : Int)) ∧ W.cell? ⟨b, 3, none⟩ = some (.slice pa X.ks.length ca)) ∧ W.cell? ⟨t, 0, none⟩ = some (.int .i64 (X.words : Int)) ∧ W.cell? ⟨t, 1, none⟩ = some (.int .i64 (X.oops : Int)) ∧ W.cell? ⟨t, 2, none⟩ = some (.int .i64 X.root) ∧ W.cell? ⟨t, 4, none⟩ = some (.slice pk X.st.length ck)))
      (first
        | exact HCl3.out _ (hid_drew hR3)
        | exact HCl3.out _ hR3
        | exact HCl3.out _ hg4)
      (first
        | (go_at_call 30; refine (HNe.out _ (hid_drew hR3)).mono ?_; rintro e w4 ⟨rfl, hg4⟩)
        | (go_at_call 63; refine (HLe.out _).mono ?_; rintro e w' ⟨rfl, hw'⟩; rw [hw']; clear hw' w'))
    go_wp2_with fail
    have hgq := hg4
    refine Calls.mono (HAl.out _ hg4) ?_
    rintro e w5 ⟨⟨l5, X5, hp5, hr5, hcase⟩, hfr5⟩
    rcases hcase with ⟨h1, rfl, h2⟩ | ⟨h1, -⟩ | ⟨h1, -⟩
    rotate_left
    · exact absurd h1 hroom.out
    · exact absurd h1 hroom.out
    obtain ⟨-, -, -, -, -, t5⟩ := hp5.cells
    have F15 : Fr (t :: foot a l) w1 w5 := (((((H1U.out.trans hg3.out (by simp)).trans hgq.out (by simp)).mono (by simp)).trans hfr5 (fun g hg => .inl hg)) : Fr (foot a l) w1 w5).mono (fun g hg => .inl (by simp [hg]))
    have HZ : Hid (Ps w0 s a t (n + 1) w5 ∧ Fr (t :: foot a l) w1 w5) := ⟨⟨l5, kv, X5, hp5.pl HP.out hlv.out hr5 rfl h2.symm rfl⟩, F15⟩
    clear F15 hfr5
    clear h1 hp5 hr5 h2 HCl3 HNe HLe HAl HRp hroom HSP HPU hpm hrm hlv
    go_wp2_with (go_at_call 11; refine Calls.mono (num_any _ _ (by omega) (by omega)) ?_; rintro e w' ⟨rfl, hw'⟩; rw [hw']; clear hw' w')
    go_ret
    exact ⟨rfl, HZ.out⟩
end Go.Proofs.YtkmjimdaimbdfaaDoor
