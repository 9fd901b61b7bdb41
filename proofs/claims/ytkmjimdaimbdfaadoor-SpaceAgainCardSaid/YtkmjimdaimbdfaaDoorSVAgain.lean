import Derived.Test.YtkmjimdaimbdfaaDoorSVLoad
import Derived.Test.YtkmjimdaimbdfaaDoorSG32HTable
namespace Go.Proofs.YtkmjimdaimbdfaaDoor
open Go.RowKit Go.Maps
set_option linter.unusedVariables false
set_option linter.unusedSimpArgs false
attribute [local go_sem ↓] Go.wp_at_zero Go.wp_at_succ
theorem mem_roots_one (X : SpS) (h : X.st = []) (z : Int) : z ∈ rootsOf X ↔ z ∈ rts X.root [] := by
  have := rts_mem X z
  rw [h] at this
  exact this
set_option maxRecDepth 20000 in
set_option maxHeartbeats 8000000 in
theorem again_any (n1 n2 : Int) (ao : Option Addr) (b off sz c : Nat) (w : World) (hT : Tab w) (hT2 : Tab64 w) (h2 : 2 ≤ w.heap.size) (hao : 0 < sz → ao = some ⟨b, off, none⟩)
    (hb : 0 < sz → b < w.heap.size) (hsz : (sz : Int) ≤ 9223372036854775807) (hst : ∀ i, i < sz → StepAt w b off i) :
    Calls Tryd.prog 5 #[.int .i64 n1, .int .i64 n2, .slice ao sz c] w fun e w' => e = .returned (.bool true) ∧ Fr [] w w' := by
  have HT := mkHid hT
  have HT2 := mkHid hT2
  have HST := mkHid hst
  have HBg := mkHid (begun_k n1 n2 w hT hT2 h2)
  clear hT hT2 hst
  go_enter Tryd.func5, Tryd.ntmps5
  go_wp2_with fail
  refine Calls.mono HBg.out ?_
  rintro e w1 ⟨s, a, t, X, rfl, -, -, hP⟩
  have HS1 : Hid (Ps w s a t 0 w1) := ⟨nilLay, .slice none 0 0, X, hP⟩
  clear hP HBg
  go_wp2_with fail
  go_loopw [10] (fun q wr => ∃ k : Nat, k ≤ 100 ∧ k ≤ sz ∧ q = .int .i64 k ∧ Hid (Ps w s a t k wr)) (fun q _ => 100 - (intOf q).toNat)
  case atStart => exact ⟨0, by omega, by omega, rfl, HS1⟩
  case round =>
    clear HS1
    obtain ⟨k, hk1, hk2, rfl, hq⟩ := hrel
    obtain ⟨l, kv, Y, hP⟩ := hq.out
    have hfr := hP.pw.fr
    by_cases hc : k < sz ∧ k < 100
    · obtain ⟨hc1, hc2⟩ := hc
      have hao' := hao (by omega)
      subst hao'
      have hb := hb (by omega)
      clear hao
      obtain ⟨K, O, A, B, C, po, co, ss, s0, s1, s2, s3, s4, s5, hls, hA, hB⟩ := HST.out k hc1
      have g0 := (hfr.cell (p := ⟨b, off + k * 6, none⟩) hb (by simp)).trans s0
      have g1 := (hfr.cell (p := ⟨b, off + k * 6 + 1, none⟩) hb (by simp)).trans s1
      have g2 := (hfr.cell (p := ⟨b, off + k * 6 + 2, none⟩) hb (by simp)).trans s2
      have g3 := (hfr.cell (p := ⟨b, off + k * 6 + 3, none⟩) hb (by simp)).trans s3
      have g4 := (hfr.cell (p := ⟨b, off + k * 6 + 4, none⟩) hb (by simp)).trans s4
      have g5 := (hfr.cell (p := ⟨b, off + k * 6 + 5, none⟩) hb (by simp)).trans s5
      have HSt := mkHid (step_k hP (by omega) K O A B C po co ss hls hA hB)
      have k1 : (0 : Int) ≤ (k : Int) := by omega
      have k2 : (k : Int) < (sz : Int) := by omega
      have k3 : (k : Int) < 100 := by omega
      clear hP hq hls s0 s1 s2 s3 s4 s5 hfr
      generalize ss.length = zn at *
      go_wp2_with fail
      refine Calls.mono HSt.out ?_
      rintro e w5 ⟨rfl, hP5⟩
      have HS6 := mkHid hP5
      clear hP5 HSt
      go_wp2_with fail
      go_roundw
      case rel => exact ⟨k + 1, by omega, by omega, by go_num, HS6⟩
      case measure => simp [intOf]; omega
    · have HF := mkHid hfr
      have HP := mkHid hP
      have hoo := hP.oops
      have hww := hP.words
      have hx : (sz : Int) ≤ (k : Int) ∨ ((k : Int) < (sz : Int) ∧ (100 : Int) ≤ (k : Int)) := by omega
      have HCd : Hid (Calls Tryd.prog 25 #[.pointer (some ⟨s, 0, none⟩)] wr fun e w' => e = .returned (.int .i64 Y.root) ∧ Fr [] wr w') := by
        have h5 := crowned_ok hP.pw.spc
        rcases hP.root with e | e
        · by_cases h6 : hasK Y.ks Y.root = true
          · rw [if_pos h6] at h5; exact h5
          · rw [if_neg h6, ← e] at h5; exact h5
        · rw [if_pos e] at h5; exact h5
      clear hP hq hc hfr
      generalize wr = wo at *
      rcases hx with hx | ⟨hx, hx2⟩
      all_goals
        go_wp2_with fail
        refine Calls.mono HCd.out ?_
        rintro e w1 ⟨rfl, hf1⟩
        have HP1 := mkHid (HP.out.idle hf1)
        clear hf1 HCd
        go_wp2_with fail
        refine Calls.mono (sHeap_same HP1.out.pw.spc) ?_
        rintro e w2 ⟨rfl, rfl⟩
        go_wp2_with fail
        refine Calls.mono (state_of HP1.out.pw.spc.rep HP1.out.pw.spc.ka) ?_
        rintro e w3 ⟨pa, ca, lo, rfl, htl, hf3⟩
        obtain ⟨U, hU⟩ : ∃ U, (w3.alloc (.cells #[.int .i64 (Y.words : Int), .int .i64 (Y.oops : Int), .int .i64 (Y.mark : Int), .slice pa Y.ks.length ca] 44)) = U := ⟨_, rfl⟩
        have fU : Fr [] w3 U := by rw [← hU]; exact (Fr.alloc [] _ _)
        have hbU : U.heap[w3.heap.size]? = some (.cells #[.int .i64 (Y.words : Int), .int .i64 (Y.oops : Int), .int .i64 (Y.mark : Int), .slice pa Y.ks.length ca] 44 (0, 0)) := by
          rw [← hU]; exact heap_alloc_new _ _
        obtain ⟨bb, hbb⟩ : ∃ bb, w3.heap.size = bb := ⟨_, rfl⟩
        rw [hbb] at hbU
        have HPU := mkHid (HP1.out.idle (hf3.trans fU (by simp)))
        have HTl := mkHid (htl.fr fU (by simp))
        have HBU := mkHid hbU
        have HUe := mkHid hU
        have HBe := mkHid hbb
        have hks := htl.len
        obtain ⟨hTU, -, hTU0, -⟩ := HPU.out.pw.tabs
        have hka := HPU.out.pw.spc.ka
        have HLd := mkHid (sload_ok Y.words Y.oops Y.mark Y.ks Y.root pa ca lo U _ HTl.out hTU hTU0 (by omega) (by omega) (by have h5 := hka.inv.safe.small.mark; have h6 := hka.mark; omega) HPU.out.good hka.nodup hka.small.1 HPU.out.root)
        have HCl : Hid (∀ W, Hid (Fr [] U W) → ((W.cell? ⟨bb, 0, none⟩ = some (.int .i64 (Y.words : Int)) ∧ W.cell? ⟨bb, 1, none⟩ = some (.int .i64 (Y.oops : Int)) ∧ W.cell? ⟨bb, 2, none⟩ = some (.int .i64 (Y.mark : Int)) ∧ W.cell? ⟨bb, 3, none⟩ = some (.slice pa Y.ks.length ca)) ∧ W.cell? ⟨t, 0, none⟩ = some (.int .i64 (Y.words : Int)) ∧ W.cell? ⟨t, 1, none⟩ = some (.int .i64 (Y.oops : Int)))) := fun W hW => by
          have e3 := (hW.out.block _ (lt_of_heap HBU.out) (by simp)).trans HBU.out
          obtain ⟨t0, t1, -⟩ := (HPU.out.idle hW.out).pw.cells
          exact ⟨⟨by rw [cell_in e3]; rfl, by rw [cell_in e3]; rfl, by rw [cell_in e3]; rfl, by rw [cell_in e3]; rfl⟩, t0, t1⟩
        have hRU : Hid (Fr [] U U) := Fr.refl _ _
        obtain ⟨⟨v0, v1, v2, v3⟩, -⟩ := HCl.out U hRU
        clear htl hf3 fU hbU hU hbb HP1 hTU hTU0 hka
        go_wp2_with fail
        rw [HUe.out, HBe.out]
        clear HUe HBe
        go_wp2_with fail
        refine Calls.mono HLd.out ?_
        rintro e w4 ⟨u, au, lu, Hu, Mu, rfl, hsp4, hag4, hf4, hnw4, hu4⟩
        have HS4 := mkHid hsp4
        have HF4 := mkHid hf4
        have HNw := mkHid hnw4
        have HAg := mkHid hag4
        have HCu : Hid (Calls Tryd.prog 25 #[.pointer (some ⟨u, 0, none⟩)] w4 fun e w' => e = .returned (.int .i64 Y.root) ∧ Fr [] w4 w') := by
          have h5 := crowned_ok hsp4
          rcases HPU.out.root with e | e
          · by_cases h6 : hasK Y.ks Y.root = true
            · rw [if_pos h6] at h5; exact h5
            · rw [if_neg h6, show (0 : Int) = Y.root from e.symm] at h5; exact h5
          · rw [if_pos e] at h5; exact h5
        clear hsp4 hf4 hnw4 hag4 HLd
        go_wp2_with (go_at_call 11; refine Calls.mono (num_any _ _ (by omega) (by omega)) ?_; rintro e w' ⟨rfl, hw'⟩; rw [hw']; clear hw' w')
        refine Calls.mono HCu.out ?_
        rintro e w5 ⟨rfl, hf5⟩
        have HS5 := mkHid (HS4.out.idle hf5)
        have HF5 := mkHid (HF4.out.trans hf5 (by simp))
        have HKp := mkHid (kept_ok HS5.out (by simp))
        clear hf5 HCu
        go_wp2_with fail
        refine Calls.mono HKp.out ?_
        rintro e w6 ⟨v6, rfl, ho6, hf6⟩
        obtain ⟨p6, c6, rfl⟩ := row_is ho6
        have HS6 := mkHid (HS5.out.idle hf6)
        have HF6 : Hid (Fr [] U w6) := HF5.out.trans hf6 (by simp)
        have hlt6 := HS6.out.rep.lt
        have HLi := mkHid (live_k Y.ks Y.root Y.words Y.oops Y.mark (.slice pa Y.ks.length ca) (.slice none 0 0) [] w6 (HTl.out.fr HF6.out (by simp)).by ⟨⟨none, 0, rfl, fun h => by simp at h⟩, fun c hc => (by injection hc with _ _ e; exact e.symm), by simp⟩ HPU.out.rootAt)
        obtain ⟨⟨v0, v1, v2, v3⟩, -⟩ := HCl.out w6 HF6
        have HLt := mkHid hlt6
        simp only [List.length_nil]
        clear ho6 hf6 HKp hlt6
        go_wp2_with fail
        refine Calls.mono HLi.out ?_
        rintro e w7 ⟨vm, m, rfl, hlv, hpm, hf7⟩
        obtain ⟨pm, cm, rfl⟩ := row_is hpm
        have hml : m.length ≤ 65538 := addP_len hlv hks
        have HS7 := mkHid (HS6.out.idle hf7)
        have HF7 : Hid (Fr [] U w7) := HF6.out.trans hf7 (by simp)
        have HLv := mkHid hlv
        have HPm := mkHid hpm
        have hw7 := HF7.out.size
        have hw0 := HPU.out.pw.two
        have hw1 := HPU.out.pw.fr.size
        have hT7 := HPU.out.pw.tab.fr (HPU.out.pw.fr.trans HF7.out (by simp)) (by omega)
        have HRo : Hid (Calls Tryd.prog 28 #[.pointer (some ⟨u, 0, none⟩)] w7 fun e w' => e = .returned (.tuple #[.int .i64 ((Y.words : Int) - sumK Y.ks m), .int .i64 ((Y.oops : Int) - (m.length : Int))]) ∧ Fr [] w7 w') := by
          refine (room_k HS7.out (by simp) HPU.out.rootIn hT7 (by omega) HPU.out.fmts).mono ?_
          rintro e w' ⟨st, q1, rfl, q2⟩
          have h5 := HS7.out.ka.liveSum q1 HLv.out (mem_roots_one _ rfl)
          rw [← h5.1, ← h5.2]
          exact ⟨rfl, q2⟩
        clear hlv hpm hf7 HLi
        go_wp2_with fail
        refine Calls.mono HRo.out ?_
        rintro e w8 ⟨rfl, hf8⟩
        have HS8 := mkHid (HS7.out.idle hf8)
        have HF8 : Hid (Fr [] U w8) := HF7.out.trans hf8 (by simp)
        have HPm8 := mkHid (HPm.out.idle hf8)
        have hw8 := HF8.out.size
        have hT8 := HPU.out.pw.tab.fr (HPU.out.pw.fr.trans HF8.out (by simp)) (by omega)
        have HCo := mkHid (collect_ok HS8.out (by simp) HPU.out.rootIn (by show Hu.age ≤ 1000; rw [HAg.out]; omega) hT8 (by omega))
        clear hf8 HRo hT7 hT8
        go_wp2_with fail
        refine Calls.mono HCo.out ?_
        rintro e w9 (⟨h5, -⟩ | ⟨-, st, H9, M9, hst9, rfl, hsp9, hag9, hx9⟩)
        · exact absurd rfl h5
        have hls9 := HS8.out.ka.liveSum hst9 HLv.out (mem_roots_one _ rfl)
        have hlm9 := HS8.out.ka.liveMem hst9 HLv.out (mem_roots_one _ rfl)
        have HS9 := mkHid hsp9
        have HF9 : Hid (Fr [] U w9) := HF8.out.trans hx9.1 (fun g hg => .inr (HNw.out g hg))
        have HPm9 : Hid (Rd w9 (.slice pm m.length cm) (zs m)) := (HPm8.out.keep hx9.1 (fun g hg hm => by
          have h5 := (World.ownsRow.lt HPm.out g hg).1
          have h6 := HLt.out g hm
          omega)).rd hml
        have HLm := mkHid hlm9
        rw [← hls9.1]
        have hsb := sumK_bound Y.ks HPU.out.pw.spc.ka.slots m HLv.out.lt
        have HR9 : Hid (Calls Tryd.prog 29 #[.pointer (some ⟨au, 0, none⟩)] w9 fun e w' => e = .returned (.tuple #[.int .i64 ((Y.words : Int) - sumK Y.ks m), .int .i64 ((Y.oops : Int) - (m.length : Int))]) ∧ ∃ n, w' = w9.drewN n) := by
          have h5 := Room_any au lu H9 w9 hsp9.rep hsp9.ka.inv.safe.small
          have h6 := hsp9.ka.words
          have h7 := hsp9.ka.oops
          have h8 := hsp9.ka.mem
          have h9 := hsp9.ka.count
          have e1 : ((H9.words : Int) - (H9.mem.length : Int)) = (Y.words : Int) - sumK Y.ks m := by rw [h6, h8, ← hls9.2]
          have e2 : ((H9.oops : Int) - (H9.count : Int)) = (Y.oops : Int) - (m.length : Int) := by rw [h7, h9, ← hls9.1]
          rw [e1, e2] at h5
          exact h5
        have HH9 := mkHid (sHeap_same hsp9)
        generalize endK Y.ks - endK (keepK Y.ks st) = ek at *
        clear hsp9 hls9 hlm9 hst9 hag9 hx9 HCo HS8 HPm8
        go_wp2_with (first
          | (go_at_call 12; refine Calls.mono HH9.out ?_; rintro e w' ⟨rfl, hw'⟩; rw [hw']; clear hw' w')
          | fail)
        refine Calls.mono HR9.out ?_
        rintro e wA ⟨rfl, nA, hwA⟩
        have hfA : Fr [] w9 wA := by rw [hwA]; exact Fr.drewN [] _ _
        have HSA := mkHid (HS9.out.idle hfA)
        have HFA : Hid (Fr [] U wA) := HF9.out.trans hfA (by simp)
        have HMA := mkHid (HPm9.out.idle hfA)
        have HNm : Hid (∀ W, Calls Tryd.prog 11 #[.int .i64 0] W fun e w' => e = .returned (.int .i64 0) ∧ w' = W) := fun W => num_any 0 W (by omega) (by omega)
        have HNe : Hid (∀ W, Hid (Fr [] wA W) → Calls Tryd.prog 30 #[.agg #[.int .i64 (Y.words : Int), .int .i64 (Y.oops : Int), .int .i64 (Y.mark : Int), .slice pa Y.ks.length ca], .slice pm m.length cm] W fun e w' => e = .returned (.int .i64 (sumK Y.ks m)) ∧ Hid (Fr [] wA w')) := fun W hW => by
          refine (needed_k Y.ks m Y.words Y.oops Y.mark (.slice pa Y.ks.length ca) (.slice pm m.length cm) W (HTl.out.fr (HFA.out.trans hW.out (by simp)) (by simp)).by (HMA.out.idle hW.out) HLv.out.lt hml HPU.out.fmts).mono ?_
          rintro e w' ⟨rfl, hf⟩
          exact ⟨rfl, hW.out.trans hf (by simp)⟩
        have HUn : Hid (∀ W, Hid (Fr [] wA W) → Calls Tryd.prog 31 #[.pointer (some ⟨u, 0, none⟩), .agg #[.int .i64 (Y.words : Int), .int .i64 (Y.oops : Int), .int .i64 (Y.mark : Int), .slice pa Y.ks.length ca], .slice pm m.length cm] W fun e w' => e = .returned (.bool true) ∧ Hid (Fr [] wA w')) := fun W hW => by
          refine (untouched_k (HSA.out.idle hW.out) Y.ks m Y.words Y.oops Y.mark (.slice pa Y.ks.length ca) (.slice pm m.length cm) (HTl.out.fr (HFA.out.trans hW.out (by simp)) (by simp)).by (HMA.out.idle hW.out) (fun i hi => ⟨HLv.out.lt i hi, HLm.out i hi⟩)).mono ?_
          rintro e w' ⟨rfl, hf⟩
          exact ⟨rfl, hW.out.trans hf (by simp)⟩
        have HHp : Hid (∀ W, Hid (Fr [] wA W) → Calls Tryd.prog 12 #[.pointer (some ⟨s, 0, none⟩)] W fun e w' => e = .returned (.pointer (some ⟨a, 0, none⟩)) ∧ w' = W) := fun W hW => sHeap_same (HPU.out.idle (HFA.out.trans hW.out (by simp))).pw.spc
        have HSt : Hid (∀ W, Hid (Fr [] wA W) → Calls Tryd.prog 15 #[.pointer (some ⟨a, 0, none⟩)] W fun e w' => ∃ pn cn, e = .returned (.agg #[.int .i64 (Y.words : Int), .int .i64 (Y.oops : Int), .int .i64 (Y.mark : Int), .slice pn Y.ks.length cn]) ∧ Hid (∃ ln base, Tld w' base (.slice pn Y.ks.length cn) ln Y.ks) ∧ Hid (Fr [] wA w')) := fun W hW => by
          have hPW := (HPU.out.idle (HFA.out.trans hW.out (by simp))).pw.spc
          refine (state_of hPW.rep hPW.ka).mono ?_
          rintro e w' ⟨pn, cn, ln, rfl, h5, h6⟩
          exact ⟨pn, cn, rfl, ⟨ln, _, h5⟩, hW.out.trans h6 (by simp)⟩
        have HSs : Hid (∀ W pn cn, Hid (∃ ln base, Tld W base (.slice pn Y.ks.length cn) ln Y.ks) → Hid (Fr [] wA W) → Calls Tryd.prog 23 #[.agg #[.int .i64 (Y.words : Int), .int .i64 (Y.oops : Int), .int .i64 (Y.mark : Int), .slice pn Y.ks.length cn], .agg #[.int .i64 (Y.words : Int), .int .i64 (Y.oops : Int), .int .i64 (Y.mark : Int), .slice pa Y.ks.length ca]] W fun e w' => e = .returned (.bool true) ∧ Hid (Fr [] wA w')) := fun W pn cn ht hW => by
          obtain ⟨ln, base, h5⟩ := ht.out
          have h6 := HTl.out.fr (HFA.out.trans hW.out (by simp)) (by simp)
          refine (sameState_at Y.words Y.oops Y.mark _ _ (ln.map toOI) (lo.map toOI) W h5.sat h6.sat (by rw [h5.keys, h6.keys])).mono ?_
          rintro e w' ⟨rfl, hf⟩
          exact ⟨rfl, hW.out.trans hf (by simp)⟩
        have HClA : Hid (∀ W, Hid (Fr [] wA W) → ((W.cell? ⟨bb, 0, none⟩ = some (.int .i64 (Y.words : Int)) ∧ W.cell? ⟨bb, 1, none⟩ = some (.int .i64 (Y.oops : Int)) ∧ W.cell? ⟨bb, 2, none⟩ = some (.int .i64 (Y.mark : Int)) ∧ W.cell? ⟨bb, 3, none⟩ = some (.slice pa Y.ks.length ca)) ∧ W.cell? ⟨t, 0, none⟩ = some (.int .i64 (Y.words : Int)) ∧ W.cell? ⟨t, 1, none⟩ = some (.int .i64 (Y.oops : Int)))) := fun W hW => HCl.out W (HFA.out.trans hW.out (by simp))
        have HZ : Hid (∀ W, Hid (Fr [] wA W) → Fr [] w W) := fun W hW => HPU.out.pw.fr.trans (HFA.out.trans hW.out (by simp)) (by simp)
        have hRA : Hid (Fr [] wA wA) := Fr.refl _ _
        have hkk : m.length ≤ Y.ks.length := HLv.out.len
        clear hfA hwA HR9 HH9 HS9 HF9 HPm9 HPU HTl HLv HLm HSA HFA HMA HCl HP HF HF4 HF5 HF6 HF7 HF8 HS4 HS5 HS6 HS7 HPm HNw HAg HLt
        generalize sumK Y.ks m = sm at *
        have hw1 : IntKind.i64.wrap ((Y.words : Int) - sm) = (Y.words : Int) - sm := by rw [iwrap]; unfold wrap64; omega
        have hw2 : IntKind.i64.wrap ((Y.oops : Int) - (m.length : Int)) = (Y.oops : Int) - (m.length : Int) := by rw [iwrap]; unfold wrap64; omega
        have hw3 : IntKind.i64.wrap ((Y.ks.length : Int) - (m.length : Int)) = (Y.ks.length : Int) - (m.length : Int) := by rw [iwrap]; unfold wrap64; omega
        go_wp2_with fail
        go_region_held3 (fun W => ((W.cell? ⟨bb, 0, none⟩ = some (.int .i64 (Y.words : Int)) ∧ W.cell? ⟨bb, 1, none⟩ = some (.int .i64 (Y.oops : Int)) ∧ W.cell? ⟨bb, 2, none⟩ = some (.int .i64 (Y.mark : Int)) ∧ W.cell? ⟨bb, 3, none⟩ = some (.slice pa Y.ks.length ca)) ∧ W.cell? ⟨t, 0, none⟩ = some (.int .i64 (Y.words : Int)) ∧ W.cell? ⟨t, 1, none⟩ = some (.int .i64 (Y.oops : Int))))
          (first
            | exact HClA.out _ (hid_drew hRA)
            | exact HClA.out _ hRA
            | exact HClA.out _ hgE
            | exact HClA.out _ hgD
            | exact HClA.out _ hgC
            | exact HClA.out _ hgB)
          (first
            | (go_at_call 23; refine (HSs.out _ _ _ htD hgD).mono ?_; rintro e wE ⟨rfl, hgE⟩)
            | (go_at_call 15; refine (HSt.out _ hgC).mono ?_; rintro e wD ⟨pn, cn, rfl, htD, hgD⟩)
            | (go_at_call 12; refine (HHp.out _ hgC).mono ?_; rintro e w' ⟨rfl, hw'⟩; rw [hw']; clear hw' w')
            | (go_at_call 31; refine (HUn.out _ hgB).mono ?_; rintro e wC ⟨rfl, hgC⟩)
            | (go_at_call 30; refine (HNe.out _ (hid_drew hRA)).mono ?_; rintro e wB ⟨rfl, hgB⟩)
            | (go_at_call 11; refine (HNm.out _).mono ?_; rintro e w' ⟨rfl, hw'⟩; rw [hw']; clear hw' w'))
        all_goals go_wp2_with fail
        all_goals
          go_ret
          exact ⟨rfl, HZ.out _ hgE⟩
end Go.Proofs.YtkmjimdaimbdfaaDoor
