import Derived.Test.YtkmjimdaimbdfaaDoorSVBrk
import Derived.Deep.RegionHeld3
import Derived.BigQuiet
namespace Go.Proofs.YtkmjimdaimbdfaaDoor
open Go.RowKit Go.Maps
set_option linter.unusedVariables false
set_option linter.unusedSimpArgs false
attribute [local go_sem ↓] Go.wp_at_zero Go.wp_at_succ
set_option maxRecDepth 20000 in
set_option maxHeartbeats 16000000 in
theorem brk_af (n1 n2 : Int) (ao : Option Addr) (b off sz c : Nat) (ao2 : Option Addr) (b2 off2 sz2 c2 : Nat) (mk : Int) (w : World) (hT : Tab w) (hT2 : Tab64 w) (h2 : 2 ≤ w.heap.size) (hao : 0 < sz → ao = some ⟨b, off, none⟩)
    (hb : 0 < sz → b < w.heap.size) (hsz : (sz : Int) ≤ 9223372036854775807) (hst : ∀ i, i < sz → StepAt w b off i) (hao2 : 0 < sz2 → ao2 = some ⟨b2, off2, none⟩)
    (hb2 : 0 < sz2 → b2 < w.heap.size) (hsz2 : (sz2 : Int) ≤ 9223372036854775807) (hst2 : ∀ i, i < sz2 → StepAt w b2 off2 i) (hx : sz ≤ 100) :
    Calls Tryd.prog 4 #[.int .i64 n1, .int .i64 n2, .slice ao sz c, .slice ao2 sz2 c2, .int .i64 mk, .bool false] w fun e w' => e = .returned (.bool true) ∧ Fr [] w w' := by
  have HT := mkHid hT
  have HT2 := mkHid hT2
  have HST := mkHid hst
  have HST2 := mkHid hst2
  have HBg := mkHid (begun_k n1 n2 w hT hT2 h2)
  have HSm := mkHid (fun W => small_ok mk W)
  obtain ⟨kk, hk1, hk2⟩ : ∃ kk : Nat, (smN mk : Int) % 8 = (kk : Int) ∧ kk ≤ 7 := ⟨smN mk % 8, by omega, by omega⟩
  have hk3 : (smN mk : Int).tmod 8 = (kk : Int) := by rw [Int.tmod_eq_emod_of_nonneg (by omega)]; exact hk1
  have hsA := smN_le mk
  generalize smN mk = rk at *
  clear hT hT2 hst hst2
  go_enter Tryd.func4, Tryd.ntmps4
  go_wp2_with fail
  refine Calls.mono HBg.out ?_
  rintro e w1 ⟨s, a, t, X, rfl, -, -, hP⟩
  have HS1 : Hid (Ps w s a t 0 w1) := ⟨nilLay, .slice none 0 0, X, hP⟩
  clear hP HBg
  go_wp2_with fail
  go_loopw [16] (fun q wr => ∃ k : Nat, k ≤ 100 ∧ k ≤ sz ∧ q = .int .i64 k ∧ Hid (Ps w s a t k wr)) (fun q _ => 100 - (intOf q).toNat)
  case atStart => exact ⟨0, by omega, by omega, rfl, HS1⟩
  case round =>
    clear HS1
    obtain ⟨k, hk1, hk2', rfl, hq⟩ := hrel
    obtain ⟨l, kv, Y0, hP⟩ := hq.out
    have hfr := hP.pw.fr
    by_cases hc : k < sz ∧ k < 100
    · obtain ⟨hc1, hc2⟩ := hc
      have hao' := hao (by omega)
      subst hao'
      have hb := hb (by omega)
      clear hao
      obtain ⟨K, O, A, B, C, po, co, ss, s0, s1, s2, s3, s4, s5, hls, hA, hB⟩ := HST.out k hc1
      have g0 := (hfr.cell (p := ⟨b, off + k * 6, none⟩) hb (by simp)).trans s0
      have g1 := (hfr.cell (p := ⟨b, off + k * 6 + 1, none⟩) hb (by simp)).trans s1
      have g2 := (hfr.cell (p := ⟨b, off + k * 6 + 2, none⟩) hb (by simp)).trans s2
      have g3 := (hfr.cell (p := ⟨b, off + k * 6 + 3, none⟩) hb (by simp)).trans s3
      have g4 := (hfr.cell (p := ⟨b, off + k * 6 + 4, none⟩) hb (by simp)).trans s4
      have g5 := (hfr.cell (p := ⟨b, off + k * 6 + 5, none⟩) hb (by simp)).trans s5
      have HSt := mkHid (step_k hP (by omega) K O A B C po co ss hls hA hB)
      have k1 : (0 : Int) ≤ (k : Int) := by omega
      have k2 : (k : Int) < (sz : Int) := by omega
      have k3 : (k : Int) < 100 := by omega
      clear hP hq hls s0 s1 s2 s3 s4 s5 hfr
      generalize ss.length = zn at *
      go_wp2_with fail
      refine Calls.mono HSt.out ?_
      rintro e w5 ⟨rfl, hP5⟩
      have HS6 := mkHid hP5
      clear hP5 HSt
      go_wp2_with fail
      go_roundw
      case rel => exact ⟨k + 1, by omega, by omega, by go_num, HS6⟩
      case measure => simp [intOf]; omega
    · have HP := mkHid hP
      have hke : k = sz := by omega
      have hxx : (sz : Int) ≤ (k : Int) := by omega
      have HH0 := mkHid (sHeap_same hP.pw.spc)
      have HM0 := mkHid (smark_ok hP.pw.spc kk (by omega))
      clear hP hq hc hfr HST hao
      generalize wr = wo at *
      go_wp2_with (first
        | (go_at_call 10; refine Calls.mono (HSm.out _) ?_; rintro e w' ⟨rfl, hw'⟩; rw [hw']; clear hw' w')
        | (go_at_call 12; refine Calls.mono HH0.out ?_; rintro e w' ⟨rfl, hw'⟩; rw [hw']; clear hw' w')
        | fail)
      refine Calls.mono HM0.out ?_
      rintro e w1 ⟨rfl, hsp1, hx1⟩
      have hP1 : Pw w w1 s a t l kv { Y0 with mark := kk, H := { Y0.H with mark := kk }, M := { Y0.M with mark := kk } } Y0.root Y0.mark Y0.st := HP.out.pw.nx hsp1 rfl rfl HP.out.pw.br rfl hx1
      have hag1 : ({ Y0 with mark := kk, H := { Y0.H with mark := kk }, M := { Y0.M with mark := kk } } : SpS).H.age ≤ 100 := by have := HP.out.age; show Y0.H.age ≤ 100; omega
      have hro1 : ({ Y0 with mark := kk, H := { Y0.H with mark := kk }, M := { Y0.M with mark := kk } } : SpS).root = 0 ∨ (1 ≤ ({ Y0 with mark := kk, H := { Y0.H with mark := kk }, M := { Y0.M with mark := kk } } : SpS).root ∧ ({ Y0 with mark := kk, H := { Y0.H with mark := kk }, M := { Y0.M with mark := kk } } : SpS).root ≤ 65536) := HP.out.rootIn
      have hsl1 : ({ Y0 with mark := kk, H := { Y0.H with mark := kk }, M := { Y0.M with mark := kk } } : SpS).st.length ≤ 65536 := HP.out.pw.stl
      have hmk1 : ({ Y0 with mark := kk, H := { Y0.H with mark := kk }, M := { Y0.M with mark := kk } } : SpS).mark = kk := rfl
      have hoo1 : ({ Y0 with mark := kk, H := { Y0.H with mark := kk }, M := { Y0.M with mark := kk } } : SpS).oops ≤ 63 := HP.out.oops
      have hww1 : ({ Y0 with mark := kk, H := { Y0.H with mark := kk }, M := { Y0.M with mark := kk } } : SpS).words ≤ 2047 := HP.out.words
      generalize ({ Y0 with mark := kk, H := { Y0.H with mark := kk }, M := { Y0.M with mark := kk } } : SpS) = Y1 at *
      obtain ⟨hT1, -, hT10, ha2⟩ := hP1.tabs
      have HBe := mkHid (begin_ok hP1.spc hP1.br (by omega) hro1 (by omega) hT1 hT10)
      have HP1 := mkHid hP1
      have HMk1 := mkHid hmk1
      clear hsp1 hx1 HM0 HH0 HP hP1 hT1 hT10 hmk1
      go_wp2_with (go_at_call 11; refine Calls.mono (num_any _ _ (by omega) (by omega)) ?_; rintro e w' ⟨rfl, hw'⟩; rw [hw']; clear hw' w')
      refine Calls.mono HBe.out ?_
      rintro e w2 ⟨rfl, st, H2, M2, bb, -, hspB, hagB, hblk, hbb, hfB⟩
      obtain ⟨Y, hY⟩ : ∃ Y : SpS, Y = { Y1 with ks := keepK Y1.ks st, H := H2, M := M2, br := some ⟨bb, 0, none⟩ } := ⟨_, rfl⟩
      rw [← hY] at hspB
      have y_br : Y.br = some ⟨bb, 0, none⟩ := by rw [hY]
      have y_ag : Y.H.age = Y1.H.age + 1 := by rw [hY]; exact hagB
      have y_mk : Y.mark = kk := by rw [hY]; exact HMk1.out
      have y_st : Y.st = Y1.st := by rw [hY]
      have y_sv : Y.sv = Y1.sv := by rw [hY]
      have y_ro : Y.root = Y1.root := by rw [hY]
      have y_oo : Y.oops ≤ 63 := by rw [hY]; exact hoo1
      have y_ww : Y.words ≤ 2047 := by rw [hY]; exact hww1
      have hblk2 : w2.heap[bb]? = some (brC a Y.H.age Y.ks.length kk) := by rw [hblk, hY, HMk1.out]
      have hgeA := HP1.out.geA
      have hgeS := HP1.out.geS
      have hFw2 : Fr [] w w2 := HP1.out.fr.trans hfB (fun g hg => by
        rcases List.mem_cons.1 hg with e | e
        · rw [e]; exact .inr hgeS
        · exact .inr (hgeA g e))
      have hw1s := HP1.out.fr.size
      have hslt : s < w1.heap.size := lt_of_heap HP1.out.spc.top
      have hbs : bb ≠ s := by omega
      have hft1 := HP1.out.spc.rep.lt
      have hbf : bb ∉ foot a l := fun hm => by have := hft1 bb hm; omega
      have hTw2 : Tab w2 := HT.out.fr hFw2 (by omega)
      have hw2s := hFw2.size
      have HBn := mkHid (begin_no hspB (by rw [y_br]; simp) (by rw [y_st]; omega) (by rw [y_ro]; exact hro1) (by omega) hTw2 (by omega))
      have HSB := mkHid hspB
      have HFB := mkHid hFw2
      have HBl := mkHid hblk2
      have HYb := mkHid y_br
      have HYm := mkHid y_mk
      have HYa : Hid (Y.H.age ≤ 102) := by show Y.H.age ≤ 102; omega
      have HYs : Hid (Y.st.length ≤ 65536) := by show Y.st.length ≤ 65536; rw [y_st]; exact hsl1
      have HYr : Hid (Y.root = 0 ∨ (1 ≤ Y.root ∧ Y.root ≤ 65536)) := by show Y.root = 0 ∨ _; rw [y_ro]; exact hro1
      have HgeA := mkHid hgeA
      clear hspB hagB hblk hfB hY hblk2 hFw2 hTw2 HBe HP1 hag1 hro1 hsl1 y_br y_ag y_mk y_st y_sv y_ro hft1 hoo1 hww1 HMk1
      go_wp2_with (go_at_call 11; refine Calls.mono (num_any _ _ (by omega) (by omega)) ?_; rintro e w' ⟨rfl, hw'⟩; rw [hw']; clear hw' w')
      refine Calls.mono HBn.out ?_
      rintro e w3 ⟨rfl, hf3⟩
      have HS3 := mkHid (HSB.out.idle hf3)
      have HF3 := mkHid (HFB.out.trans hf3 (by simp))
      have HBl3 := mkHid ((hf3.block bb (lt_of_heap HBl.out) (by simp)).trans HBl.out)
      clear hf3 HBn HSB HFB HBl
      go_wp2_with (first
        | (go_at_call 11; refine Calls.mono (num_any _ _ (by omega) (by omega)) ?_; rintro e w' ⟨rfl, hw'⟩; rw [hw']; clear hw' w')
        | (go_at_call 12; refine Calls.mono (sHeap_same HS3.out) ?_; rintro e w' ⟨rfl, hw'⟩; rw [hw']; clear hw' w')
        | fail)
      have HYv : Hid (∀ g, Y.sv.ownBlock = some g → g < w3.heap.size) := fun g hg => (HS3.out.stk.lt g hg).2
      refine Calls.mono (state_of HS3.out.rep HS3.out.ka) ?_
      rintro e w4 ⟨pa, ca, lo, rfl, htl, hf4⟩
      obtain ⟨U, hU⟩ : ∃ U, (w4.alloc (.cells #[.int .i64 (Y.words : Int), .int .i64 (Y.oops : Int), .int .i64 (Y.mark : Int), .slice pa Y.ks.length ca] 44)) = U := ⟨_, rfl⟩
      have fU : Fr [] w4 U := by rw [← hU]; exact (Fr.alloc [] _ _)
      have hbU : U.heap[w4.heap.size]? = some (.cells #[.int .i64 (Y.words : Int), .int .i64 (Y.oops : Int), .int .i64 (Y.mark : Int), .slice pa Y.ks.length ca] 44 (0, 0)) := by
        rw [← hU]; exact heap_alloc_new _ _
      obtain ⟨bw, hbw⟩ : ∃ bw, w4.heap.size = bw := ⟨_, rfl⟩
      rw [hbw] at hbU
      have HTr : Hid ((∀ g, (Value.slice pa Y.ks.length ca).ownBlock = some g → g < bw) ∧ ∀ o ∈ lo, ∀ g, o.v.ownBlock = some g → g < bw) := ⟨fun g hg => by have h5 := (htl.rep.row.lt g hg).2; omega, fun o ho g hg => by have h5 := ((htl.rep.slots o ho).lt g hg).2; omega⟩
      have h3U := hf4.trans fU (by simp)
      have HSU := mkHid (HS3.out.idle h3U)
      have HFU := mkHid (HF3.out.trans h3U (by simp))
      have HBlU := mkHid ((h3U.block bb (lt_of_heap HBl3.out) (by simp)).trans HBl3.out)
      have HTl := mkHid (htl.fr fU (by simp))
      have HLt := mkHid HS3.out.rep.lt
      have hsl3 := lt_of_heap HS3.out.top
      have h34 := hf4.size
      have HBU := mkHid hbU
      have HUe := mkHid hU
      have HWe := mkHid hbw
      have hbwg : w3.heap.size ≤ bw := by omega
      have HKp := mkHid (kept_ok HSU.out (by have := HYs.out; omega))
      clear htl hf4 fU hbU hU hbw h3U HS3 HF3 HBl3
      go_wp2_with fail
      rw [HUe.out, HWe.out]
      clear HUe HWe
      refine Calls.mono HKp.out ?_
      rintro e w5 ⟨vk, rfl, hok, hf5⟩
      obtain ⟨pk, ck, rfl⟩ := row_is hok
      have HS5 := mkHid (HSU.out.idle hf5)
      have HF5 := mkHid (HFU.out.trans hf5 (by simp))
      have HBl5 := mkHid ((hf5.block bb (lt_of_heap HBlU.out) (by simp)).trans HBlU.out)
      have HB5 := mkHid ((hf5.block bw (lt_of_heap HBU.out) (by simp)).trans HBU.out)
      have HTl5 := mkHid (HTl.out.fr hf5 (by simp))
      have HKg : Hid (∀ g, (Value.slice pk Y.st.length ck).ownBlock = some g → bw < g) := fun g hg => by have h5 := (hok.lt g hg).1; have h6 := lt_of_heap HBU.out; omega
      have HKr : Hid (w5.ownsRow w3.heap.size 28 1 (.slice pk Y.st.length ck) Y.st.length (Y.st.map (Value.int .i64))) := own_base hok (by have h5 := lt_of_heap HBU.out; omega)
      clear hok hf5 HKp HSU HFU HBlU HBU HTl
      go_wp2_with (first
        | (go_at_call 12; refine Calls.mono (sHeap_same HS5.out) ?_; rintro e w' ⟨rfl, hw'⟩; rw [hw']; clear hw' w')
        | fail)
      refine Calls.mono (sall_len HS5.out) ?_
      rintro e W0 ⟨pA, cA, rfl, hf6⟩
      have HS6 := mkHid (HS5.out.idle hf6)
      have HF6 := mkHid (HF5.out.trans hf6 (by simp))
      have HBl6 := mkHid ((hf6.block bb (lt_of_heap HBl5.out) (by simp)).trans HBl5.out)
      have HB6 := mkHid ((hf6.block bw (lt_of_heap HB5.out) (by simp)).trans HB5.out)
      have HTl6 := mkHid (HTl5.out.fr hf6 (by simp))
      have HKr6 : Hid (W0.ownsRow w3.heap.size 28 1 (.slice pk Y.st.length ck) Y.st.length (Y.st.map (Value.int .i64))) := own_congr HKr.out fun g hg => hf6.block g (HKr.out.lt g hg).2 (by simp)
      have HK0 := mkHid HS6.out.ka
      have hkl := HS6.out.ka.klen
      have HBk0 : Hid (∃ l' X', Bk W0 W0 s a l l' Y X' 0 ∧ MkR kk X'.mark 0 false) := by
        refine ⟨l, Y, ⟨HS6.out, Fr.refl _ _, fun g hg => .inl hg, Ext.refl _, rfl, rfl, rfl, rfl, rfl, rfl, rfl, [], by simp, rfl⟩, .inl ⟨rfl, ?_⟩⟩
        rw [HYm.out]
        omega
      have HFw : Hid (∀ V, Fr (foot a l) W0 V → Fr [] w V) := fun V hV => HF6.out.trans hV (fun g hg => .inr (HgeA.out g hg))
      have HTb : Hid (∀ V, Fr (foot a l) W0 V → Tab V ∧ (∀ V', Fr [] V V' → Tab64 V') ∧ 0 < V.heap.size ∧ 2 ≤ V.heap.size) := fun V hV => by
        have h5 := HFw.out V hV
        have h6 := h5.size
        exact ⟨HT.out.fr h5 (by omega), fun V' hV' => HT2.out.keep (h5.trans hV' (by simp)) (by omega) (by simp), by omega, by omega⟩
      have ha2' := ha2
      have HBb0 : Hid (∀ V, Fr (foot a l) W0 V → V.heap[bb]? = some (brC a Y.H.age Y.ks.length kk)) := fun V hV => (hV.block bb (lt_of_heap HBl6.out) hbf).trans HBl6.out
      clear hf6 HS5 HF5 HBl5 HB5 HTl5 HKr
      obtain ⟨kn, hkn⟩ : ∃ kn, Y.ks.length = kn := ⟨_, rfl⟩
      have HKn := mkHid hkn
      rw [hkn] at hkl HB6 HBb0 HTl6 ⊢
      clear hkn
      go_wp2_with fail
      go_loopw [22, 23, 24] (fun v22 v23 q wr => ∃ (j made : Nat) (hit : Bool), j ≤ 60 ∧ j ≤ sz2 ∧ made ≤ j ∧ q = .int .i64 j ∧ v22 = .int .i64 made ∧ v23 = .bool hit ∧ Hid (∃ l' X', Bk W0 wr s a l l' Y X' made ∧ MkR kk X'.mark made hit)) (fun _ _ q _ => 60 - (intOf q).toNat)
      case atStart => exact ⟨0, 0, false, by omega, by omega, by omega, rfl, rfl, rfl, HBk0⟩
      case round =>
        clear HBk0
        obtain ⟨j, made, hit, hj1, hj2, hj3, rfl, rfl, rfl, hq⟩ := hrel
        obtain ⟨l7, X7, hbk, hmr⟩ := hq.out
        have hfrW := hbk.fr
        have hfw := HFw.out wr hfrW
        obtain ⟨tT, tT2, tT0, tTb⟩ := HTb.out wr hfrW
        by_cases hc : j < sz2 ∧ j < 60
        · obtain ⟨hc1, hc2⟩ := hc
          have hao' := hao2 (by omega)
          subst hao'
          have hb2' := hb2 (by omega)
          obtain ⟨K, O, A, B, C, po, co, ss, -, -, s2, s3, -, -, -, -, -⟩ := HST2.out j hc1
          have g2 := (hfw.cell (p := ⟨b2, off2 + j * 6 + 2, none⟩) hb2' (by simp)).trans s2
          have g3 := (hfw.cell (p := ⟨b2, off2 + j * 6 + 3, none⟩) hb2' (by simp)).trans s3
          obtain ⟨nn, hn1, hn2⟩ : ∃ nn : Nat, (smN A : Int) % 64 = (nn : Int) ∧ nn ≤ 63 := ⟨smN A % 64, by omega, by omega⟩
          obtain ⟨ff, hf1, hf2⟩ : ∃ ff : Nat, (smN B : Int) % 2 = (ff : Int) ∧ ff ≤ 1 := ⟨smN B % 2, by omega, by omega⟩
          have hn3 : (smN A : Int).tmod 64 = (nn : Int) := by rw [Int.tmod_eq_emod_of_nonneg (by omega)]; exact hn1
          have hf3 : (smN B : Int).tmod 2 = (ff : Int) := by rw [Int.tmod_eq_emod_of_nonneg (by omega)]; exact hf1
          have hsmA := smN_le A
          have hsmB := smN_le B
          have HAl := mkHid (hbk.alloc hmr (by rw [HYb.out]; simp) nn ff (by omega) hf2 tT tT0 tT2 ha2')
          have HsA := mkHid (fun W => small_ok A W)
          have HsB := mkHid (fun W => small_ok B W)
          have k1 : (0 : Int) ≤ (j : Int) := by omega
          have k2 : (j : Int) < (sz2 : Int) := by omega
          have k3 : (j : Int) < 60 := by omega
          clear hbk hmr hq s2 s3 hfrW hfw tT tT2
          generalize smN A = rA at *
          generalize smN B = rB at *
          go_wp2_with (first
            | (go_at_call 10; refine Calls.mono (HsA.out _) ?_; rintro e w' ⟨rfl, hw'⟩; rw [hw']; clear hw' w')
            | (go_at_call 10; refine Calls.mono (HsB.out _) ?_; rintro e w' ⟨rfl, hw'⟩; rw [hw']; clear hw' w')
            | fail)
          refine Calls.mono HAl.out ?_
          rintro e w8 ⟨q8, E, l8, X8, made8, hit8, rfl, hbk8, hmr8, hh8, hm8, hE1, hE2⟩
          obtain ⟨uT, uT2, uT0, -⟩ := HTb.out w8 hbk8.fr
          have HCo := mkHid (collect_ok hbk8.spc (by rw [hbk8.st]; have := HYs.out; omega) (by rw [hbk8.root]; exact HYr.out) (by rw [hbk8.age]; have := HYa.out; omega) uT uT0)
          have HBr8 : Hid (X8.br ≠ none) := by show X8.br ≠ none; rw [hbk8.br, HYb.out]; simp
          have HB8 := mkHid hbk8
          have HM8 := mkHid hmr8
          have HH8 := mkHid hh8
          clear hbk8 hmr8 hh8 uT uT2 uT0 HAl HsA HsB
          go_wp2_with fail
          refine Calls.mono HCo.out ?_
          rintro e w9 (⟨-, rfl, hf9⟩ | ⟨h5, -⟩)
          rotate_left
          · exact absurd h5 HBr8.out
          have HB9 := mkHid (HB8.out.idle hf9)
          have HAl9 : Hid (Calls Tryd.prog 17 #[.pointer (some ⟨a, 0, none⟩)] w9 fun e w' => ∃ p c, e = .returned (.slice p (kn + made8) c) ∧ Fr [] w9 w') := by
            have h5 := sall_len HB9.out.spc
            obtain ⟨new, e1, e2⟩ := HB9.out.keys
            have e3 : X8.ks.length = kn + made8 := by rw [e1, List.length_append, e2, HKn.out]
            rw [e3] at h5
            exact h5
          have HHp9 := mkHid (sHeap_same HB9.out.spc)
          have hb0 : (E == 0) = true ∨ ((E == 0) = false ∧ (E == 24) = true) ∨ ((E == 0) = false ∧ (E == 24) = false) := by
            cases (E == 0) <;> cases (E == 24) <;> simp
          have HNx : Hid (∀ V, Fr [] w9 V → ∃ l' X', Bk W0 V s a l l' Y X' made8 ∧ MkR kk X'.mark made8 hit8) := fun V hV => ⟨l8, X8, HB9.out.idle hV, HM8.out⟩
          have hm8' : ((E == 0) = true → made8 = made + 1) ∧ ((E == 0) = false → made8 = made) := by
            refine ⟨fun h5 => ?_, fun h5 => ?_⟩
            · rw [hm8, if_pos (by simpa using h5)]
            · rw [hm8, if_neg (by simpa using h5)]
          clear hf9 HCo HB8 HBr8 hm8 HB9
          rcases hb0 with hE0 | ⟨hE0, hE24⟩ | ⟨hE0, hE24⟩
          case' inl =>
            have hE24 : (E == 24) = false := by
              have e5 : E = 0 := by simpa using hE0
              rw [e5]; decide
            have hmade := hm8'.1 hE0
          case' inr.inl => have hmade := hm8'.2 hE0
          case' inr.inr => have hmade := hm8'.2 hE0
          all_goals
            subst hmade
            cases hit
          all_goals
            have hh9 := HH8.out
            rw [hE24] at hh9
            simp only [Bool.or_true, Bool.or_false, Bool.false_or, Bool.true_or] at hh9
            subst hh9
            clear HH8 hm8' HM8
            go_wp2_with (first
              | (go_at_call 11; refine Calls.mono (num_any _ _ (by omega) (by omega)) ?_; rintro e w' ⟨rfl, hw'⟩; rw [hw']; clear hw' w')
              | (go_at_call 12; refine Calls.mono HHp9.out ?_; rintro e w' ⟨rfl, hw'⟩; rw [hw']; clear hw' w')
              | fail)
            refine Calls.mono HAl9.out ?_
            rintro e wA ⟨pB, cB, rfl, hfA⟩
            have HNA := mkHid (HNx.out wA hfA)
            clear hfA HAl9 HHp9 HNx
            go_wp2_with fail
            go_roundw
            case rel => exact ⟨j + 1, _, _, by omega, by omega, by omega, by go_num, by go_num, rfl, HNA⟩
            case measure => simp [intOf]; omega
        · have hxx2 : (sz2 : Int) ≤ (j : Int) ∨ ((j : Int) < (sz2 : Int) ∧ (60 : Int) ≤ (j : Int)) := by omega
          have HBk := mkHid hbk
          have HMr := mkHid hmr
          have HHp := mkHid (sHeap_same hbk.spc)
          have HMk : Hid (Calls Tryd.prog 20 #[.pointer (some ⟨a, 0, none⟩)] wr fun e w' => e = .returned (.int .i64 (X7.mark : Int)) ∧ w' = wr) := by
            have h5 := Marked_any a l7 X7.H wr hbk.spc.rep
            rw [hbk.spc.ka.mark] at h5
            exact h5
          clear hbk hq hc tT tT2 HST2 hao2 hfrW
          generalize wr = wz at *
          have h3 : (hit = false ∧ kk = 0 ∧ X7.mark = 0) ∨ (hit = false ∧ 0 < kk ∧ 0 < X7.mark) ∨ (hit = true ∧ 0 < kk ∧ X7.mark = 0 ∧ kk - 1 ≤ made) := by
            rcases HMr.out with ⟨e0, ⟨h1, h2⟩ | ⟨h1, h2⟩⟩ | ⟨e0, h1, h2, h3⟩
            · exact .inl ⟨e0, h1, h2⟩
            · exact .inr (.inl ⟨e0, by omega, by omega⟩)
            · exact .inr (.inr ⟨e0, h1, h2, h3⟩)
          have hmm : (X7.mark : Int) ≤ 1073741824 := by
            have h4 := HBk.out.spc.ka.inv.safe.small.mark
            have h5 := HBk.out.spc.ka.mark
            omega
          obtain ⟨mk7, hmk7⟩ : ∃ mk7, X7.mark = mk7 := ⟨_, rfl⟩
          have HM7 := mkHid hmk7
          rw [hmk7] at h3 HMk hmm
          clear hmk7 HMr
          rcases h3 with ⟨rfl, hz1, hz2⟩ | ⟨rfl, hz1, hz2⟩ | ⟨rfl, hz1, hz2, hz3⟩
          case' inl =>
            have q1 : decide (0 < kk) = false := decide_eq_false (by omega)
            have q1' : decide ((0 : Int) < (kk : Int)) = false := decide_eq_false (by omega)
          case' inr.inl =>
            have q1 : (0 : Int) < (kk : Int) := by omega
            have q2 : ((mk7 : Int) == 0) = false := by simpa using (by omega : ¬ (mk7 : Int) = 0)
          case' inr.inr =>
            have q1 : (0 : Int) < (kk : Int) := by omega
            have q2 : ((mk7 : Int) == 0) = true := by simpa using (by omega : (mk7 : Int) = 0)
            have q3 : (kk : Int) - 1 ≤ (made : Int) := by omega
            have q3' : decide ((made : Int) < (kk : Int) - 1) = false := decide_eq_false (by omega)
          all_goals rcases hxx2 with hxx2 | ⟨hxx2, hxx3⟩
          all_goals
            obtain ⟨new, e1, e2⟩ := HBk.out.keys
            have hk0 : KA X7.words X7.oops Y.mark Y.ks Y.H Y.M := by rw [HBk.out.words, HBk.out.oops]; exact HK0.out
            have HAb := mkHid (abort_ok HBk.out.spc (HBk.out.br.trans HYb.out) (by rw [HBk.out.age]; exact HBb0.out wz HBk.out.fr) hk0 e1 HKn.out.symm HBk.out.age HBk.out.ext (by rw [HBk.out.age]; have := HYa.out; omega) (fun hm => by
                rcases HBk.out.newl bb hm with h5 | h5
                · exact hbf h5
                · have h6 := lt_of_heap HBl6.out; omega) hbs (by omega : (kk : Int) ≤ 1073741824))
            clear e1 e2 hk0
            go_wp2_with (first
              | (go_at_call 11; refine Calls.mono (num_any _ _ (by omega) (by omega)) ?_; rintro e w' ⟨rfl, hw'⟩; rw [hw']; clear hw' w')
              | (go_at_call 12; refine Calls.mono HHp.out ?_; rintro e w' ⟨rfl, hw'⟩; rw [hw']; clear hw' w')
              | (go_at_call 20; refine Calls.mono HMk.out ?_; rintro e w' ⟨rfl, hw'⟩; rw [hw']; clear hw' w')
              | fail)
            refine Calls.mono HAb.out ?_
            rintro e wA ⟨rfl, HA, MA, hspA, hfA⟩
            have HSA := mkHid hspA
            have F0A : Fr (s :: foot a l) W0 wA := (HBk.out.fr.mono (fun g hg => .inl (by simp [hg]))).trans hfA (fun g hg => by
              rcases List.mem_cons.1 hg with e | e
              · rw [e]; exact .inl (by simp)
              · rcases HBk.out.newl g e with h5 | h5
                · exact .inl (by simp [h5])
                · exact .inr h5)
            have HFA := mkHid F0A
            have HAn := mkHid (abort_no hspA rfl)
            clear hspA hfA HAb F0A
            go_wp2_with (go_at_call 11; refine Calls.mono (num_any _ _ (by omega) (by omega)) ?_; rintro e w' ⟨rfl, hw'⟩; rw [hw']; clear hw' w')
            refine Calls.mono HAn.out ?_
            rintro e wB ⟨rfl, hfB⟩
            have HSB2 := mkHid (HSA.out.idle hfB)
            have HFB2 : Hid (Fr (s :: foot a l) W0 wB) := HFA.out.trans hfB (by simp)
            have hbwS : bw ∉ s :: foot a l := fun hm => by
              rcases List.mem_cons.1 hm with e | e
              · omega
              · have h5 := HLt.out bw e; omega
            have hbW := (HFB2.out.block bw (lt_of_heap HB6.out) hbwS).trans HB6.out
            have c2w : wB.cell? ⟨bw, 2, none⟩ = some (.int .i64 (Y.mark : Int)) := by rw [cell_in hbW]; rfl
            have fzw := frozen_in hbW 2
            have HBW := mkHid hbW
            have HTB : Hid (Tld wB w3.heap.size (.slice pa kn ca) lo Y.ks) := HTl6.out.fr HFB2.out (fun g hg => by
              rcases List.mem_cons.1 hg with e | e
              · rw [e]; exact hsl3
              · exact HLt.out g e)
            have HKB : Hid (Rd wB (.slice pk Y.st.length ck) Y.st) := own_rd (own_congr HKr6.out fun g hg => HFB2.out.block g (HKr6.out.lt g hg).2 (fun hm => by
              have h5 := (HKr6.out.lt g hg).1
              rcases List.mem_cons.1 hm with e | e
              · omega
              · have h6 := HLt.out g e; omega)) (by have := HYs.out; omega)
            have HFw2 : Hid (Fr [] w wB) := HF6.out.trans HFB2.out (fun g hg => by
              rcases List.mem_cons.1 hg with e | e
              · rw [e]; exact .inr hgeS
              · exact .inr (HgeA.out g e))
            clear hfB HAn HSA HFA hbW
          all_goals first
            | (have hz4 := hz3
               obtain ⟨mf, hmf⟩ : ∃ mf : Nat, mf = 0 := ⟨_, rfl⟩
               have HSF : Hid (∃ HF MF, Spc wB s a l7 { Y with br := none, mark := mf, ks := Y.ks, H := HF, M := MF }) := by
                 refine ⟨HA, MA, ?_⟩
                 have e1 : abM kk X7.mark = mf := by
                   rw [HM7.out, hmf]
                   unfold abM
                   rw [if_pos (.inr hz2)]
                   exact hz2
                 rw [← sps_same X7 Y HBk.out.words HBk.out.oops HBk.out.root HBk.out.st HBk.out.sv, ← e1]
                 exact HSB2.out
               obtain ⟨WF, hWF⟩ : ∃ WF, WF = wB.setCell ⟨bw, 2, none⟩ (.int .i64 0) := ⟨_, rfl⟩
               have hFWF : Fr [bw] wB WF := by rw [hWF]; exact Fr.setCell (S := [bw]) _ ⟨bw, 2, none⟩ _ (by simp)
               have hbF : WF.heap[bw]? = some (.cells #[.int .i64 (Y.words : Int), .int .i64 (Y.oops : Int), .int .i64 (mf : Int), .slice pa kn ca] 44 (0, 0)) := by
                 rw [hWF, set_in HBW.out 2 _, hmf]; rfl)
            | (have hz4 := hz1
               obtain ⟨mf, hmf⟩ : ∃ mf : Nat, mf = kk := ⟨_, rfl⟩
               have HSF : Hid (∃ HF MF, Spc wB s a l7 { Y with br := none, mark := mf, ks := Y.ks, H := HF, M := MF }) := by
                 refine ⟨HA, MA, ?_⟩
                 have e1 : abM kk X7.mark = mf := by
                   rw [HM7.out, hmf]
                   unfold abM
                   first
                     | (rw [if_pos (.inl hz1)]; omega)
                     | (rw [if_neg (fun h => by rcases h with h | h <;> omega)])
                 rw [← sps_same X7 Y HBk.out.words HBk.out.oops HBk.out.root HBk.out.st HBk.out.sv, ← e1]
                 exact HSB2.out
               obtain ⟨WF, hWF⟩ : ∃ WF, WF = wB := ⟨_, rfl⟩
               have hFWF : Fr [bw] wB WF := by rw [hWF]; exact Fr.refl _ _
               have hbF : WF.heap[bw]? = some (.cells #[.int .i64 (Y.words : Int), .int .i64 (Y.oops : Int), .int .i64 (mf : Int), .slice pa kn ca] 44 (0, 0)) := by rw [hWF, HBW.out, HYm.out, hmf])
          all_goals
            have HSW : Hid (∃ HF MF, Spc WF s a l7 { Y with br := none, mark := mf, ks := Y.ks, H := HF, M := MF }) := by
              obtain ⟨HF, MF, h5⟩ := HSF.out
              have h6 : bw ∉ foot a l7 := fun hm => by
                rcases HBk.out.newl bw hm with h7 | h7
                · have h8 := HLt.out bw h7; omega
                · have h8 := lt_of_heap HB6.out; omega
              have h7 : bw ≠ s := by omega
              have hsv : ∀ g, Y.sv.ownBlock = some g → g ∉ [bw] := fun g hg hm => by
                have h8 := mem_single hm
                have h11 := HYv.out g hg
                omega
              refine ⟨HF, MF, ⟨(hFWF.block s (lt_of_heap h5.top) (by simpa using fun e => h7 e.symm)).trans h5.top, h5.rep.keep hFWF (fun g hg hm => h6 (by rw [← mem_single hm]; exact hg)), h5.ka, own_congr h5.stk fun g hg => hFWF.block g (h5.stk.lt g hg).2 (hsv g hg), h5.sepS, h5.sepV⟩⟩
            have HTW : Hid (Tld WF w3.heap.size (.slice pa kn ca) lo Y.ks) := by
              refine ⟨⟨own_congr HTB.out.rep.row fun g hg => hFWF.block g (HTB.out.rep.row.lt g hg).2 ?_, fun o ho => own_congr (HTB.out.rep.slots o ho) fun g hg => hFWF.block g ((HTB.out.rep.slots o ho).lt g hg).2 ?_⟩, HTB.out.keys, HTB.out.len, HTB.out.slots⟩
              · have h5 := HTr.out.1 g (by rw [HKn.out]; exact hg)
                intro hm
                have h6 := mem_single hm
                omega
              · have h5 := HTr.out.2 o ho g hg
                intro hm
                have h6 := mem_single hm
                omega
            have HKF : Hid (Rd WF (.slice pk Y.st.length ck) Y.st) := HKB.out.keep hFWF (fun _ g hg hm => by
              have h5 := HKg.out g hg
              have h6 := mem_single hm
              omega)
            have HBF := mkHid hbF
            have HWFe := mkHid hWF
            have HFWF := mkHid hFWF
            have HFwF : Hid (Fr [] w WF) := HFw2.out.trans hFWF (fun g hg => .inr (by rw [mem_single hg]; omega))
            have HCF : Hid (∀ W, Hid (Fr [] WF W) → (W.cell? ⟨bw, 0, none⟩ = some (.int .i64 (Y.words : Int)) ∧ W.cell? ⟨bw, 1, none⟩ = some (.int .i64 (Y.oops : Int)) ∧ W.cell? ⟨bw, 2, none⟩ = some (.int .i64 (mf : Int)) ∧ W.cell? ⟨bw, 3, none⟩ = some (.slice pa kn ca))) := fun W hW => by
              have e4 := (hW.out.block bw (lt_of_heap HBF.out) (by simp)).trans HBF.out
              refine ⟨?_, ?_, ?_, ?_⟩ <;> (rw [cell_in e4]; rfl)
            have HHF : Hid (∀ W, Hid (Fr [] WF W) → Calls Tryd.prog 12 #[.pointer (some ⟨s, 0, none⟩)] W fun e w' => e = .returned (.pointer (some ⟨a, 0, none⟩)) ∧ w' = W) := fun W hW => by
              obtain ⟨HF, MF, h5⟩ := HSW.out
              exact sHeap_same (h5.idle hW.out)
            have HStF : Hid (∀ W, Hid (Fr [] WF W) → Calls Tryd.prog 15 #[.pointer (some ⟨a, 0, none⟩)] W fun e w' => ∃ pn cn, e = .returned (.agg #[.int .i64 (Y.words : Int), .int .i64 (Y.oops : Int), .int .i64 (mf : Int), .slice pn kn cn]) ∧ Hid (∃ ln base, Tld w' base (.slice pn kn cn) ln Y.ks) ∧ Hid (Fr [] WF w')) := fun W hW => by
              obtain ⟨HF, MF, h5⟩ := HSW.out
              have hPW := h5.idle hW.out
              refine (state_of hPW.rep hPW.ka).mono ?_
              rintro e w' ⟨pn, cn, ln, rfl, h6, h7⟩
              have h6' : Tld w' W.heap.size (.slice pn Y.ks.length cn) ln Y.ks := h6
              rw [HKn.out] at h6'
              refine ⟨pn, cn, ?_, ⟨ln, _, h6'⟩, hW.out.trans h7 (by simp)⟩
              rw [← HKn.out]
            have HSsF : Hid (∀ W pn cn, Hid (∃ ln base, Tld W base (.slice pn kn cn) ln Y.ks) → Hid (Fr [] WF W) → Calls Tryd.prog 23 #[.agg #[.int .i64 (Y.words : Int), .int .i64 (Y.oops : Int), .int .i64 (mf : Int), .slice pn kn cn], .agg #[.int .i64 (Y.words : Int), .int .i64 (Y.oops : Int), .int .i64 (mf : Int), .slice pa kn ca]] W fun e w' => e = .returned (.bool true) ∧ Hid (Fr [] WF w')) := fun W pn cn ht hW => by
              obtain ⟨ln, base, h5⟩ := ht.out
              have h6 := HTW.out.fr hW.out (by simp)
              refine (sameState_at Y.words Y.oops mf _ _ (ln.map toOI) (lo.map toOI) W h5.sat h6.sat (by rw [h5.keys, h6.keys])).mono ?_
              rintro e w' ⟨rfl, hf⟩
              exact ⟨rfl, hW.out.trans hf (by simp)⟩
            have HKpF : Hid (∀ W, Hid (Fr [] WF W) → Calls Tryd.prog 16 #[.pointer (some ⟨s, 0, none⟩)] W fun e w' => ∃ pq cq, e = .returned (.slice pq Y.st.length cq) ∧ Hid (Rd w' (.slice pq Y.st.length cq) Y.st) ∧ Hid (Fr [] WF w')) := fun W hW => by
              obtain ⟨HF, MF, h5⟩ := HSW.out
              have hys := HYs.out
              refine (kept_ok (h5.idle hW.out) (by show Y.st.length ≤ 1000000; omega)).mono ?_
              rintro e w' ⟨v, rfl, hv, hf⟩
              obtain ⟨pq, cq, rfl⟩ := row_is hv
              exact ⟨pq, cq, rfl, own_rd hv (by show Y.st.length ≤ _; omega), hW.out.trans hf (by simp)⟩
            have HSwF : Hid (∀ W pq cq, Hid (Fr [] WF W) → Hid (Rd W (.slice pq Y.st.length cq) Y.st) → Calls Tryd.prog 24 #[.slice pq Y.st.length cq, .slice pk Y.st.length ck] W fun e w' => e = .returned (.bool true) ∧ Hid (Fr [] WF w')) := fun W pq cq hW hr => by
              refine (sameWords_ok Y.st _ _ W hr.out (HKF.out.idle hW.out)).mono ?_
              rintro e w' ⟨rfl, x, rfl⟩
              exact ⟨rfl, hW.out.trans (Fr.drewN [] _ _) (by simp)⟩
            have HAvF : Hid (∀ W, Hid (Fr [] WF W) → Calls Tryd.prog 9 #[] W fun e w' => e = .returned (.bool true) ∧ Hid (Fr [] WF w')) := fun W hW => by
              have h5 := HFwF.out.trans hW.out (by simp)
              have h6 := h5.size
              refine (alive_s W (HT.out.fr h5 (by omega)) (HT2.out.keep h5 (by omega) (by simp)) (by omega)).mono ?_
              rintro e w' ⟨rfl, hf⟩
              exact ⟨rfl, hW.out.trans hf (by simp)⟩
            have hRF : Hid (Fr [] WF WF) := Fr.refl _ _
            clear hbF hWF hFWF hmf HSF HTB HKB HBW HSB2
          all_goals
            go_wp2_with (go_at_call 11; refine Calls.mono (num_any _ _ (by omega) (by omega)) ?_; rintro e w' ⟨rfl, hw'⟩; rw [hw']; clear hw' w')
            rw [← HWFe.out]
          all_goals
            go_region_held3 (fun W => (W.cell? ⟨bw, 0, none⟩ = some (.int .i64 (Y.words : Int)) ∧ W.cell? ⟨bw, 1, none⟩ = some (.int .i64 (Y.oops : Int)) ∧ W.cell? ⟨bw, 2, none⟩ = some (.int .i64 (mf : Int)) ∧ W.cell? ⟨bw, 3, none⟩ = some (.slice pa kn ca)))
              (first
                | exact HCF.out _ (hid_drew hRF)
                | exact HCF.out _ hRF
                | exact HCF.out _ hgH
                | exact HCF.out _ hgG
                | exact HCF.out _ hgE
                | exact HCF.out _ hgD
                | exact HCF.out _ hgC)
              (first
                | (go_at_call 9; refine (HAvF.out _ hgG).mono ?_; rintro e wH ⟨rfl, hgH⟩)
                | (go_at_call 24; refine (HSwF.out _ _ _ hgE hrE).mono ?_; rintro e wG ⟨rfl, hgG⟩)
                | (go_at_call 16; refine (HKpF.out _ hgD).mono ?_; rintro e wE ⟨pq, cq, rfl, hrE, hgE⟩)
                | (go_at_call 23; refine (HSsF.out _ _ _ htC hgC).mono ?_; rintro e wD ⟨rfl, hgD⟩)
                | (go_at_call 15; refine (HStF.out _ (hid_drew hRF)).mono ?_; rintro e wC ⟨pn, cn, rfl, htC, hgC⟩)
                | (go_at_call 12; refine (HHF.out _ (hid_drew hRF)).mono ?_; rintro e w' ⟨rfl, hw'⟩; rw [hw']; clear hw' w'))
          all_goals go_wp2_with fail
          all_goals
            go_ret
            exact ⟨rfl, HFwF.out.trans hgH.out (by simp)⟩
end Go.Proofs.YtkmjimdaimbdfaaDoor
