import Derived.Test.YtalcnihagnnkaaaDoorKHBackW
import Derived.Test.YtalcnihagnnkaaaDoorKHKeepsM
namespace Go.Proofs.YtalcnihagnnkaaaDoor
open Go.RowKit
set_option linter.unusedVariables false
attribute [local go_sem ↓] Go.wp_at_zero Go.wp_at_succ
/-- what was laid aside at the point: the state, the point -/
structure Aside (V0 : World) (a : Nat) (l0 : Lay) (H0 : HS) (M0 : MS) (p14 p15 : Nat) (ov : Value) (ls : List OS) : Prop where
  b14 : V0.heap[p14]? = some (.cells #[.int .i64 (H0.words : Int), .int .i64 (H0.oops : Int), .int .i64 (H0.mark : Int), ov] 38 (0, 0))
  b15 : V0.heap[p15]? = some (.cells #[.pointer (some ⟨a, 0, none⟩), .int .i64 (H0.age : Int), .int .i64 (H0.order.length : Int)] 62 (0, 0))
  n14 : p14 ∉ foot a l0
  n15 : p15 ∉ foot a l0
  srep : ∃ base, SRep V0 base ov ls ∧ ∀ b ∈ foot a l0, b < base
  keys : ls.map osKey = stKeys H0 M0.things H0.order.length
theorem Aside.keep {V0 V : World} {a p14 p15 : Nat} {l0 l : Lay} {H0 : HS} {M0 : MS} {ov : Value} {ls : List OS} (h : Aside V0 a l0 H0 M0 p14 p15 ov ls) (hx : Nx a l0 l V0 V) : Aside V a l0 H0 M0 p14 p15 ov ls := by
  obtain ⟨base, h1, h2⟩ := h.srep
  refine ⟨(hx.1.block _ (lt_of_heap h.b14) h.n14).trans h.b14, (hx.1.block _ (lt_of_heap h.b15) h.n15).trans h.b15, h.n14, h.n15, ⟨base, ⟨own_congr h1.row fun g hg => hx.1.block g (h1.row.lt g hg).2 (fun hb => by have := h2 g hb; have := (h1.row.lt g hg).1; omega), fun o ho => own_congr (h1.slots o ho) fun g hg => hx.1.block g ((h1.slots o ho).lt g hg).2 (fun hb => by have := h2 g hb; have := ((h1.slots o ho).lt g hg).1; omega)⟩, h2⟩, h.keys⟩
theorem Aside.idle {V0 V : World} {a p14 p15 : Nat} {l0 : Lay} {H0 : HS} {M0 : MS} {ov : Value} {ls : List OS} (h : Aside V0 a l0 H0 M0 p14 p15 ov ls) (hf : Fr [] V0 V) : Aside V a l0 H0 M0 p14 p15 ov ls := h.keep (l := l0) (Nx.frw (hf.mono (by simp)))
/-- how all stands behind the point -/
def Stood (w V0 : World) (a m : Nat) (l0 : Lay) (H0 : HS) (M0 : MS) (W : World) : Prop := ∃ l H M, Side w a m W l H M0 ∧ Behind H0 M0 H M ∧ Nx a l0 l V0 W
set_option maxRecDepth 20000 in
set_option maxHeartbeats 8000000 in
theorem back_any (n1 n2 : Int) (ao bo : Option Addr) (b off sz c b2 off2 sz2 c2 : Nat) (w : World) (hao : 0 < sz → ao = some ⟨b, off, none⟩) (hbo : 0 < sz2 → bo = some ⟨b2, off2, none⟩) (hT : Tab w) (hT2 : Tab64 w) (h2 : 2 ≤ w.heap.size) (u0 : -9223372036854775808 ≤ n1) (u1 : n1 ≤ 9223372036854775807) (v0 : -9223372036854775808 ≤ n2) (v1 : n2 ≤ 9223372036854775807)
    (hb : 0 < sz → b < w.heap.size) (hb2 : 0 < sz2 → b2 < w.heap.size) (hsz : (sz : Int) ≤ 9223372036854775807) (hsz2 : (sz2 : Int) ≤ 9223372036854775807) (hst : ∀ i, i < sz → StepAt w b off i) (hst2 : ∀ i, i < sz2 → StepAt w b2 off2 i) :
    Calls Tryd.prog 6 #[.int .i64 n1, .int .i64 n2, .slice ao sz c, .slice bo sz2 c2] w fun e w' => e = .returned (.bool true) ∧ Fr [] w w' := by
  have HT := mkHid hT
  have HT2 := mkHid hT2
  have HST := mkHid hst
  have HST2 := mkHid hst2
  obtain ⟨r1, hr1, hs1⟩ := small_det n1 u0 u1
  obtain ⟨r2, hr2, hs2⟩ := small_det n2 v0 v1
  have HS1 := mkHid hs1
  have HS2 := mkHid hs2
  clear hT hT2 hst hst2 hs1 hs2 u0 u1 v0 v1
  go_enter Tryd.func6, Tryd.ntmps6
  go_wp2_with fail
  refine Calls.mono (HS1.out w) ?_
  rintro e w1 ⟨rfl, hw1⟩
  rw [hw1]
  clear hw1 w1
  go_wp2_with fail
  refine Calls.mono (HS2.out w) ?_
  rintro e w1 ⟨rfl, hw1⟩
  rw [hw1]
  clear hw1 w1
  obtain ⟨r3, hr3, hr4⟩ : ∃ r3 : Nat, (r2 : Int) % 256 = (r3 : Int) ∧ r3 ≤ 255 := ⟨r2 % 256, by omega, by omega⟩
  have hr5 : (r2 : Int).tmod 256 = (r3 : Int) := by rw [Int.tmod_eq_emod_of_nonneg (by omega)]; exact hr3
  go_wp2_with fail
  refine Calls.mono (New_in r1 r3 w (by omega) (by omega)) ?_
  rintro e w1 ⟨rfl, hrep, hf1, hsz1⟩
  have HR1 := mkHid hrep
  have HF1 := mkHid hf1
  clear hrep hf1
  go_wp2_with (go_at_call 11; refine (num_any _ _ (by omega) (by omega)).mono ?_; rintro e w' ⟨rfl, hw'⟩; rw [hw']; clear hw' w')
  refine Calls.mono (alive_any w1 (HT.out.fr HF1.out (by omega)) (HT2.out.keep HF1.out (by omega) (by simp)) (by omega)) ?_
  rintro e w3 ⟨rfl, hf3⟩
  have HS3 : Hid (Stands w w.heap.size w3.heap.size 0 (w3.alloc (.cells #[.int .i64 (r1 : Int), .int .i64 (r3 : Int), .int .i64 0, .slice none 0 0] 55))) := by
    have hw3 := hf3.size
    refine ⟨nilLay, emptyH r1 r3, emptyM r1 r3, side_new w _ _ _ r1 r3 ((HR1.out.keep hf3 (by simp)).alloc _) (heap_alloc_new _ _) ((HF1.out.trans hf3 (by simp)).trans (Fr.alloc [] _ _) (by simp)) (Nat.le_refl _) (by omega) (by omega), inv_empty r1 r3 (by omega) (by omega), Nat.le_refl _⟩
  clear hf3 HR1 HF1
  go_wp2_with fail
  refine Calls.mono (HS2.out w3) ?_
  rintro e w4 ⟨rfl, hw4⟩
  rw [hw4]
  clear hw4 w4
  go_wp2_with fail
  generalize w3.heap.size = m at *
  generalize w3.alloc (.cells #[.int .i64 (r1 : Int), .int .i64 (r3 : Int), .int .i64 0, .slice none 0 0] 55) = w33 at *
  go_loopw [13] (fun q wr => ∃ k : Nat, k ≤ 100 ∧ k ≤ sz ∧ q = .int .i64 k ∧ Hid (Stands w w.heap.size m k wr)) (fun q _ => 100 - (intOf q).toNat)
  case atStart => exact ⟨0, by omega, by omega, rfl, by simpa [hr3] using HS3⟩
  case round =>
    obtain ⟨k, hk1, hk2, rfl, hq⟩ := hrel
    by_cases hc : k < sz ∧ k < 100
    · obtain ⟨hc1, hc2⟩ := hc
      have hao' := hao (by omega)
      subst hao'
      have hb := hb (by omega)
      clear hao
      obtain ⟨l, H, M, hside, hinv, hage⟩ := hq.out
      obtain ⟨K, O, A, B, C, X, lo, lc, zs, s0, s1, s2, s3, s4, s5, s6, hls⟩ := HST.out k hc1
      have g0 := (hside.fr.cell (p := ⟨b, off + k * 7, none⟩) hb (by simp)).trans s0
      have g1 := (hside.fr.cell (p := ⟨b, off + k * 7 + 1, none⟩) hb (by simp)).trans s1
      have g2 := (hside.fr.cell (p := ⟨b, off + k * 7 + 2, none⟩) hb (by simp)).trans s2
      have g3 := (hside.fr.cell (p := ⟨b, off + k * 7 + 3, none⟩) hb (by simp)).trans s3
      have g4 := (hside.fr.cell (p := ⟨b, off + k * 7 + 4, none⟩) hb (by simp)).trans s4
      have g5 := (hside.fr.cell (p := ⟨b, off + k * 7 + 5, none⟩) hb (by simp)).trans s5
      have g6 := (hside.fr.cell (p := ⟨b, off + k * 7 + 6, none⟩) hb (by simp)).trans s6
      have HSt := mkHid (step_any K O A B C X zs lo lc w w.heap.size m wr l H M hside hinv hls (by omega) HT.out HT2.out h2)
      have k1 : (0 : Int) ≤ (k : Int) := by omega
      have k2 : (k : Int) < (sz : Int) := by omega
      have k3 : (k : Int) < 100 := by omega
      have HAg := mkHid hage
      unfold stepV at HSt
      clear hside hinv hls hq s0 s1 s2 s3 s4 s5 s6 hage
      generalize zs.length = zn at *
      go_wp2_with fail
      refine Calls.mono HSt.out ?_
      rintro e w5 ⟨rfl, l5, H5, M5, hs5, hi5, ha5⟩
      have HS5 : Hid (Stands w w.heap.size m (k + 1) w5) := ⟨l5, H5, M5, hs5, hi5, by have := HAg.out; omega⟩
      clear hs5 hi5 ha5 HSt
      go_wp2_with fail
      go_roundw
      case rel => exact ⟨k + 1, by omega, by omega, by go_num, HS5.out⟩
      case measure => simp [intOf]; omega
    · obtain ⟨l, H, M, hside, hinv, hage⟩ := hq.out
      have hx : (sz : Int) ≤ (k : Int) ∨ ((k : Int) < (sz : Int) ∧ (100 : Int) ≤ (k : Int)) := by omega
      have HMk := mkHid (Mark_in 0 w.heap.size l H wr hside.rep (by omega))
      have HSd := mkHid hside
      have HIn := mkHid hinv
      clear hside hinv hq hc
      rcases hx with hx | ⟨hx, hx2⟩
      all_goals
        go_wp2_with fail
        refine Calls.mono HMk.out ?_
        rintro e w4 ⟨rfl, hr4, hf4, -⟩
        have hS4 := HSd.out.heap hr4 (Nx.fr hf4)
        have c2 := hS4.mrep.c2
        have f2 := frozen_in hS4.mrep.top 2
        have HS5 : Hid (Side w w.heap.size m (w4.setCell ⟨m, 2, none⟩ (.int .i64 0)) l { H with mark := 0 } { M with mark := 0 }) := hS4.model (hS4.mrep.setMark 0) (Fr.setCell _ _ _ (by simp [mfoot])) (fun g hg => .inl hg)
        clear hr4 hf4 hS4
        go_wp2_with (go_at_call 11; refine (num_any _ _ (by omega) (by omega)).mono ?_; rintro e w' ⟨rfl, hw'⟩; rw [hw']; clear hw' w')
        have hI0 := HIn.out.setMark 0 (by omega)
        have HI0 := mkHid hI0
        have ha0 : ({ H with mark := 0 } : HS).age ≤ 100 := by show H.age ≤ 100; omega
        have hm0 : ({ H with mark := 0 } : HS).mark = 0 := rfl
        have HM0 := mkHid hm0
        have HA0 := mkHid ha0
        have HSt5 := mkHid (State_ok w.heap.size l _ _ _ HS5.out.rep hI0.toInvV)
        clear hI0 ha0 hm0 HIn HSd HMk c2 f2 hage
        generalize ({ H with mark := 0 } : HS) = H0 at *
        generalize ({ M with mark := 0 } : MS) = M0 at *
        generalize w4.setCell ⟨m, 2, none⟩ (.int .i64 0) = W5 at *
        refine Calls.mono HSt5.out ?_
        rintro e w6 ⟨ov, ls, rfl, hsr, hkk, hf6⟩
        obtain ⟨pv, cv, rfl, -⟩ := hsr.at
        have hz6 := hf6.size
        have HP7 := mkHid (Point_ok w.heap.size l H0 (w6.alloc (.cells #[.int .i64 (H0.words : Int), .int .i64 (H0.oops : Int), .int .i64 (H0.mark : Int), .slice pv ls.length cv] 38)) ((HS5.out.idle hf6).rep.alloc _))
        have HSR := mkHid hsr
        have HKK := mkHid hkk
        have HF6 := mkHid hf6
        clear hsr hkk hf6 HSt5
        go_wp2_with fail
        refine Calls.mono HP7.out ?_
        rintro e w7 ⟨rfl, hf7⟩
        have HF7 := mkHid hf7
        have hz7 := hf7.size
        simp at hz7
        have F8 : Fr [] W5 (w7.alloc (.cells #[.pointer (some ⟨w.heap.size, 0, none⟩), .int .i64 (H0.age : Int), .int .i64 (H0.order.length : Int)] 62)) := ((HF6.out.trans (Fr.alloc [] _ _) (by simp)).trans hf7 (by simp)).trans (Fr.alloc [] _ _) (by simp)
        have HS8 := mkHid (HS5.out.idle F8)
        have HLw := mkHid (lowest_ok m M0 _ HS8.out.mrep HI0.out.model.len)
        have HAs : Hid (Aside (w7.alloc (.cells #[.pointer (some ⟨w.heap.size, 0, none⟩), .int .i64 (H0.age : Int), .int .i64 (H0.order.length : Int)] 62)) w.heap.size l H0 M0 w6.heap.size w7.heap.size (.slice pv ls.length cv) ls) := by
          have hlt : ∀ bq ∈ foot w.heap.size l, bq < W5.heap.size := HS5.out.rep.lt
          refine ⟨?_, heap_alloc_new _ _, fun hb => by have := hlt _ hb; omega, fun hb => by have := hlt _ hb; omega, ⟨W5.heap.size, (HSR.out.idle ((Fr.alloc [] _ _).trans hf7 (by simp))).idle (Fr.alloc [] _ _), hlt⟩, HKK.out⟩
          rw [Below.heap_alloc _ _ _ (by omega), hf7.block _ (by simp) (by simp)]
          exact heap_alloc_new _ _
        have hq14 : w6.heap.size < w7.heap.size := by omega
        clear hf7 F8 HF6 HSR HKK HS5 HF7 hz6 hz7 HP7
        generalize ls.length = ln at *
        go_wp2_with fail
        refine Calls.mono HLw.out ?_
        rintro e w8 ⟨rfl, hw8⟩
        rw [hw8]
        clear hw8 w8
        generalize w7.alloc (.cells #[.pointer (some ⟨w.heap.size, 0, none⟩), .int .i64 (H0.age : Int), .int .i64 (H0.order.length : Int)] 62) = V0 at *
        have HSt : Hid (Stood w V0 w.heap.size m l H0 M0 V0) := ⟨l, H0, M0, HS8.out, behind_refl HI0.out HM0.out, Nx.refl _ _ _⟩
        clear HLw HS8
        generalize w6.heap.size = p14 at *
        generalize w7.heap.size = p15 at *
        simp only [I]
        generalize hlw : lowTo M0.things = lw at *
        have HLw := mkHid hlw
        clear hlw
        go_wp2_with fail
        go_loopw [17] (fun q wr => ∃ k : Nat, k ≤ 100 ∧ k ≤ sz2 ∧ q = .int .i64 k ∧ Hid (Stood w V0 w.heap.size m l H0 M0 wr)) (fun q _ => 100 - (intOf q).toNat)
        case atStart => exact ⟨0, by omega, by omega, rfl, HSt.out⟩
        case round =>
          obtain ⟨j, hj1, hj2, rfl, hq⟩ := hrel
          by_cases hc : j < sz2 ∧ j < 100
          · obtain ⟨hc1, hc2⟩ := hc
            have hbo' := hbo (by omega)
            subst hbo'
            have hb2 := hb2 (by omega)
            clear hbo
            obtain ⟨l3, H3, M3, hs3, hbh3, hx3⟩ := hq.out
            obtain ⟨K, O, A, B, C, X, lo, lc, zs, s0, s1, s2, s3, s4, s5, s6, hls⟩ := HST2.out j hc1
            have g0 := (hs3.fr.cell (p := ⟨b2, off2 + j * 7, none⟩) hb2 (by simp)).trans s0
            have g1 := (hs3.fr.cell (p := ⟨b2, off2 + j * 7 + 1, none⟩) hb2 (by simp)).trans s1
            have g2 := (hs3.fr.cell (p := ⟨b2, off2 + j * 7 + 2, none⟩) hb2 (by simp)).trans s2
            have g3 := (hs3.fr.cell (p := ⟨b2, off2 + j * 7 + 3, none⟩) hb2 (by simp)).trans s3
            have g4 := (hs3.fr.cell (p := ⟨b2, off2 + j * 7 + 4, none⟩) hb2 (by simp)).trans s4
            have g5 := (hs3.fr.cell (p := ⟨b2, off2 + j * 7 + 5, none⟩) hb2 (by simp)).trans s5
            have g6 := (hs3.fr.cell (p := ⟨b2, off2 + j * 7 + 6, none⟩) hb2 (by simp)).trans s6
            have k1 : (0 : Int) ≤ (j : Int) := by omega
            have k2 : (j : Int) < (sz2 : Int) := by omega
            have k3 : (j : Int) < 100 := by omega
            have hA1 := hs3.box (stepO K O A B C X (.slice lo zs.length lc))
            have HAl := mkHid (allocB H0 M0 X A B w w.heap.size m _ l3 H3 M3 M0 hA1.side hbh3 HT.out HT2.out h2)
            have HX3 : Hid (Nx w.heap.size l l3 V0 (wr.alloc (stepO K O A B C X (.slice lo zs.length lc)))) := hx3.trans (Nx.frw (Fr.alloc _ _ _))
            have HA1 := mkHid hA1
            obtain ⟨W1, hW1⟩ : ∃ W1, W1 = wr.alloc (stepO K O A B C X (.slice lo zs.length lc)) := ⟨_, rfl⟩
            rw [← hW1] at HAl HX3 HA1
            unfold stepO at hW1
            clear hs3 hbh3 hx3 hq s0 s1 s2 s3 s4 s5 s6 hls hA1
            go_wp2_with fail
            rw [← hW1]
            clear hW1
            refine Calls.mono HAl.out ?_
            rintro e w5 ⟨oop, er, l5, H5, M5, rfl, hs5, hb5, hx5, e1, e2, hcase⟩
            have hbx := (hx5.1.block _ (lt_of_heap HA1.out.box) HA1.out.nh).trans HA1.out.box
            obtain ⟨-, -, t5, -⟩ := stepO_cells hbx
            have HX5 := mkHid (HX3.out.trans hx5)
            have HS5' := mkHid hs5
            have HB5 := mkHid hb5
            clear hs5 hb5 hx5 hbx HAl HX3 HA1 g0 g1 g2 g3 g4 g5 g6
            rcases hcase with hcase | ⟨hcase, q, rfl, q1, q2, q3⟩
            · have HN : Hid (Stood w V0 w.heap.size m l H0 M0 w5) := ⟨l5, H5, M5, HS5'.out, HB5.out, HX5.out⟩
              go_wp2_with (go_at_call 11; refine (num_any _ _ (by omega) (by omega)).mono ?_; rintro e w' ⟨rfl, hw'⟩; rw [hw']; clear hw' w')
              go_roundw
              case rel => exact ⟨j + 1, by omega, by omega, by go_num, HN.out⟩
              case measure => simp [intOf]; omega
            · have HPt := mkHid (putB0 H0 M0 X q w w.heap.size m w5 l5 H5 M5 M0 HS5'.out HB5.out q1 q2 q3 HT.out h2)
              clear q1 q2
              go_wp2_with (go_at_call 11; refine (num_any _ _ (by omega) (by omega)).mono ?_; rintro e w' ⟨rfl, hw'⟩; rw [hw']; clear hw' w')
              refine Calls.mono HPt.out ?_
              rintro e w6 ⟨er6, H6, M6, rfl, hs6, hb6, hx6, q4, q5⟩
              have HSc := mkHid (setB44 H0 M0 q w w.heap.size m w6 l5 H6 M6 M0 hs6 hb6 q4 q5 q3 HT.out h2)
              have HX6 := mkHid (HX5.out.trans hx6)
              clear hs6 hb6 hx6 q4 q5 HPt
              go_wp2_with fail
              refine Calls.mono HSc.out ?_
              rintro e w7 ⟨er7, H7, M7, rfl, hs7, hb7, hx7⟩
              have HN : Hid (Stood w V0 w.heap.size m l H0 M0 w7) := ⟨l5, H7, M7, hs7, hb7, HX6.out.trans hx7⟩
              clear hs7 hb7 hx7 HSc
              go_wp2_with fail
              go_roundw
              case rel => exact ⟨j + 1, by omega, by omega, by go_num, HN.out⟩
              case measure => simp [intOf]; omega
          · have hy : (sz2 : Int) ≤ (j : Int) ∨ ((j : Int) < (sz2 : Int) ∧ (100 : Int) ≤ (j : Int)) := by omega
            obtain ⟨l3, H3, M3, hs3, hbh3, hx3⟩ := hq.out
            obtain ⟨t, e0, M2, hd, hinv2, hag, hkeys, hw2, ho2, hm2⟩ := hbh3.back HI0.out HM0.out
            have ha0 := HA0.out
            have hBk := Back_ok H0.order.length t e0 w.heap.size l3 H3 wr hs3.rep (hbh3.backOk HI0.out (by rw [hbh3.age]; omega)) hd
            have hke : stKeys { drawH (backTo H3 H0.order.length (H3.order.length - H0.order.length)) t e0 with age := H3.age + 1 } M2.things ({ drawH (backTo H3 H0.order.length (H3.order.length - H0.order.length)) t e0 with age := H3.age + 1 } : HS).order.length = stKeys H0 M0.things H0.order.length := hkeys
            have hage2 : ({ drawH (backTo H3 H0.order.length (H3.order.length - H0.order.length)) t e0 with age := H3.age + 1 } : HS).age = H0.age + 1 := by show H3.age + 1 = _; rw [hbh3.age]
            have hw3 : ({ drawH (backTo H3 H0.order.length (H3.order.length - H0.order.length)) t e0 with age := H3.age + 1 } : HS).words = H0.words := hw2
            have ho3 : ({ drawH (backTo H3 H0.order.length (H3.order.length - H0.order.length)) t e0 with age := H3.age + 1 } : HS).oops = H0.oops := ho2
            have hm3 : ({ drawH (backTo H3 H0.order.length (H3.order.length - H0.order.length)) t e0 with age := H3.age + 1 } : HS).mark = 0 := hm2
            rw [hbh3.age] at hBk hke hage2 hw3 ho3 hm3 hinv2
            generalize ({ drawH (backTo H3 H0.order.length (H3.order.length - H0.order.length)) t e0 with age := H0.age + 1 } : HS) = Hb at *
            have HBk := mkHid hBk
            have HS3 := mkHid hs3
            have HX3 := mkHid hx3
            have hAs := HAs.out.keep hx3
            have d0 : wr.cell? ⟨p15, 0, none⟩ = some (.pointer (some ⟨w.heap.size, 0, none⟩)) := by rw [cell_in hAs.b15]; rfl
            have d1 : wr.cell? ⟨p15, 1, none⟩ = some (.int .i64 (H0.age : Int)) := by rw [cell_in hAs.b15]; rfl
            have d2 : wr.cell? ⟨p15, 2, none⟩ = some (.int .i64 (H0.order.length : Int)) := by rw [cell_in hAs.b15]; rfl
            have HAg2 := mkHid hage2
            have HIv2 := mkHid hinv2
            have HAgr := mkHid hag
            have HKe := mkHid hke
            have HW3 := mkHid hw3
            have HO3 := mkHid ho3
            have HM3 := mkHid hm3
            clear hs3 hbh3 hx3 hq hd hinv2 hag hkeys hw2 ho2 hm2 hBk hke hage2 hw3 ho3 hm3 hAs hc hj1 hj2 HSt
            rcases hy with hy | ⟨hy, hy2⟩
            all_goals
              go_wp2_with fail
              refine Calls.mono HBk.out ?_
              rintro e w9 ⟨rfl, hr9, hx9⟩
              have hS9 := HS3.out.heap hr9 hx9
              have hAs9 := HAs.out.keep (HX3.out.trans hx9)
              have d0' : w9.cell? ⟨p15, 0, none⟩ = some (.pointer (some ⟨w.heap.size, 0, none⟩)) := by rw [cell_in hAs9.b15]; rfl
              have d1' : w9.cell? ⟨p15, 1, none⟩ = some (.int .i64 (H0.age : Int)) := by rw [cell_in hAs9.b15]; rfl
              have d2' : w9.cell? ⟨p15, 2, none⟩ = some (.int .i64 (H0.order.length : Int)) := by rw [cell_in hAs9.b15]; rfl
              have HBn := mkHid (Back_no (H0.age : Int) (H0.order.length : Int) w.heap.size l3 Hb w9 hS9.rep (by rw [HAg2.out, bne_iff_ne]; omega))
              have HS9 := mkHid hS9
              have HAs9 := mkHid hAs9
              clear hr9 hx9 hS9 hAs9 HBk d0 d1 d2 HS3 HX3
              go_wp2_with fail
              refine Calls.mono HBn.out ?_
              rintro e w10 ⟨rfl, hf10⟩
              have HS10 := mkHid (HS9.out.idle hf10)
              have HAs10 := mkHid (HAs9.out.idle hf10)
              clear hf10 HBn HS9 HAs9 d0' d1' d2'
              have KS : Hid (∀ V, Hid (Fr [] w10 V) → V.cell? ⟨p14, 0, none⟩ = some (.int .i64 (H0.words : Int)) ∧ V.cell? ⟨p14, 1, none⟩ = some (.int .i64 (H0.oops : Int)) ∧ V.cell? ⟨p14, 2, none⟩ = some (.int .i64 (H0.mark : Int)) ∧ V.cell? ⟨p14, 3, none⟩ = some (.slice pv ln cv) ∧ Hid (Fr [] w10 V)) := by
                intro V hV
                have h5 := HAs10.out.idle hV.out
                exact ⟨by rw [cell_in h5.b14]; rfl, by rw [cell_in h5.b14]; rfl, by rw [cell_in h5.b14]; rfl, by rw [cell_in h5.b14]; rfl, hV⟩
              have HSta : Hid (∀ V, Hid (Fr [] w10 V) → Calls Tryd.prog 23 #[.pointer (some ⟨w.heap.size, 0, none⟩)] V fun e w' => ∃ p2 n2 c2, e = .returned (.agg #[.int .i64 (H0.words : Int), .int .i64 (H0.oops : Int), .int .i64 (H0.mark : Int), .slice p2 n2 c2]) ∧ Hid (∃ base ls2, SRep w' base (.slice p2 n2 c2) ls2 ∧ ls2.map osKey = stKeys H0 M0.things H0.order.length) ∧ Hid (Fr [] w10 w')) := by
                intro V hV
                have := State_ok w.heap.size l3 Hb M2 V (HS10.out.idle hV.out).rep HIv2.out.toInvV
                rw [HW3.out, HO3.out, HM3.out, HKe.out] at this
                refine Calls.mono this ?_
                rintro e w' ⟨ov2, ls2, rfl, hsr, hkk, hf⟩
                obtain ⟨p2, c2, rfl, -⟩ := hsr.at
                refine ⟨p2, ls2.length, c2, by rw [HM0.out], ⟨_, ls2, hsr, hkk⟩, hV.out.trans hf (by simp)⟩
              have HSam : Hid (∀ V v, Hid (∃ base ls2, SRep V base v ls2 ∧ ls2.map osKey = stKeys H0 M0.things H0.order.length) → Hid (Fr [] w10 V) → Calls Tryd.prog 22 #[.agg #[.int .i64 (H0.words : Int), .int .i64 (H0.oops : Int), .int .i64 (H0.mark : Int), v], .agg #[.int .i64 (H0.words : Int), .int .i64 (H0.oops : Int), .int .i64 (H0.mark : Int), .slice pv ln cv]] V fun e w' => e = .returned (.bool true) ∧ Hid (Fr [] w10 w')) := by
                intro V v hss hV
                obtain ⟨base, ls2, h3, h4⟩ := hss.out
                have hA5 := HAs10.out.idle hV.out
                obtain ⟨base2, h6, h7⟩ := hA5.srep
                have hk2 := h4.trans hA5.keys.symm
                have hkl : ls2.length ≤ H0.order.length := by
                  have e1 : ls2.length = (stKeys H0 M0.things H0.order.length).length := by rw [← h4, List.length_map]
                  rw [e1]
                  unfold stKeys
                  rw [List.length_map]
                  exact Nat.le_trans (List.length_filter_le _ _) (by simp)
                refine Calls.mono (sameState_ok H0.words H0.oops H0.mark v (.slice pv ln cv) ls2 ls base base2 V h3 h6 hk2 (by have := HI0.out.safe.order; omega) (fun o ho => ?_)) ?_
                · have : osKey o ∈ stKeys H0 M0.things H0.order.length := by rw [← h4]; exact List.mem_map_of_mem ho
                  unfold stKeys at this
                  obtain ⟨x, hx1, hx2⟩ := List.mem_map.1 this
                  have hsl : o.slots = (M0.things.getD (x - 1) noTh).slots := by
                    have := congrArg (fun z => z.2.2.2) hx2
                    exact this.symm
                  rw [hsl]
                  by_cases hxl : x - 1 < M0.things.length
                  · have := HI0.out.model.slots (x - 1) hxl; omega
                  · rw [List.getD_eq_getElem?_getD, List.getElem?_eq_none (by omega)]; simp [noTh]
                · rintro e w' ⟨rfl, hf⟩
                  exact ⟨rfl, hV.out.trans hf (by simp)⟩
              have hTd := HAgr.out.told HIv2.out.told
              have HTol : Hid (∀ V, Hid (Fr [] w10 V) → Calls Tryd.prog 26 #[.pointer (some ⟨m, 0, none⟩), .pointer (some ⟨w.heap.size, 0, none⟩)] V fun e w' => e = .returned (.bool true) ∧ Hid (Fr [] w10 w')) := by
                intro V hV
                have h5 := HS10.out.idle hV.out
                refine Calls.mono (told_ok m M0 w.heap.size l3 Hb V h5.rep h5.mrep HI0.out.model hTd) ?_
                rintro e w' ⟨rfl, hf⟩
                exact ⟨rfl, hV.out.trans hf (by simp)⟩
              have HTd := mkHid hTd
              have F10 : Hid (Fr [] w10 w10) := Fr.refl _ _
              clear hTd
              go_wp2_with fail
              go_region_held3 (fun w' => w'.cell? ⟨p14, 0, none⟩ = some (.int .i64 (H0.words : Int)) ∧ w'.cell? ⟨p14, 1, none⟩ = some (.int .i64 (H0.oops : Int)) ∧ w'.cell? ⟨p14, 2, none⟩ = some (.int .i64 (H0.mark : Int)) ∧ w'.cell? ⟨p14, 3, none⟩ = some (.slice pv ln cv) ∧ Hid (Fr [] w10 w')) (exact KS.out _ (by first | assumption | exact hid_drew (by assumption) | (go_split_ands; first | assumption | exact hid_drew (by assumption))))
                (first
                  | (go_at_call 11; refine (num_any _ _ (by omega) (by omega)).mono ?_; rintro e w' ⟨rfl, rfl⟩)
                  | (go_at_call 23; refine (HSta.out _ (by first | assumption | exact hid_drew (by assumption) | (go_split_ands; first | assumption | exact hid_drew (by assumption)))).mono ?_; rintro e w' ⟨p2, n2, c2, rfl, hss2, hf'⟩)
                  | (go_at_call 22; refine (HSam.out _ _ (by assumption) (by first | assumption | exact hid_drew (by assumption) | (go_split_ands; first | assumption | exact hid_drew (by assumption)))).mono ?_; rintro e w' ⟨rfl, hf'⟩)
                  | (go_at_call 26; refine (HTol.out _ (by first | assumption | exact hid_drew (by assumption) | (go_split_ands; first | assumption | exact hid_drew (by assumption)))).mono ?_; rintro e w' ⟨rfl, hf'⟩))
              have F11 : Hid (Fr [] w10 w') := by assumption
              generalize w' = w11 at *
              clear KS HSta HSam HTol
              have hTd := HTd.out
              have hsm := hTd.small
              have s1 : ((endTo M0.things M0.things.length : Nat) : Int) ≤ (M0.words : Int) := by have := hsm.mem; have := hTd.fin; have := hTd.words; omega
              have s2 : (M0.words : Int) ≤ 1048576 := by have := hsm.words; have := hTd.words; omega
              have s3 : ((thereTo M0.things M0.things.length : Nat) : Int) ≤ (M0.oops : Int) := by have := hsm.count; have := hTd.cnt; have := hTd.oops; omega
              have s4 : (M0.oops : Int) ≤ 65536 := by have := hsm.oops; have := hTd.oops; omega
              have hfull : (Hb.oops = Hb.count ∨ Hb.words < Hb.mem.length + lenN 0 0) ↔ ((M0.oops : Int) - (thereTo M0.things M0.things.length : Nat) = 0 ∨ (M0.words : Int) - (endTo M0.things M0.things.length : Nat) < 2) := by
                rw [hTd.oops, hTd.cnt, hTd.words, hTd.fin, show lenN 0 0 = 2 from rfl]
                omega
              have HFull := mkHid hfull
              have HSm := mkHid hsm
              have HEnd : Hid (∀ V, Hid (Fr [] w10 V) → Calls Tryd.prog 32 #[.pointer (some ⟨m, 0, none⟩)] V fun e w' => e = .returned (.int .i64 (endTo M0.things M0.things.length : Nat)) ∧ Hid (Fr [] w10 w')) := by
                intro V hV
                refine Calls.mono (end_ok m M0 V (HS10.out.idle hV.out).mrep HI0.out.model) ?_
                rintro e w' ⟨rfl, hf⟩
                exact ⟨rfl, hV.out.trans hf (by simp)⟩
              have HThe : Hid (∀ V, Hid (Fr [] w10 V) → Calls Tryd.prog 33 #[.pointer (some ⟨m, 0, none⟩)] V fun e w' => e = .returned (.int .i64 (thereTo M0.things M0.things.length : Nat)) ∧ w' = V) := fun V hV => there_ok m M0 V (HS10.out.idle hV.out).mrep HI0.out.model.len
              have KM : Hid (∀ V, Hid (Fr [] w10 V) → V.cell? ⟨m, 0, none⟩ = some (.int .i64 M0.words) ∧ Hid (Fr [] w10 V)) := fun V hV => ⟨(HS10.out.idle hV.out).mrep.c0, hV⟩
              have c00 := (KM.out w11 F11).1
              generalize endTo M0.things M0.things.length = E at *
              generalize thereTo M0.things M0.things.length = N at *
              have z1 : IntKind.i64.wrap ((M0.words : Int) - (E : Int)) = (M0.words : Int) - (E : Int) := by rw [iwrap]; unfold wrap64; omega
              have z2 : IntKind.i64.wrap ((M0.oops : Int) - (N : Int)) = (M0.oops : Int) - (N : Int) := by rw [iwrap]; unfold wrap64; omega
              clear hTd hsm hfull
              go_wp2_with fail
              go_region_held3 (fun w' => w'.cell? ⟨m, 0, none⟩ = some (.int .i64 M0.words) ∧ Hid (Fr [] w10 w')) (exact KM.out _ (by first | assumption | exact hid_drew (by assumption) | (go_split_ands; first | assumption | exact hid_drew (by assumption))))
                ((go_at_call 32; refine (HEnd.out _ (by first | assumption | exact hid_drew (by assumption) | (go_split_ands; first | assumption | exact hid_drew (by assumption)))).mono ?_; rintro e w' ⟨rfl, hf'⟩))
              have F12 : Hid (Fr [] w10 w') := by assumption
              generalize w' = w12 at *
              have c11 := (HS10.out.idle F12.out).mrep.c1
              have HTh2 : Hid (∀ n, Calls Tryd.prog 33 #[.pointer (some ⟨m, 0, none⟩)] (w12.drewN n) fun e w' => e = .returned (.int .i64 (N : Int)) ∧ w' = w12.drewN n) := fun n => HThe.out _ (F12.out.trans (Fr.drewN [] _ _) (by simp))
              go_wp2_with fail
              go_quiet ((go_at_call 33; exact Calls.quiet_of_same (HTh2.out _)))
              go_wp2_with fail
              have HS13 := mkHid (HS10.out.idle (F12.out.trans (Fr.drewN [] w12 nq) (by simp)))
              clear KM c00 HEnd HThe HTh2 c11 F12 F11 F10 z1 z2 HAs10 HAs
              generalize w12.drewN nq = w13 at *
              have hT13 := tab_of HT.out h2 HS13.out.fr
              by_cases hf : Hb.oops = Hb.count ∨ Hb.words < Hb.mem.length + lenN 0 0
              · have HAl := mkHid (Alloc_full 8 0 0 w.heap.size l3 Hb w13 HS13.out.rep HSm.out hT13 (by decide) (by decide) (by decide) hf)
                have hf2 := HFull.out.1 hf
                have HE : Hid (∀ n, Fr [] w (w13.drewN n)) := fun n => HS13.out.fr.trans (Fr.drewN [] _ _) (by simp)
                have hf3 : (((M0.oops : Int) - (N : Int) == 0) = true ∧ (M0.oops : Int) - (N : Int) ≤ 0) ∨ (((M0.oops : Int) - (N : Int) == 0) = false ∧ 0 < (M0.oops : Int) - (N : Int) ∧ (M0.words : Int) - (E : Int) < 2) := by
                  by_cases e : (M0.oops : Int) - (N : Int) = 0
                  · left; exact ⟨by simp [e], by omega⟩
                  · right; exact ⟨by simpa using e, by omega, by omega⟩
                clear hf hf2 hT13 HFull HSm
                refine Calls.mono HAl.out ?_
                rintro e w14 ⟨rfl, k14, hw14⟩
                rw [hw14]
                clear hw14 w14
                have HEk := mkHid (HE.out k14)
                generalize w13.drewN k14 = w14 at *
                rcases hf3 with ⟨f1, f2⟩ | ⟨f1, f2, f3⟩
                all_goals
                  go_wp2_with (go_at_call 11; refine (num_any _ _ (by omega) (by omega)).mono ?_; rintro e wn ⟨rfl, hwn⟩; rw [hwn]; clear hwn wn)
                  go_ret
                  exact ⟨rfl, HEk.out⟩
              · have hr1 : Hb.count < Hb.oops := by have := HSm.out.count; omega
                have hr2 : Hb.mem.length + lenN 0 0 ≤ Hb.words := by omega
                have hg2 : 0 < (M0.oops : Int) - (N : Int) ∧ 2 ≤ (M0.words : Int) - (E : Int) := by
                  have hnn : ¬ ((M0.oops : Int) - (N : Nat) = 0 ∨ (M0.words : Int) - (E : Nat) < 2) := fun hc => hf (HFull.out.2 hc)
                  obtain ⟨x1, x2⟩ := not_or.1 hnn
                  omega
                have ha2 : 2 ≤ w.heap.size := h2
                have HAl := mkHid (Alloc_ok 8 0 0 w.heap.size l3 Hb w13 HS13.out.rep HIv2.out.safe hT13 (HT2.out.keep HS13.out.fr (by omega) (by simp)) ha2 (by decide) (by decide) (by decide) hr1 hr2 (by rw [HM3.out]; omega))
                obtain ⟨f1, f2⟩ := hg2
                have hlow2 := HAgr.out.low.trans HLw.out
                have HLo2 := mkHid hlow2
                clear hf hT13 HFull hr1 hr2 hlow2
                refine Calls.mono HAl.out ?_
                rintro e w14 ⟨k14, hk1, hk2, rfl, l14, hr14, hx14⟩
                rw [HIv2.out.lowest k14 hk1 hk2, HLo2.out]
                have HEk := mkHid ((HS13.out.heap hr14 hx14).fr)
                clear hk1 hk2 hr14 hx14 HAl
                go_wp2_with (go_at_call 11; refine (num_any _ _ (by omega) (by omega)).mono ?_; rintro e wn ⟨rfl, hwn⟩; rw [hwn]; clear hwn wn)
                go_ret
                exact ⟨rfl, HEk.out⟩
end Go.Proofs.YtalcnihagnnkaaaDoor
