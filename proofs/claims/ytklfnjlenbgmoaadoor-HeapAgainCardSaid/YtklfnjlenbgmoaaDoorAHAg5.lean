import Derived.Test.YtklfnjlenbgmoaaDoorAG47HAg4
import Derived.Test.YtklfnjlenbgmoaaDoorAG35HKeepsOpen
namespace Go.Proofs.YtklfnjlenbgmoaaDoor
open Go.RowKit
set_option linter.unusedVariables false
attribute [local go_sem ↓] Go.wp_at_zero Go.wp_at_succ
/-- how the heap and the model stand behind k steps -/
def StandsG (w0 : World) (a m k : Nat) (W : World) : Prop := ∃ l H M, Side [] w0 a m W l H M ∧ Inv H M ∧ H.age ≤ k ∧ Good M
/-- how both stand behind k more -/
def BothG (w0 : World) (a m b c k : Nat) (W : World) : Prop := ∃ l lg H G M C, Two w0 W a m b c l lg H G M C ∧ Inv H M ∧ Inv G C ∧ Lk M C ∧ H.age ≤ 101 + k ∧ G.age ≤ k
set_option maxRecDepth 20000 in
set_option maxHeartbeats 8000000 in
theorem again_any (n1 n2 : Int) (ao bo : Option Addr) (b off sz c b2 off2 sz2 c2 : Nat) (w : World) (hao : 0 < sz → ao = some ⟨b, off, none⟩) (hbo : 0 < sz2 → bo = some ⟨b2, off2, none⟩) (hT : Tab w) (hT2 : Tab64 w) (h2 : 2 ≤ w.heap.size) (u0 : -9223372036854775808 ≤ n1) (u1 : n1 ≤ 9223372036854775807) (v0 : -9223372036854775808 ≤ n2) (v1 : n2 ≤ 9223372036854775807)
    (hb : 0 < sz → b < w.heap.size) (hb2 : 0 < sz2 → b2 < w.heap.size) (hsz : (sz : Int) ≤ 9223372036854775807) (hsz2 : (sz2 : Int) ≤ 9223372036854775807) (hst : ∀ i, i < sz → StepAt w b off i) (hst2 : ∀ i, i < sz2 → StepAt w b2 off2 i) :
    Calls Tryd.prog 7 #[.int .i64 n1, .int .i64 n2, .slice ao sz c, .slice bo sz2 c2] w fun e w' => e = .returned (.bool true) ∧ Fr [] w w' := by
  have HT := mkHid hT
  have HT2 := mkHid hT2
  have HST := mkHid hst
  have HST2 := mkHid hst2
  obtain ⟨r1, hr1, hs1⟩ := small_det n1 u0 u1
  obtain ⟨r2, hr2, hs2⟩ := small_det n2 v0 v1
  have HS1 := mkHid hs1
  have HS2 := mkHid hs2
  clear hT hT2 hst hst2 hs1 hs2 u0 u1 v0 v1
  go_enter Tryd.func7, Tryd.ntmps7
  go_wp2_with fail
  refine Calls.mono (HS1.out w) ?_
  rintro e w1 ⟨rfl, hw1⟩
  rw [hw1]
  clear hw1 w1
  go_wp2_with fail
  refine Calls.mono (HS2.out w) ?_
  rintro e w1 ⟨rfl, hw1⟩
  rw [hw1]
  clear hw1 w1
  obtain ⟨r3, hr3, hr4⟩ : ∃ r3 : Nat, (r2 : Int) % 256 = (r3 : Int) ∧ r3 ≤ 255 := ⟨r2 % 256, by omega, by omega⟩
  have hr5 : (r2 : Int).tmod 256 = (r3 : Int) := by rw [Int.tmod_eq_emod_of_nonneg (by omega)]; exact hr3
  go_wp2_with fail
  refine Calls.mono (New_in r1 r3 w (by omega) (by omega)) ?_
  rintro e w1 ⟨rfl, hrep, hf1, hsz1⟩
  have HR1 := mkHid hrep
  have HF1 := mkHid hf1
  clear hrep hf1
  go_wp2_with (go_at_call 11; refine (num_any _ _ (by omega) (by omega)).mono ?_; rintro e w' ⟨rfl, hw'⟩; rw [hw']; clear hw' w')
  refine Calls.mono (alive_any w1 (HT.out.fr HF1.out (by omega)) (HT2.out.keep HF1.out (by omega) (by simp)) (by omega)) ?_
  rintro e w3 ⟨rfl, hf3⟩
  have HS3 : Hid (StandsG w w.heap.size w3.heap.size 0 (w3.alloc (.cells #[.int .i64 (r1 : Int), .int .i64 (r3 : Int), .int .i64 0, .slice none 0 0] 55))) := by
    have hw3 := hf3.size
    refine ⟨nilLay, emptyH r1 r3, emptyM r1 r3, side_new w _ _ _ r1 r3 ((HR1.out.keep hf3 (by simp)).alloc _) (heap_alloc_new _ _) ((HF1.out.trans hf3 (by simp)).trans (Fr.alloc [] _ _) (by simp)) (Nat.le_refl _) (by omega) (by omega), inv_empty r1 r3 (by omega) (by omega), Nat.le_refl _, fun i => ?_⟩
    show Fine (([] : List Th).getD i noTh)
    rw [List.getD_nil]
    exact fine_no
  clear hf3 HR1 HF1
  go_wp2_with fail
  refine Calls.mono (HS2.out w3) ?_
  rintro e w4 ⟨rfl, hw4⟩
  rw [hw4]
  clear hw4 w4
  go_wp2_with fail
  generalize w3.heap.size = m at *
  generalize w3.alloc (.cells #[.int .i64 (r1 : Int), .int .i64 (r3 : Int), .int .i64 0, .slice none 0 0] 55) = w33 at *
  go_loopw [13] (fun q wr => ∃ k : Nat, k ≤ 100 ∧ k ≤ sz ∧ q = .int .i64 k ∧ Hid (StandsG w w.heap.size m k wr)) (fun q _ => 100 - (intOf q).toNat)
  case atStart => exact ⟨0, by omega, by omega, rfl, by simpa [hr3] using HS3⟩
  case round =>
    obtain ⟨k, hk1, hk2, rfl, hq⟩ := hrel
    by_cases hc : k < sz ∧ k < 100
    · obtain ⟨hc1, hc2⟩ := hc
      have hao' := hao (by omega)
      subst hao'
      have hb := hb (by omega)
      clear hao
      obtain ⟨l, H, M, hside, hinv, hage, hgood⟩ := hq.out
      obtain ⟨K, O, A, B, C, X, lo, lc, zs, s0, s1, s2, s3, s4, s5, s6, hls⟩ := HST.out k hc1
      have g0 := (hside.fr.cell (p := ⟨b, off + k * 7, none⟩) hb (by simp)).trans s0
      have g1 := (hside.fr.cell (p := ⟨b, off + k * 7 + 1, none⟩) hb (by simp)).trans s1
      have g2 := (hside.fr.cell (p := ⟨b, off + k * 7 + 2, none⟩) hb (by simp)).trans s2
      have g3 := (hside.fr.cell (p := ⟨b, off + k * 7 + 3, none⟩) hb (by simp)).trans s3
      have g4 := (hside.fr.cell (p := ⟨b, off + k * 7 + 4, none⟩) hb (by simp)).trans s4
      have g5 := (hside.fr.cell (p := ⟨b, off + k * 7 + 5, none⟩) hb (by simp)).trans s5
      have g6 := (hside.fr.cell (p := ⟨b, off + k * 7 + 6, none⟩) hb (by simp)).trans s6
      have HSt := mkHid (step_any K O A B C X zs lo lc [] w w.heap.size m wr l H M hside hinv hls (fun _ b off _ => by simp) (by omega) HT.out HT2.out h2 (by simp))
      have HGd := mkHid (hgood.next K A B X zs)
      have k1 : (0 : Int) ≤ (k : Int) := by omega
      have k2 : (k : Int) < (sz : Int) := by omega
      have k3 : (k : Int) < 100 := by omega
      have HAg := mkHid hage
      unfold stepV at HSt
      generalize nextM M K A B X zs = N at *
      clear hside hinv hls hq s0 s1 s2 s3 s4 s5 s6 hage hgood
      generalize zs.length = zn at *
      go_wp2_with fail
      refine Calls.mono HSt.out ?_
      rintro e w5 ⟨rfl, l5, H5, M5, hs5, hi5, ha5, hk5⟩
      have HS5 : Hid (StandsG w w.heap.size m (k + 1) w5) := ⟨l5, H5, M5, hs5, hi5, by have := HAg.out; omega, HGd.out.lk hk5⟩
      clear hs5 hi5 ha5 HSt
      go_wp2_with fail
      go_roundw
      case rel => exact ⟨k + 1, by omega, by omega, by go_num, HS5.out⟩
      case measure => simp [intOf]; omega
    · obtain ⟨l, H, M, hside, hinv, hage, hgood⟩ := hq.out
      have hx : (sz : Int) ≤ (k : Int) ∨ ((k : Int) < (sz : Int) ∧ (100 : Int) ≤ (k : Int)) := by omega
      have HAll := mkHid (All_ok w.heap.size l H wr hside.rep hinv.safe.seats)
      obtain ⟨hk1', hk2', hk3'⟩ := hinv.keepAll (allTo H H.seats.length) hinv.all_has hinv.all_in (by omega)
      have HKO := mkHid hk1'
      have HSd := mkHid hside
      have HIn := mkHid hinv
      have HI1 := mkHid hk2'
      have HC1 := mkHid hk3'
      have HG1 := mkHid (slid_good hgood)
      have hal : ((allTo H H.seats.length).length : Int) ≤ 65538 := by have := allTo_len H H.seats.length; have := hinv.safe.seats; omega
      have ha1 : (keepH H (allTo H H.seats.length)).age ≤ 101 := by show H.age + 1 ≤ 101; omega
      have hml := hinv.model.len
      have HMs := mkHid hinv.model.slots
      clear hside hinv hq hc hk1' hk2' hk3' hgood hage HS3
      rcases hx with hx | ⟨hx, hx2⟩
      all_goals
        go_wp2_with fail
        refine Calls.mono HAll.out ?_
        rintro e w4 ⟨v, rfl, hown4, hf4⟩
        obtain ⟨p4, c4, hv4⟩ : ∃ p4 c4, v = .slice p4 (allTo H H.seats.length).length c4 := by
          rcases hown4.2 with ⟨h2, h3⟩ | ⟨g', cap, cur, h2, _⟩
          · exact ⟨none, 0, by rw [h2, h3]⟩
          · exact ⟨_, cap, h2⟩
        subst hv4
        have hS4 := HSd.out.idle hf4
        have HKp := mkHid (Keep_any (allTo H H.seats.length) p4 c4 w.heap.size l H w4 hS4.rep HKO.out (fun j hj => by
          rcases hown4.2 with ⟨h2, h3⟩ | ⟨g', cap, cur, h2, h3, h4⟩
          · omega
          · injection h2 with h2 _ h5
            subst h2
            subst h5
            refine ⟨g', rfl, lt_of_heap h4.1, fun hb => by have := HSd.out.rep.lt g' hb; omega, ?_⟩
            rw [hown4.cellAt j (by omega), List.getElem?_map, List.getD_eq_getElem?_getD, List.getElem?_eq_getElem hj]
            rfl) (by omega))
        have HS4 := mkHid hS4
        clear hown4 hS4 HAll HKO HSd hf4
        generalize allTo H H.seats.length = ks at *
        go_wp2_with fail
        refine Calls.mono HKp.out ?_
        rintro e w5 ⟨rfl, hr5, hx5⟩
        have hS5 := HS4.out.heap hr5 hx5
        have HSl := mkHid (slid_ok m M w5 hS5.mrep hml HMs.out)
        have HS5 := mkHid hS5
        clear hr5 hx5 HKp HS4 hS5
        go_wp2_with fail
        refine Calls.mono HSl.out ?_
        rintro e w6 ⟨rfl, hm6, hf6⟩
        have HS6 : Hid (Side [] w w.heap.size m w6 l (keepH H ks) { M with things := slidN M.things 0 (thereTo M.things M.things.length) }) := by
          refine HS5.out.model hm6 (hf6.mono (fun b hb => .inl (by simp [mfoot, hb]))) (fun b hb => .inl ?_)
          exact mfoot_alike (M := M) _ (slidN_alike _ _ _) b hb
        clear hm6 hf6 HSl HS5
        generalize (keepH H ks) = H1 at *
        generalize ({ M with things := slidN M.things 0 (thereTo M.things M.things.length) } : MS) = M1 at *
        have HStt := mkHid (State_ok w.heap.size l H1 M1 w6 HS6.out.rep HI1.out.toInvV)
        go_wp2_with fail
        refine Calls.mono HStt.out ?_
        rintro e w7 ⟨ov, ls, rfl, hsr, hkk, hf7⟩
        obtain ⟨hsa, hka, -, -⟩ := hsr.state HI1.out hkk
        obtain ⟨pv, cv, rfl, -⟩ := hsr.at
        have hS7 := HS6.out.idle hf7
        have hz67 := hf7.size
        have hz7 := hS7.fr.size
        have hsm := HI1.out.safe.small
        have hLd := Load_all H1.words H1.oops H1.mark _ (ls.map toOI) w7 hsa (HT.out.fr hS7.fr (by omega)) (by omega) HI1.out.room hsm.oops hsm.mark (by rw [hka]; exact HI1.out.takesAll HG1.out) M1.things.length (by rw [hka]; exact keysH_le HI1.out)
        rw [hka] at hLd
        have HLd := mkHid hLd
        have HS7 := mkHid hS7
        have HF7 := mkHid hf7
        clear hLd hS7 hsr hkk hsa hka hf7 hsm HStt
        generalize ls.length = ln at *
        go_wp2_with fail
        refine Calls.mono HLd.out ?_
        rintro e w8 ⟨rfl, lg, G, Mg, hrg, hf8, hnew, hkof, hBg⟩
        have hGi := loaded_inv HI1.out HC1.out hkof hBg (Lk.refl _) HI1.out.model
        have hz78 := hf8.size
        have hlt8 := hrg.lt (w7.heap.size + 1) (by simp [foot])
        have HStg := mkHid (State_ok (w7.heap.size + 1) lg G M1 w8 hrg hGi.toInvV)
        have HGi := mkHid hGi
        have HRg := mkHid hrg
        have HNew := mkHid hnew
        have HKf := mkHid hkof
        have HF8 := mkHid hf8
        clear hrg hf8 hnew hkof hGi HLd
        go_wp2_with (go_at_call 11; refine (num_any _ _ (by omega) (by omega)).mono ?_; rintro e w' ⟨rfl, hw'⟩; rw [hw']; clear hw' w')
        refine Calls.mono HStg.out ?_
        rintro e w9 ⟨og, lsg, rfl, hsrg, hkg, hf9⟩
        have hz89 := hf9.size
        obtain ⟨pg, cg, rfl, -⟩ := hsrg.at
        have HSth := mkHid (State_ok w.heap.size l H1 M1 w9 ((HS7.out.idle HF8.out).idle hf9).rep HI1.out.toInvV)
        have HSrg := mkHid hsrg
        have HKg := mkHid hkg
        have HF9 := mkHid hf9
        clear hsrg hkg hf9 HStg
        generalize hlng : lsg.length = lng at *
        go_wp2_with fail
        refine Calls.mono HSth.out ?_
        rintro e w10 ⟨oh, lsh, rfl, hsrh, hkh, hf10⟩
        have hz910 := hf10.size
        obtain ⟨ph, ch, rfl, -⟩ := hsrh.at
        have hSam := two_same HI1.out HGi.out (Lk.refl _) _ _ lsg lsh _ _ w10 (HSrg.out.idle hf10) hsrh HKg.out hkh
        have HSam := mkHid hSam
        have HF10 := mkHid hf10
        clear hsrh hkh hf10 HSth hSam HSrg HKg
        generalize lsh.length = lnh at *
        go_wp2_with fail
        refine Calls.mono HSam.out ?_
        rintro e w11 ⟨rfl, hf11⟩
        have hz1011 := hf11.size
        have F11 : Fr [] w8 w11 := (HF9.out.trans HF10.out (by simp)).trans hf11 (by simp)
        have hS11 := (HS7.out.idle HF8.out).idle F11
        have HCp := mkHid (copied_ok m M1 w11 hS11.mrep HI1.out.model)
        have HF11 := mkHid F11
        have HS11 := mkHid hS11
        clear F11 hS11 hf11 HSam HF9 HF10
        go_wp2_with fail
        refine Calls.mono HCp.out ?_
        rintro e w12 ⟨T, pt, ct, rfl, hcs, hbr, hf12⟩
        have hz1112 := hf12.size
        have HB : Hid (BothG w w.heap.size m (w7.heap.size + 1) w12.heap.size 0 (w12.alloc (.cells #[.int .i64 (M1.words : Int), .int .i64 (M1.oops : Int), .int .i64 (M1.mark : Int), .slice pt T.length ct] 55))) := by
          have hlk : Lk ⟨M1.words, M1.oops, M1.mark, T, pt, ct⟩ M1 := ⟨rfl, rfl, rfl, hbr⟩
          obtain ⟨q1, q2⟩ := hcs.mrep (M := M1)
          have F := hf12.trans (Fr.alloc [] w12 (.cells #[.int .i64 (M1.words : Int), .int .i64 (M1.oops : Int), .int .i64 (M1.mark : Int), .slice pt T.length ct] 55)) (by simp)
          have hp1 := HS11.out.idle F
          have F8 := HF11.out.trans F (by simp)
          refine ⟨l, lg, H1, G, M1, _, ⟨hp1, ⟨HRg.out.keep F8 (by simp), q1, fun g hg hm => ?_, hp1.fr, fun x hx => .inr ?_, fun x hx => .inr ?_⟩, fun x hx hy => ?_⟩, HI1.out, loaded_inv HI1.out HC1.out HKf.out hBg hlk (HI1.out.model.lk hlk), hlk.symm, ha1, by rw [HKf.out.age]; exact Nat.le_refl _⟩
          · have h1 := HRg.out.lt g hg
            have h3 := q2 g hm
            omega
          · have := HNew.out x hx; omega
          · have h3 := q2 x hx; omega
          · have h1 : x < w7.heap.size := by
              rcases List.mem_append.1 hx with h | h
              · exact HS7.out.rep.lt x h
              · exact HS7.out.mrep.lt x h
            rcases List.mem_append.1 hy with h | h
            · have := HNew.out x h; omega
            · have := q2 x h; omega
        clear hcs hbr hf12 HCp HS11 HF11 HKf HNew HRg HGi HF8 HS7 HF7 HI1 HC1 HG1 HS6
        go_wp2_with fail
        generalize w12.alloc (.cells #[.int .i64 (M1.words : Int), .int .i64 (M1.oops : Int), .int .i64 (M1.mark : Int), .slice pt T.length ct] 55) = w13 at *
        generalize w7.heap.size + 1 = bb at *
        generalize w12.heap.size = cc at *
        clear hx hk1 hk2 HIn hml HMs hal ha1 hz67 hz7 hz78 hlt8 hz89 hz910 hz1011 hz1112 hBg
        clear HST hao hb hlng
        go_loopw [20] (fun q wr => ∃ k : Nat, k ≤ 100 ∧ k ≤ sz2 ∧ q = .int .i64 k ∧ Hid (BothG w w.heap.size m bb cc k wr)) (fun q _ => 100 - (intOf q).toNat)
        case atStart => exact ⟨0, by omega, by omega, rfl, HB⟩
        case round =>
          clear HB
          obtain ⟨i, hi1, hi2, rfl, hq⟩ := hrel
          obtain ⟨la, lb, Ha, Hb, Ma, Mb, hTw, hIa, hIb, hLk, haa, hab⟩ := hq.out
          by_cases hc : i < sz2 ∧ i < 100
          · obtain ⟨hc1, hc2⟩ := hc
            have hbo' := hbo (by omega)
            subst hbo'
            have hb2 := hb2 (by omega)
            clear hbo
            obtain ⟨K, O, A, B, C, X, lo, lc, zs, s0, s1, s2, s3, s4, s5, s6, hls⟩ := HST2.out i hc1
            have HRead : Hid (∀ V, Fr [] w V → V.cell? ⟨b2, off2 + i * 7, none⟩ = some (.int .i64 K) ∧ V.cell? ⟨b2, off2 + i * 7 + 1, none⟩ = some (.int .i64 O) ∧ V.cell? ⟨b2, off2 + i * 7 + 2, none⟩ = some (.int .i64 A) ∧ V.cell? ⟨b2, off2 + i * 7 + 3, none⟩ = some (.int .i64 B) ∧ V.cell? ⟨b2, off2 + i * 7 + 4, none⟩ = some (.int .i64 C) ∧ V.cell? ⟨b2, off2 + i * 7 + 5, none⟩ = some (.int .i64 X) ∧ V.cell? ⟨b2, off2 + i * 7 + 6, none⟩ = some (.slice lo zs.length lc)) := fun V hV =>
              ⟨(hV.cell (p := ⟨b2, off2 + i * 7, none⟩) hb2 (by simp)).trans s0, (hV.cell (p := ⟨b2, off2 + i * 7 + 1, none⟩) hb2 (by simp)).trans s1, (hV.cell (p := ⟨b2, off2 + i * 7 + 2, none⟩) hb2 (by simp)).trans s2, (hV.cell (p := ⟨b2, off2 + i * 7 + 3, none⟩) hb2 (by simp)).trans s3, (hV.cell (p := ⟨b2, off2 + i * 7 + 4, none⟩) hb2 (by simp)).trans s4, (hV.cell (p := ⟨b2, off2 + i * 7 + 5, none⟩) hb2 (by simp)).trans s5, (hV.cell (p := ⟨b2, off2 + i * 7 + 6, none⟩) hb2 (by simp)).trans s6⟩
            obtain ⟨g0, g1, g2, g3, g4, g5, g6⟩ := HRead.out wr hTw.p1.fr
            have HSt := mkHid (two_step K O A B C X zs lo lc w wr w.heap.size m bb cc la lb Ha Hb Ma Mb hTw hIa hls (by omega) HT.out HT2.out h2)
            have HSt2 : Hid (∀ w5 l5 H5 M5, Two w w5 w.heap.size m bb cc l5 lb H5 Hb M5 Mb → Calls Tryd.prog 25 #[.pointer (some ⟨cc, 0, none⟩), .pointer (some ⟨bb, 0, none⟩), stepV K O A B C X (.slice lo zs.length lc)] w5 fun e w' => e = .returned (.bool true) ∧ ∃ l' H' M', Two w w' bb cc w.heap.size m l' l5 H' H5 M' M5 ∧ Inv H' M' ∧ H'.age ≤ Hb.age + 1 ∧ Lk M' (nextM Mb K A B X zs)) :=
              fun w5 l5 H5 M5 hT5 => two_step K O A B C X zs lo lc w w5 bb cc w.heap.size m lb l5 Hb H5 Mb M5 hT5.swap hIb hls (by omega) HT.out HT2.out h2
            have HNx := mkHid (hLk.next K A B X zs)
            have k1 : (0 : Int) ≤ (i : Int) := by omega
            have k2 : (i : Int) < (sz2 : Int) := by omega
            have k3 : (i : Int) < 100 := by omega
            unfold stepV at HSt HSt2
            generalize nextM Ma K A B X zs = Na at *
            generalize nextM Mb K A B X zs = Nb at *
            clear hTw hIa hIb hls hq s0 s1 s2 s3 s4 s5 s6 hLk
            generalize zs.length = zn at *
            go_wp2_with fail
            refine Calls.mono HSt.out ?_
            rintro e w5 ⟨rfl, l5, H5, M5, hT5, hI5, ha5, hk5⟩
            obtain ⟨g0', g1', g2', g3', g4', g5', g6'⟩ := HRead.out w5 hT5.p1.fr
            have HSt3 := mkHid (HSt2.out w5 l5 H5 M5 hT5)
            have HI5 := mkHid hI5
            have HK5 := mkHid hk5
            clear hT5 HSt HSt2 hI5 hk5 g0 g1 g2 g3 g4 g5 g6 HRead
            go_wp2_with fail
            refine Calls.mono HSt3.out ?_
            rintro e w6 ⟨rfl, l6, H6, M6, hT6, hI6, ha6, hk6⟩
            have hlk6 : Lk M5 M6 := HK5.out.trans (HNx.out.trans hk6.symm)
            have HStg := mkHid (State_ok bb l6 H6 M6 w6 hT6.p1.rep hI6.toInvV)
            have HT6 := mkHid hT6
            have HI6 := mkHid hI6
            have HL6 := mkHid hlk6
            clear hT6 hI6 hk6 hlk6 HSt3 HK5 HNx g0' g1' g2' g3' g4' g5' g6'
            go_wp2_with fail
            refine Calls.mono HStg.out ?_
            rintro e w7 ⟨og, lsg, rfl, hsrg, hkg, hf7⟩
            obtain ⟨pg, cg, rfl, -⟩ := hsrg.at
            have HSth := mkHid (State_ok w.heap.size l5 H5 M5 w7 (HT6.out.idle hf7).p2.rep HI5.out.toInvV)
            have HSrg := mkHid hsrg
            have HKg := mkHid hkg
            have HF7 := mkHid hf7
            clear hsrg hkg hf7 HStg
            generalize hlng : lsg.length = lng at *
            go_wp2_with fail
            refine Calls.mono HSth.out ?_
            rintro e w8 ⟨oh, lsh, rfl, hsrh, hkh, hf8⟩
            obtain ⟨ph, ch, rfl, -⟩ := hsrh.at
            have hSam := two_same HI5.out HI6.out HL6.out _ _ lsg lsh _ _ w8 (HSrg.out.idle hf8) hsrh HKg.out hkh
            have HSam := mkHid hSam
            have HF8 := mkHid hf8
            clear hsrh hkh hf8 HSth hSam HSrg HKg
            generalize lsh.length = lnh at *
            go_wp2_with fail
            refine Calls.mono HSam.out ?_
            rintro e w9 ⟨rfl, hf9⟩
            have HB9 : Hid (BothG w w.heap.size m bb cc (i + 1) w9) := ⟨l5, l6, H5, H6, M5, M6, ((HT6.out.idle ((HF7.out.trans HF8.out (by simp)).trans hf9 (by simp)))).swap, HI5.out, HI6.out, HL6.out, by omega, by omega⟩
            clear hf9 HSam HF7 HF8 HT6 HI5 HI6 HL6
            go_wp2_with fail
            go_roundw
            case rel => exact ⟨i + 1, by omega, by omega, by go_num, HB9.out⟩
            case measure => simp [intOf]; omega
          · have hx : (sz2 : Int) ≤ (i : Int) ∨ ((i : Int) < (sz2 : Int) ∧ (100 : Int) ≤ (i : Int)) := by omega
            have HTo := mkHid (told_ok m Ma w.heap.size la Ha wr hTw.p1.rep hTw.p1.mrep hIa.model hIa.told)
            have HTo2 : Hid (∀ V, Fr [] wr V → Calls Tryd.prog 26 #[.pointer (some ⟨cc, 0, none⟩), .pointer (some ⟨bb, 0, none⟩)] V fun e w' => e = .returned (.bool true) ∧ Fr [] V w') := fun V hV => told_ok cc Mb bb lb Hb V (hTw.idle hV).p2.rep (hTw.idle hV).p2.mrep hIb.model hIb.told
            have HFr := mkHid hTw.p1.fr
            clear hTw hIa hIb hLk hq hc
            rcases hx with hx | ⟨hx, hx2⟩
            all_goals
              go_wp2_with fail
              refine Calls.mono HTo.out ?_
              rintro e w5 ⟨rfl, hf5⟩
              have HTo3 := mkHid (HTo2.out w5 hf5)
              have HF5 := mkHid hf5
              clear hf5 HTo HTo2
              go_wp2_with fail
              refine Calls.mono HTo3.out ?_
              rintro e w6 ⟨rfl, hf6⟩
              have HE := mkHid ((HFr.out.trans HF5.out (by simp)).trans hf6 (by simp))
              clear hf6 HTo3 HF5 HFr
              go_wp2_with fail
              go_ret
              exact ⟨rfl, HE.out⟩
end Go.Proofs.YtklfnjlenbgmoaaDoor
