import Derived.Test.YtclkoffnjiiioaaDoorIRi
namespace Go.Proofs.YtclkoffnjiiioaaDoor
open Go.RowKit
set_option linter.unusedVariables false
set_option linter.unusedSimpArgs false
attribute [local go_sem ↓] Go.wp_at_zero Go.wp_at_succ
section
variable {P : Program} {ops : Array Oper} {Q : Exit → Act → World → Prop} {md : Region.Mode} {S : World → Prop}
/-- a region whose order is drawn, S held throughout -/
theorem wp_region_h {id : Nat} {a : Act} {w : World} (hm : P.follows .mixedOrders = true) (hS : S w.drew)
    (h : S w.drew → wpAnyH P .any ops Q S ops.size (Array.replicate ops.size false) a w.drew) : (Code.region id ops true).wp P Q a w := wp_region_held hm (h hS)
/-- just one may come up -/
theorem wpH_one {i : Nat} {o : Oper} {fuel : Nat} {listed : Array Bool} {a : Act} {w : World} (hr : Region.ready md ops listed = [i]) (ho : ops[i]? = some o)
    (h : ∀ K' : Act → World → Prop, Shut (∀ a w, S w → (S w → wpAnyH P md ops Q S fuel (listed.setIfInBounds i true) a w) → K' a w) → if Region.wanted o (yielded ops a.tmps) = true then Oper.wp P o a w K' Q else K' (a.put o.dst undef) w) : wpAnyH P md ops Q S (fuel + 1) listed a w := by
  refine ⟨fun h0 => (by rw [hr] at h0; cases h0), fun j hj => ?_⟩
  rw [hr] at hj
  have e : j = i := by simpa using hj
  subst e
  exact wpOp_step ho (fun K' hK => h K' (fun a w hS hW => hK a w ⟨hS, hW hS⟩))
end
set_option maxRecDepth 100000 in
set_option maxHeartbeats 16000000 in
theorem rprint_ok (K : Co) (lp : Option Addr) (lc : Nat) (pw : Option Addr) (cw : Nat) (W : World) (h : CoR W K lp lc pw cw) :
    Calls Tryd.prog 7 #[.agg (K.v lp lc pw cw)] W fun e w' => e = .returned (.tuple #[.string (ba (prP K).2), .int .i64 (prP K).1]) ∧ Fr [] W w' := by
  have hsh := h.words.short
  have hls : K.ts.length ≤ 2513169434916 := by
    cases h.lits with
    | mk _ _ _ nil at_ short txt kids => exact short
  obtain ⟨R, hR⟩ : ∃ R, prP K = R := ⟨_, rfl⟩
  rw [hR]
  have HF0 : Hid (Fr [] W (W.alloc (.cells (K.v lp lc pw cw) 25))) := Fr.alloc [] W _
  unfold prP at hR
  by_cases hbig : 4096 < K.ws.length ∨ 64 < K.ts.length
  · rw [if_pos hbig] at hR
    have HR := mkHid hR
    unfold Co.v at *
    by_cases hb1 : 4096 < K.ws.length
    · have q1 : decide ((4096 : Int) < (K.ws.length : Int)) = true := decide_eq_true (by omega)
      clear h hR hbig hb1
      generalize K.ws.length = nw at *
      generalize K.ts.length = nt at *
      go_enter Tryd.func7, Tryd.ntmps7
      go_wp2_with fail
      go_ret2
      exact ⟨by rw [← HR.out]; rfl, HF0.out⟩
    · have hb2 : 64 < K.ts.length := by omega
      have q1 : decide ((4096 : Int) < (K.ws.length : Int)) = false := decide_eq_false (by omega)
      have q2 : decide ((64 : Int) < (K.ts.length : Int)) = true := decide_eq_true (by omega)
      clear h hR hbig hb1 hb2
      generalize K.ws.length = nw at *
      generalize K.ts.length = nt at *
      go_enter Tryd.func7, Tryd.ntmps7
      go_wp2_with fail
      go_ret2
      exact ⟨by rw [← HR.out]; rfl, HF0.out⟩
  rw [if_neg hbig] at hR
  have q1 : decide ((4096 : Int) < (K.ws.length : Int)) = false := decide_eq_false (by omega)
  have q2 : decide ((64 : Int) < (K.ts.length : Int)) = false := decide_eq_false (by omega)
  have hn4 : K.ws.length ≤ 4096 ∧ K.ts.length ≤ 64 := by omega
  obtain ⟨W2, hW2⟩ : ∃ V, (W.alloc (.cells (K.v lp lc pw cw) 25)).alloc (.cells #[.int .i64 0, .int .i64 0] 55) = V := ⟨_, rfl⟩
  have hx2 : W2.heap[W.heap.size + 1]? = some (.cells (wkc 0 0) 55 (0, 0)) := by
    rw [← hW2]
    have := heap_alloc_new (W.alloc (.cells (K.v lp lc pw cw) 25)) (.cells #[.int .i64 0, .int .i64 0] 55)
    simpa [wkc] using this
  have hb2 : W2.heap[W.heap.size]? = some (.cells (K.v lp lc pw cw) 25 (0, 0)) := by rw [← hW2]; exact al_old (heap_alloc_new W _) _
  have f2 : Fr [] W W2 := by rw [← hW2]; exact ((Fr.refl [] W).al _).al _
  have HW2 : Hid ((W.alloc (.cells #[.int .i64 K.args, .int .i64 K.temps, .int .i64 K.stack, .slice lp K.ts.length lc, .slice pw K.ws.length cw] 25)).alloc (.cells #[.int .i64 0, .int .i64 0] 55) = W2) := hW2
  have HLi := mkHid (rliteral_all (W.heap.size + 1) W (by omega) lp lc K.ts h.lits)
  have HH := mkHid h
  have HRR := mkHid hR
  have HX2 := mkHid hx2
  have HF2 := mkHid f2
  have HCel : Hid (∀ U, Fr [W.heap.size + 1] W2 U → (U.cell? ⟨W.heap.size, 0, none⟩ = some (.int .i64 K.args) ∧ U.cell? ⟨W.heap.size, 1, none⟩ = some (.int .i64 K.temps) ∧ U.cell? ⟨W.heap.size, 2, none⟩ = some (.int .i64 K.stack) ∧ U.cell? ⟨W.heap.size, 3, none⟩ = some (.slice lp K.ts.length lc) ∧ U.cell? ⟨W.heap.size, 4, none⟩ = some (.slice pw K.ws.length cw)) ∧ Fr [] W U) := fun U hU => by
    have hb := (hU.block _ (lt_of_heap hb2) (by simp)).trans hb2
    exact ⟨⟨cell_in hb 0, cell_in hb 1, cell_in hb 2, cell_in hb 3, cell_in hb 4⟩, f2.trans hU (fun b hb => .inr (by simp at hb; omega))⟩
  unfold Co.v
  clear h hR hW2 hx2 hb2 f2 hbig HF0
  go_enter Tryd.func7, Tryd.ntmps7
  go_wp2_with fail
  rw [HW2.out]
  go_loopw [5] (fun q wr => ∃ i : Nat, i ≤ K.ts.length ∧ q = .int .i64 (i : Int) ∧ Hid (Fr [W.heap.size + 1] W2 wr ∧ ∃ m er, wr.heap[W.heap.size + 1]? = some (.cells (wkc m er) 55 (0, 0)) ∧ ((er = 0 ∧ m ≤ 4096 ∧ gaU (K.ts.drop i) m = gaU K.ts 0) ∨ (er ≠ 0 ∧ gaU K.ts 0 = (er, m))))) (fun q _ => K.ts.length - (intOf q).toNat)
  case atStart => exact ⟨0, Nat.zero_le _, rfl, Fr.refl _ _, 0, 0, HX2.out, .inl ⟨rfl, by omega, rfl⟩⟩
  case round =>
    clear HX2 HW2
    obtain ⟨i, hi, rfl, hst⟩ := hrel
    have i0 : (0 : Int) ≤ (i : Int) := by omega
    obtain ⟨fr, m, er, hx, hcs⟩ := hst.out
    obtain ⟨⟨-, -, -, d3, d4⟩, fw⟩ := HCel.out wr fr
    by_cases hlt : i < K.ts.length
    · have i1 : (i : Int) < (K.ts.length : Int) := by omega
      obtain ⟨u, hu⟩ : ∃ u, K.ts[i]? = some u := ⟨_, List.getElem?_eq_getElem hlt⟩
      obtain ⟨g, off, hp, hg, hla⟩ : ∃ g off, lp = some ⟨g, off, none⟩ ∧ g < W.heap.size ∧ ∀ i t, K.ts[i]? = some t → LitAt W g (off + i * 4) t := by
        cases HH.out.lits with
        | mk _ _ _ nil at_ short txt kids => exact at_ (by omega)
      rw [hp] at d3
      obtain ⟨y0, y1, y2, y3'⟩ := (hla i u hu).idle fw
      have y3 : wr.cell? ⟨g, off + i * 4 + 3, none⟩ = some (.slice u.p u.kids.length u.c) := y3'
      have HC : Hid (Calls Tryd.prog 18 #[.pointer (some ⟨W.heap.size + 1, 0, none⟩), .agg #[.int .i64 u.kind, .string u.text, .int .i64 u.num, .slice u.p u.kids.length u.c], .bool true] wr fun e w' => e = .returned (.tuple #[]) ∧ Hid (Fr [W.heap.size + 1] W2 w' ∧ ∃ m er, w'.heap[W.heap.size + 1]? = some (.cells (wkc m er) 55 (0, 0)) ∧ ((er = 0 ∧ m ≤ 4096 ∧ gaU (K.ts.drop (i + 1)) m = gaU K.ts 0) ∨ (er ≠ 0 ∧ gaU K.ts 0 = (er, m))))) := by
        rcases hcs with ⟨rfl, hm, hr⟩ | ⟨he, hr⟩
        · refine (HLi.out u (List.mem_of_getElem? hu) true wr m fw hx hm).mono ?_
          rintro e w' ⟨rfl, f, hh⟩
          rw [drop_at hu, gaU_lit] at hr
          refine ⟨rfl, fr.trans f (fun b hb => .inl hb), _, _, hh, ?_⟩
          by_cases hz : (lit1 true u m).1 = 0
          · rw [if_neg (by simpa using hz)] at hr
            refine .inl ⟨hz, ?_, hr⟩
            unfold lit1 at hz ⊢
            by_cases h1 : okB true u = false
            · rw [if_pos h1] at hz; cases hz
            · rw [if_neg h1, if_pos rfl] at hz ⊢
              exact gaT_le u m hm hz
          · rw [if_pos hz] at hr
            exact .inr ⟨hz, hr.symm⟩
        · refine (literal_no (W.heap.size + 1) m er he u true wr hx).mono ?_
          rintro e w' ⟨rfl, f, hh⟩
          exact ⟨rfl, fr.trans f (fun b hb => .inl hb), _, _, hh, .inr ⟨he, hr⟩⟩
      clear hst fr hx hcs hla hp hg y3' fw
      go_wp2_with fail
      refine HC.out.mono ?_
      rintro e w2 ⟨rfl, H2⟩
      go_wp2_with fail
      go_roundw
      case rel => exact ⟨i + 1, by omega, by go_num, H2.out⟩
      case measure => simp [intOf]; omega
    · have hie : i = K.ts.length := by omega
      subst hie
      have e1 : wr.cell? ⟨W.heap.size + 1, 1, none⟩ = some (.int .i64 er) := cell_in hx 1
      rcases hcs with ⟨rfl, hm, hr⟩ | ⟨he, hr⟩
      rotate_left
      · have HRe : Hid (R = (er, [])) := by have := HRR.out; rw [hr, if_pos he] at this; exact this.symm
        have q3 : (er != 0) = true := by simpa using he
        have HFw : Hid (∀ n, Fr [] W (wr.drewN n)) := fun n => fw.dn n
        clear hst fr hx hr he HRR fw
        go_wp2_with fail
        go_quiet (fail)
        go_wp2_with fail
        go_ret2
        exact ⟨by rw [HRe.out]; rfl, HFw.out _⟩
      rw [List.drop_eq_nil_of_le (Nat.le_refl _)] at hr
      have hz : (gaU K.ts 0).1 = 0 := by rw [← hr]; rfl
      have HR2 : Hid ((match lnW K.ws (K.ws.length + 1) 0 with | none => (110, []) | some o => (0, headW K.args K.temps K.stack ++ K.ts.flatMap litW ++ o)) = R) := by
        have := HRR.out
        rw [if_neg (by simpa using hz)] at this
        exact this
      obtain ⟨⟨d0, d1, d2, -, -⟩, -⟩ := HCel.out wr fr
      have HFi : Hid (∀ t ∈ K.ts, FineT t) := fineU K.ts 0 HH.out.nums hz
      have HEl : Hid (∀ t ∈ K.ts, (wrT t).length ≤ 10000000) := fun t ht => each_len K.ts HH.out.nums hz t ht
      have HHd := mkHid (rfirst_ok K.args K.temps K.stack (.slice lp K.ts.length lc) (.slice pw K.ws.length cw) rfl rfl HH.out.hd.1 HH.out.hd.2.1 HH.out.hd.2.2 wr (HH.out.pw.idle fw))
      have HHl := mkHid (headW_len K.args K.temps K.stack HH.out.hd.1 HH.out.hd.2.1 HH.out.hd.2.2)
      have HLt : Hid (∀ t ∈ K.ts, ∀ V, Fr [] W V → Calls Tryd.prog 20 #[.agg #[.int .i64 t.kind, .string t.text, .int .i64 t.num, .slice t.p t.kids.length t.c]] V fun e w' => e = .returned (.string (ba (litW t))) ∧ Fr [] V w') := fun t ht V hV => rlit_ok W HH.out.pw lp lc K.ts HH.out.lits t ht (HFi.out t ht) (by have := HEl.out t ht; omega) V hV
      have HFr0 := mkHid fr
      clear hst fr hx hr hz hm HRR fw HLi
      go_wp2_with fail
      refine HHd.out.mono ?_
      rintro e w3 ⟨rfl, f3⟩
      have HF3 : Hid (Fr [W.heap.size + 1] W2 w3) := HFr0.out.trans f3 (by simp)
      clear f3 d0 d1 d2 d3 d4 e1 HFr0 HHd
      go_wp2_with fail
      go_loopw [6, 7] (fun sv q wr => ∃ i : Nat, i ≤ K.ts.length ∧ q = .int .i64 (i : Int) ∧ sv = .string (ba (headW K.args K.temps K.stack ++ (K.ts.take i).flatMap litW)) ∧ Hid (Fr [W.heap.size + 1] W2 wr)) (fun _ q _ => K.ts.length - (intOf q).toNat)
      case atStart => exact ⟨0, Nat.zero_le _, rfl, by simp, HF3.out⟩
      case round =>
        clear HF3
        obtain ⟨i, hi, rfl, rfl, fr⟩ := hrel
        have i0 : (0 : Int) ≤ (i : Int) := by omega
        obtain ⟨⟨-, -, -, d3, d4⟩, fw⟩ := HCel.out wr fr.out
        have hll := lits_len (K.ts.take i) (fun t ht => HEl.out t (List.mem_of_mem_take ht))
        rw [List.length_take] at hll
        have hhl := HHl.out
        have zs : (ba (headW K.args K.temps K.stack ++ (K.ts.take i).flatMap litW)).size = (headW K.args K.temps K.stack).length + ((K.ts.take i).flatMap litW).length := by rw [ba_size, List.length_append]
        by_cases hlt : i < K.ts.length
        · have i1 : (i : Int) < (K.ts.length : Int) := by omega
          obtain ⟨u, hu⟩ : ∃ u, K.ts[i]? = some u := ⟨_, List.getElem?_eq_getElem hlt⟩
          obtain ⟨g, off, hp, hg, hla⟩ : ∃ g off, lp = some ⟨g, off, none⟩ ∧ g < W.heap.size ∧ ∀ i t, K.ts[i]? = some t → LitAt W g (off + i * 4) t := by
            cases HH.out.lits with
            | mk _ _ _ nil at_ short txt kids => exact at_ (by omega)
          rw [hp] at d3
          obtain ⟨y0, y1, y2, y3'⟩ := (hla i u hu).idle fw
          have y3 : wr.cell? ⟨g, off + i * 4 + 3, none⟩ = some (.slice u.p u.kids.length u.c) := y3'
          have HC := mkHid (HLt.out u (List.mem_of_getElem? hu) wr fw)
          have hlu := lits_len [u] (fun t ht => by simp at ht; rw [ht]; exact HEl.out u (List.mem_of_getElem? hu))
          simp only [List.flatMap_cons, List.flatMap_nil, List.append_nil, List.length_singleton] at hlu
          have zu := ba_size (litW u)
          have HNx : Hid (ba (headW K.args K.temps K.stack ++ (K.ts.take i).flatMap litW) ++ ba (litW u) = ba (headW K.args K.temps K.stack ++ (K.ts.take (i + 1)).flatMap litW)) := by
            show _ = _
            rw [litW_take K.ts i u hu, ba_app, List.append_assoc]
          have x1 : ¬ 9223372036854775807 < (headW K.args K.temps K.stack).length + ((K.ts.take i).flatMap litW).length + (litW u).length := by omega
          have HFr0 := fr
          clear hla hp hg y3' fw hll hhl hlu
          go_wp2_with fail
          refine HC.out.mono ?_
          rintro e w4 ⟨rfl, f4⟩
          have HF4 : Hid (Fr [W.heap.size + 1] W2 w4) := HFr0.out.trans f4 (by simp)
          clear f4
          go_wp2_with fail
          go_roundw
          case rel => exact ⟨i + 1, by omega, by go_num, by rw [← HNx.out], HF4.out⟩
          case measure => simp [intOf]; omega
        · have hie : i = K.ts.length := by omega
          subst hie
          rw [List.take_of_length_le (Nat.le_refl _)] at zs hll ⊢
          obtain ⟨hs, hhs⟩ : ∃ l, headW K.args K.temps K.stack ++ K.ts.flatMap litW = l := ⟨_, rfl⟩
          rw [hhs] at HR2 zs ⊢
          have hsl : hs.length ≤ 1000000000 := by rw [← hhs, List.length_append]; omega
          have HF5 := fr
          clear hll hhl d4 fw hhs HLt HEl HFi
          go_wp2_with fail
          have HWd : Hid (0 < K.ws.length → ∃ g off, pw = some ⟨g, off, none⟩ ∧ ∀ V, Fr [] W V → ∀ i, i < K.ws.length → V.cell? ⟨g, off + i, none⟩ = some (.int .i64 (K.ws.getD i 0))) := fun hp => by
            obtain ⟨p', c', e, hh⟩ := HH.out.words.at_
            injection e with e1 _ _
            subst e1
            obtain ⟨g, off, e2, hg, hc⟩ := hh hp
            exact ⟨g, off, e2, fun V hV i hi => hV.cl (hc i hi)⟩
          have HRg := mkHid HH.out.rng
          have HPw := mkHid HH.out.pw
          have hcw := HH.out.cap
          have hwl : K.ws.length ≤ 4096 := by omega
          generalize wr = wo at *
          obtain ⟨T, hT⟩ : ∃ T, lnW K.ws (K.ws.length + 1) 0 = T := ⟨_, rfl⟩
          rw [hT] at HR2
          have HT := mkHid hT
          clear hT
          go_loopw [6, 8] (fun sv q wr => ∃ a : Nat, a ≤ K.ws.length ∧ q = .int .i64 (a : Int) ∧ ∃ done, sv = .string (ba (hs ++ done)) ∧ Hid (Fr [W.heap.size + 1] W2 wr ∧ done.length ≤ 200 * a ∧ ∃ f, K.ws.length < a + f ∧ T = (lnW K.ws f a).map (done ++ ·))) (fun _ q _ => K.ws.length - (intOf q).toNat)
          case atStart => exact ⟨0, Nat.zero_le _, rfl, [], by simp, HF5.out, by simp, K.ws.length + 1, by omega, by rw [HT.out]; cases T <;> simp⟩
          case round =>
            clear HF5 HT
            obtain ⟨a, ha, rfl, done, rfl, hst⟩ := hrel
            have a0 : (0 : Int) ≤ (a : Int) := by omega
            obtain ⟨fr, hdl, f, hf, hln⟩ := hst.out
            obtain ⟨⟨-, -, -, -, d4⟩, fw⟩ := HCel.out wr fr
            have zs : (ba (hs ++ done)).size = hs.length + done.length := by rw [ba_size, List.length_append]
            by_cases hlt : a < K.ws.length
            · have a1 : (a : Int) < (K.ws.length : Int) := by omega
              obtain ⟨g, off, hp, hcs⟩ := HWd.out (by omega)
              have hp0 := hp
              rw [hp] at d4
              have c0 := hcs wr fw a hlt
              obtain ⟨f, rfl⟩ : ∃ f', f = f' + 1 := ⟨f - 1, by omega⟩
              unfold lnW at hln
              rw [if_pos hlt] at hln
              obtain ⟨o, hoo⟩ : ∃ o, K.ws.getD a 0 = o := ⟨_, rfl⟩
              rw [hoo] at hln c0
              by_cases hop : isOp o = true
              rotate_left
              · have HRe : Hid (R = (110, [])) := by
                  rw [if_neg (fun h => hop h.1)] at hln
                  have := HR2.out
                  rw [hln] at this
                  exact this.symm
                have HFw : Hid (∀ n, Fr [] W (wr.drewN n)) := fun n => fw.dn n
                have HFd : Hid (Fr [W.heap.size + 1] W2 wr.drew) := fr.trans (Fr.drew [] wr) (by simp)
                have HS : Hid (∀ U, Fr [W.heap.size + 1] W2 U → U.cell? ⟨W.heap.size, 4, none⟩ = some (.slice (some ⟨g, off, none⟩) K.ws.length cw)) := fun U hU => by
                  have := (HCel.out U hU).1.2.2.2.2
                  rw [hp0] at this
                  exact this
                have hob : o < 1 ∨ ¬ o < 1 ∧ 28 < o := by
                  unfold isOp at hop
                  simp only [Bool.and_eq_true, decide_eq_true_eq, not_and, Int.not_le] at hop
                  by_cases h1 : o < 1
                  · exact .inl h1
                  · exact .inr ⟨h1, hop (by omega)⟩
                clear hst fr hdl hln hcs hp hoo fw HR2 hop
                rcases hob with o1 | ⟨o1, o2⟩
                · go_wp2_with fail
                  refine wp_region_h (S := (fun U => U.cell? ⟨W.heap.size, 4, none⟩ = some (.slice (some ⟨g, off, none⟩) K.ws.length cw))) (by kernel_rfl) (HS.out _ HFd.out) (fun hHeld => ?_)
                  refine wpAnyH_take (i := 0) (v := ?_) rfl (by kernel_rfl) (by kernel_rfl) (by kernel_rfl) (fun _ _ _ h => h) (Or.inl ⟨by rfl, ?_⟩) (by assumption) ?_
                  rotate_left
                  · (intro w hSw; (try dsimp only at hSw); first | (go_simp; done) | (go_simp; with_reducible rfl))
                  try simp only [Act.put, List.getElem_toArray, List.getElem_cons_zero, List.getElem_cons_succ, List.setIfInBounds_toArray, List.set_cons_zero, List.set_cons_succ]
                  refine wpAnyH_take (i := 1) (v := .bool true) rfl (by kernel_rfl) (by kernel_rfl) (by kernel_rfl) (fun _ _ _ h => h) (Or.inl ⟨by rfl, ?_⟩) (by assumption) ?_
                  · (intro w hSw; (try dsimp only at hSw); first | (go_simp; done) | (go_simp; with_reducible rfl) | (go_simp; omega) | (go_simp; simp; omega) | (go_simp; trace_state; fail))
                  try simp only [Act.put, List.getElem_toArray, List.getElem_cons_zero, List.getElem_cons_succ, List.setIfInBounds_toArray, List.set_cons_zero, List.set_cons_succ]
                  refine wpAnyH_take (i := 2) (v := .bool true) rfl (by kernel_rfl) (by kernel_rfl) (by kernel_rfl) (fun _ _ _ h => h) (Or.inl ⟨by rfl, ?_⟩) (by assumption) ?_
                  · (intro w hSw; (try dsimp only at hSw); first | (go_simp; done) | (go_simp; with_reducible rfl) | (go_simp; omega) | (go_simp; simp; omega) | (go_simp; trace_state; fail))
                  try simp only [Act.put, List.getElem_toArray, List.getElem_cons_zero, List.getElem_cons_succ, List.setIfInBounds_toArray, List.set_cons_zero, List.set_cons_succ]
                  refine wpAnyH_take (i := 3) (v := undef) rfl (by kernel_rfl) (by kernel_rfl) (by kernel_rfl) (fun _ _ _ h => h) (Or.inr ⟨by rfl, rfl⟩) (by assumption) ?_
                  try simp only [Act.put, List.getElem_toArray, List.getElem_cons_zero, List.getElem_cons_succ, List.setIfInBounds_toArray, List.set_cons_zero, List.set_cons_succ]
                  refine wpAnyH_take (i := 4) (v := undef) rfl (by kernel_rfl) (by kernel_rfl) (by kernel_rfl) (fun _ _ _ h => h) (Or.inr ⟨by rfl, rfl⟩) (by assumption) ?_
                  try simp only [Act.put, List.getElem_toArray, List.getElem_cons_zero, List.getElem_cons_succ, List.setIfInBounds_toArray, List.set_cons_zero, List.set_cons_succ]
                  refine wpAnyH_take (i := 5) (v := .bool true) rfl (by kernel_rfl) (by kernel_rfl) (by kernel_rfl) (fun _ _ _ h => h) (Or.inl ⟨by rfl, ?_⟩) (by assumption) ?_
                  · (intro w hSw; (try dsimp only at hSw); first | (go_simp; done) | (go_simp; with_reducible rfl) | (go_simp; omega) | (go_simp; simp; omega) | (go_simp; trace_state; fail))
                  try simp only [Act.put, List.getElem_toArray, List.getElem_cons_zero, List.getElem_cons_succ, List.setIfInBounds_toArray, List.set_cons_zero, List.set_cons_succ]
                  refine wpAnyH_take (i := 6) (v := .bool true) rfl (by kernel_rfl) (by kernel_rfl) (by kernel_rfl) (fun _ _ _ h => h) (Or.inl ⟨by rfl, ?_⟩) (by assumption) ?_
                  · (intro w hSw; (try dsimp only at hSw); first | (go_simp; done) | (go_simp; with_reducible rfl) | (go_simp; omega) | (go_simp; simp; omega) | (go_simp; trace_state; fail))
                  try simp only [Act.put, List.getElem_toArray, List.getElem_cons_zero, List.getElem_cons_succ, List.setIfInBounds_toArray, List.set_cons_zero, List.set_cons_succ]
                  refine wpAnyH_take (i := 7) (v := undef) rfl (by kernel_rfl) (by kernel_rfl) (by kernel_rfl) (fun _ _ _ h => h) (Or.inr ⟨by rfl, rfl⟩) (by assumption) ?_
                  try simp only [Act.put, List.getElem_toArray, List.getElem_cons_zero, List.getElem_cons_succ, List.setIfInBounds_toArray, List.set_cons_zero, List.set_cons_succ]
                  refine wpAnyH_take (i := 9) (v := undef) rfl (by kernel_rfl) (by kernel_rfl) (by kernel_rfl) (fun _ _ _ h => h) (Or.inr ⟨by rfl, rfl⟩) (by assumption) ?_
                  try simp only [Act.put, List.getElem_toArray, List.getElem_cons_zero, List.getElem_cons_succ, List.setIfInBounds_toArray, List.set_cons_zero, List.set_cons_succ]
                  refine wpAnyH_take (i := 10) (v := undef) rfl (by kernel_rfl) (by kernel_rfl) (by kernel_rfl) (fun _ _ _ h => h) (Or.inr ⟨by rfl, rfl⟩) (by assumption) ?_
                  try simp only [Act.put, List.getElem_toArray, List.getElem_cons_zero, List.getElem_cons_succ, List.setIfInBounds_toArray, List.set_cons_zero, List.set_cons_succ]
                  refine wpAnyH_take (i := 11) (v := undef) rfl (by kernel_rfl) (by kernel_rfl) (by kernel_rfl) (fun _ _ _ h => h) (Or.inr ⟨by rfl, rfl⟩) (by assumption) ?_
                  try simp only [Act.put, List.getElem_toArray, List.getElem_cons_zero, List.getElem_cons_succ, List.setIfInBounds_toArray, List.set_cons_zero, List.set_cons_succ]
                  refine wpAnyH_take (i := 12) (v := undef) rfl (by kernel_rfl) (by kernel_rfl) (by kernel_rfl) (fun _ _ _ h => h) (Or.inr ⟨by rfl, rfl⟩) (by assumption) ?_
                  try simp only [Act.put, List.getElem_toArray, List.getElem_cons_zero, List.getElem_cons_succ, List.setIfInBounds_toArray, List.set_cons_zero, List.set_cons_succ]
                  refine wpAnyH_take (i := 13) (v := undef) rfl (by kernel_rfl) (by kernel_rfl) (by kernel_rfl) (fun _ _ _ h => h) (Or.inr ⟨by rfl, rfl⟩) (by assumption) ?_
                  try simp only [Act.put, List.getElem_toArray, List.getElem_cons_zero, List.getElem_cons_succ, List.setIfInBounds_toArray, List.set_cons_zero, List.set_cons_succ]
                  refine wpH_one (i := 8) (by kernel_rfl) rfl (fun K hK => ?_)
                  rw [if_neg (by intro h; exact Bool.false_ne_true h)]
                  refine hK.out _ _ (HS.out _ HFd.out) (fun hHeld => ?_)
                  clear hK K
                  try simp only [Act.put, List.getElem_toArray, List.getElem_cons_zero, List.getElem_cons_succ, List.setIfInBounds_toArray, List.set_cons_zero, List.set_cons_succ]
                  refine wpAnyH_take (i := 14) (v := undef) rfl (by kernel_rfl) (by kernel_rfl) (by kernel_rfl) (fun _ _ _ h => h) (Or.inr ⟨by rfl, rfl⟩) (by assumption) ?_
                  try simp only [Act.put, List.getElem_toArray, List.getElem_cons_zero, List.getElem_cons_succ, List.setIfInBounds_toArray, List.set_cons_zero, List.set_cons_succ]
                  refine wpAnyH_take (i := 15) (v := .bool true) rfl (by kernel_rfl) (by kernel_rfl) (by kernel_rfl) (fun _ _ _ h => h) (Or.inl ⟨by rfl, ?_⟩) (by assumption) ?_
                  · (intro w hSw; (try dsimp only at hSw); first | (go_simp; done) | (go_simp; with_reducible rfl) | (go_simp; omega) | (go_simp; simp; omega) | (go_simp; trace_state; fail))
                  try simp only [Act.put, List.getElem_toArray, List.getElem_cons_zero, List.getElem_cons_succ, List.setIfInBounds_toArray, List.set_cons_zero, List.set_cons_succ]
                  refine wpAnyH_done (by kernel_rfl) ?_ _
                  try simp only [Act.put, List.getElem_toArray, List.getElem_cons_zero, List.getElem_cons_succ, List.setIfInBounds_toArray, List.set_cons_zero, List.set_cons_succ]
                  go_wp2_with fail
                  go_ret2
                  exact ⟨by rw [HRe.out]; rfl, HFw.out _⟩
                · go_wp2_with fail
                  refine wp_region_h (S := (fun U => U.cell? ⟨W.heap.size, 4, none⟩ = some (.slice (some ⟨g, off, none⟩) K.ws.length cw))) (by kernel_rfl) (HS.out _ HFd.out) (fun hHeld => ?_)
                  refine wpAnyH_take (i := 0) (v := ?_) rfl (by kernel_rfl) (by kernel_rfl) (by kernel_rfl) (fun _ _ _ h => h) (Or.inl ⟨by rfl, ?_⟩) (by assumption) ?_
                  rotate_left
                  · (intro w hSw; (try dsimp only at hSw); first | (go_simp; done) | (go_simp; with_reducible rfl))
                  try simp only [Act.put, List.getElem_toArray, List.getElem_cons_zero, List.getElem_cons_succ, List.setIfInBounds_toArray, List.set_cons_zero, List.set_cons_succ]
                  refine wpAnyH_take (i := 1) (v := .bool false) rfl (by kernel_rfl) (by kernel_rfl) (by kernel_rfl) (fun _ _ _ h => h) (Or.inl ⟨by rfl, ?_⟩) (by assumption) ?_
                  · (intro w hSw; (try dsimp only at hSw); first | (go_simp; done) | (go_simp; with_reducible rfl) | (go_simp; omega) | (go_simp; simp; omega) | (go_simp; trace_state; fail))
                  try simp only [Act.put, List.getElem_toArray, List.getElem_cons_zero, List.getElem_cons_succ, List.setIfInBounds_toArray, List.set_cons_zero, List.set_cons_succ]
                  refine wpAnyH_take (i := 2) (v := .bool false) rfl (by kernel_rfl) (by kernel_rfl) (by kernel_rfl) (fun _ _ _ h => h) (Or.inl ⟨by rfl, ?_⟩) (by assumption) ?_
                  · (intro w hSw; (try dsimp only at hSw); first | (go_simp; done) | (go_simp; with_reducible rfl) | (go_simp; omega) | (go_simp; simp; omega) | (go_simp; trace_state; fail))
                  try simp only [Act.put, List.getElem_toArray, List.getElem_cons_zero, List.getElem_cons_succ, List.setIfInBounds_toArray, List.set_cons_zero, List.set_cons_succ]
                  refine wpAnyH_take (i := 3) (v := ?_) rfl (by kernel_rfl) (by kernel_rfl) (by kernel_rfl) (fun _ _ _ h => h) (Or.inl ⟨by rfl, ?_⟩) (by assumption) ?_
                  rotate_left
                  · (intro w hSw; (try dsimp only at hSw); first | (go_simp; done) | (go_simp; with_reducible rfl))
                  try simp only [Act.put, List.getElem_toArray, List.getElem_cons_zero, List.getElem_cons_succ, List.setIfInBounds_toArray, List.set_cons_zero, List.set_cons_succ]
                  refine wpAnyH_take (i := 4) (v := .bool true) rfl (by kernel_rfl) (by kernel_rfl) (by kernel_rfl) (fun _ _ _ h => h) (Or.inl ⟨by rfl, ?_⟩) (by assumption) ?_
                  · (intro w hSw; (try dsimp only at hSw); first | (go_simp; done) | (go_simp; with_reducible rfl) | (go_simp; omega) | (go_simp; simp; omega) | (go_simp; trace_state; fail))
                  try simp only [Act.put, List.getElem_toArray, List.getElem_cons_zero, List.getElem_cons_succ, List.setIfInBounds_toArray, List.set_cons_zero, List.set_cons_succ]
                  refine wpAnyH_take (i := 5) (v := .bool true) rfl (by kernel_rfl) (by kernel_rfl) (by kernel_rfl) (fun _ _ _ h => h) (Or.inl ⟨by rfl, ?_⟩) (by assumption) ?_
                  · (intro w hSw; (try dsimp only at hSw); first | (go_simp; done) | (go_simp; with_reducible rfl) | (go_simp; omega) | (go_simp; simp; omega) | (go_simp; trace_state; fail))
                  try simp only [Act.put, List.getElem_toArray, List.getElem_cons_zero, List.getElem_cons_succ, List.setIfInBounds_toArray, List.set_cons_zero, List.set_cons_succ]
                  refine wpAnyH_take (i := 6) (v := .bool true) rfl (by kernel_rfl) (by kernel_rfl) (by kernel_rfl) (fun _ _ _ h => h) (Or.inl ⟨by rfl, ?_⟩) (by assumption) ?_
                  · (intro w hSw; (try dsimp only at hSw); first | (go_simp; done) | (go_simp; with_reducible rfl) | (go_simp; omega) | (go_simp; simp; omega) | (go_simp; trace_state; fail))
                  try simp only [Act.put, List.getElem_toArray, List.getElem_cons_zero, List.getElem_cons_succ, List.setIfInBounds_toArray, List.set_cons_zero, List.set_cons_succ]
                  refine wpAnyH_take (i := 7) (v := undef) rfl (by kernel_rfl) (by kernel_rfl) (by kernel_rfl) (fun _ _ _ h => h) (Or.inr ⟨by rfl, rfl⟩) (by assumption) ?_
                  try simp only [Act.put, List.getElem_toArray, List.getElem_cons_zero, List.getElem_cons_succ, List.setIfInBounds_toArray, List.set_cons_zero, List.set_cons_succ]
                  refine wpAnyH_take (i := 9) (v := undef) rfl (by kernel_rfl) (by kernel_rfl) (by kernel_rfl) (fun _ _ _ h => h) (Or.inr ⟨by rfl, rfl⟩) (by assumption) ?_
                  try simp only [Act.put, List.getElem_toArray, List.getElem_cons_zero, List.getElem_cons_succ, List.setIfInBounds_toArray, List.set_cons_zero, List.set_cons_succ]
                  refine wpAnyH_take (i := 10) (v := undef) rfl (by kernel_rfl) (by kernel_rfl) (by kernel_rfl) (fun _ _ _ h => h) (Or.inr ⟨by rfl, rfl⟩) (by assumption) ?_
                  try simp only [Act.put, List.getElem_toArray, List.getElem_cons_zero, List.getElem_cons_succ, List.setIfInBounds_toArray, List.set_cons_zero, List.set_cons_succ]
                  refine wpAnyH_take (i := 11) (v := undef) rfl (by kernel_rfl) (by kernel_rfl) (by kernel_rfl) (fun _ _ _ h => h) (Or.inr ⟨by rfl, rfl⟩) (by assumption) ?_
                  try simp only [Act.put, List.getElem_toArray, List.getElem_cons_zero, List.getElem_cons_succ, List.setIfInBounds_toArray, List.set_cons_zero, List.set_cons_succ]
                  refine wpAnyH_take (i := 12) (v := undef) rfl (by kernel_rfl) (by kernel_rfl) (by kernel_rfl) (fun _ _ _ h => h) (Or.inr ⟨by rfl, rfl⟩) (by assumption) ?_
                  try simp only [Act.put, List.getElem_toArray, List.getElem_cons_zero, List.getElem_cons_succ, List.setIfInBounds_toArray, List.set_cons_zero, List.set_cons_succ]
                  refine wpAnyH_take (i := 13) (v := undef) rfl (by kernel_rfl) (by kernel_rfl) (by kernel_rfl) (fun _ _ _ h => h) (Or.inr ⟨by rfl, rfl⟩) (by assumption) ?_
                  try simp only [Act.put, List.getElem_toArray, List.getElem_cons_zero, List.getElem_cons_succ, List.setIfInBounds_toArray, List.set_cons_zero, List.set_cons_succ]
                  refine wpH_one (i := 8) (by kernel_rfl) rfl (fun K hK => ?_)
                  rw [if_neg (by intro h; exact Bool.false_ne_true h)]
                  refine hK.out _ _ (HS.out _ HFd.out) (fun hHeld => ?_)
                  clear hK K
                  try simp only [Act.put, List.getElem_toArray, List.getElem_cons_zero, List.getElem_cons_succ, List.setIfInBounds_toArray, List.set_cons_zero, List.set_cons_succ]
                  refine wpAnyH_take (i := 14) (v := undef) rfl (by kernel_rfl) (by kernel_rfl) (by kernel_rfl) (fun _ _ _ h => h) (Or.inr ⟨by rfl, rfl⟩) (by assumption) ?_
                  try simp only [Act.put, List.getElem_toArray, List.getElem_cons_zero, List.getElem_cons_succ, List.setIfInBounds_toArray, List.set_cons_zero, List.set_cons_succ]
                  refine wpAnyH_take (i := 15) (v := .bool true) rfl (by kernel_rfl) (by kernel_rfl) (by kernel_rfl) (fun _ _ _ h => h) (Or.inl ⟨by rfl, ?_⟩) (by assumption) ?_
                  · (intro w hSw; (try dsimp only at hSw); first | (go_simp; done) | (go_simp; with_reducible rfl) | (go_simp; omega) | (go_simp; simp; omega) | (go_simp; trace_state; fail))
                  try simp only [Act.put, List.getElem_toArray, List.getElem_cons_zero, List.getElem_cons_succ, List.setIfInBounds_toArray, List.set_cons_zero, List.set_cons_succ]
                  refine wpAnyH_done (by kernel_rfl) ?_ _
                  try simp only [Act.put, List.getElem_toArray, List.getElem_cons_zero, List.getElem_cons_succ, List.setIfInBounds_toArray, List.set_cons_zero, List.set_cons_succ]
                  go_wp2_with fail
                  go_ret2
                  exact ⟨by rw [HRe.out]; rfl, HFw.out _⟩
              have hop1 : 1 ≤ o ∧ o ≤ 28 := by unfold isOp at hop; simpa using hop
              obtain ⟨m, rfl⟩ : ∃ m : Nat, o = (m : Int) := ⟨o.toNat, by omega⟩
              rw [Int.toNat_natCast] at hln
              have o1 : ¬ (m : Int) < 1 := by omega
              have o2 : ¬ (28 : Int) < (m : Int) := by omega
              have m1 : ¬ m < 1 := by omega
              have m2 : ¬ 28 < m := by omega
              have hod := opd_le m
              have HS : Hid (∀ U, Fr [W.heap.size + 1] W2 U → U.cell? ⟨W.heap.size, 4, none⟩ = some (.slice (some ⟨g, off, none⟩) K.ws.length cw)) := fun U hU => by
                have := (HCel.out U hU).1.2.2.2.2
                rw [hp0] at this
                exact this
              have HSz : Hid (∀ U, Fr [W.heap.size + 1] W2 U → Calls Tryd.prog 21 #[.int .i64 (m : Int)] U fun e w' => e = .returned (.int .i64 ((1 + opd m : Nat) : Int)) ∧ Fr [W.heap.size + 1] W2 w') := fun U hU => (rsize_ok m (by omega) (by omega) U).mono (by
                rintro e w' ⟨rfl, f⟩
                exact ⟨rfl, hU.trans f (by simp)⟩)
              have HFd : Hid (Fr [W.heap.size + 1] W2 wr.drew) := fr.trans (Fr.drew [] wr) (by simp)
              by_cases hfit : a + 1 + opd m ≤ K.ws.length
              rotate_left
              · have HRe : Hid (R = (110, [])) := by
                  rw [if_neg (fun h => hfit h.2)] at hln
                  have := HR2.out
                  rw [hln] at this
                  exact this.symm
                have HFw : Hid (∀ U, Fr [W.heap.size + 1] W2 U → Fr [] W U) := fun U hU => (HCel.out U hU).2
                clear hst fr hdl hln hcs hp hp0 hoo fw HR2 hop hop1
                generalize opd m = od at *
                have t1 : (K.ws.length : Int) - (a : Int) < 1 + (od : Int) := by omega
                have wr1 : IntKind.i64.wrap ((K.ws.length : Int) - (a : Int)) = (K.ws.length : Int) - (a : Int) := iwrap_id (by omega) (by omega)
                go_wp2_with fail
                refine wp_region_h (S := (fun U => U.cell? ⟨W.heap.size, 4, none⟩ = some (.slice (some ⟨g, off, none⟩) K.ws.length cw))) (by kernel_rfl) (HS.out _ HFd.out) (fun hHeld => ?_)
                refine wpAnyH_take (i := 0) (v := ?_) rfl (by kernel_rfl) (by kernel_rfl) (by kernel_rfl) (fun _ _ _ h => h) (Or.inl ⟨by rfl, ?_⟩) (by assumption) ?_
                rotate_left
                · (intro w hSw; (try dsimp only at hSw); first | (go_simp; done) | (go_simp; with_reducible rfl))
                try simp only [Act.put, List.getElem_toArray, List.getElem_cons_zero, List.getElem_cons_succ, List.setIfInBounds_toArray, List.set_cons_zero, List.set_cons_succ]
                refine wpAnyH_take (i := 1) (v := .bool false) rfl (by kernel_rfl) (by kernel_rfl) (by kernel_rfl) (fun _ _ _ h => h) (Or.inl ⟨by rfl, ?_⟩) (by assumption) ?_
                · (intro w hSw; (try dsimp only at hSw); first | (go_simp; done) | (go_simp; with_reducible rfl) | (go_simp; omega) | (go_simp; simp; omega) | (go_simp; trace_state; fail))
                try simp only [Act.put, List.getElem_toArray, List.getElem_cons_zero, List.getElem_cons_succ, List.setIfInBounds_toArray, List.set_cons_zero, List.set_cons_succ]
                refine wpAnyH_take (i := 2) (v := .bool false) rfl (by kernel_rfl) (by kernel_rfl) (by kernel_rfl) (fun _ _ _ h => h) (Or.inl ⟨by rfl, ?_⟩) (by assumption) ?_
                · (intro w hSw; (try dsimp only at hSw); first | (go_simp; done) | (go_simp; with_reducible rfl) | (go_simp; omega) | (go_simp; simp; omega) | (go_simp; trace_state; fail))
                try simp only [Act.put, List.getElem_toArray, List.getElem_cons_zero, List.getElem_cons_succ, List.setIfInBounds_toArray, List.set_cons_zero, List.set_cons_succ]
                refine wpAnyH_take (i := 3) (v := ?_) rfl (by kernel_rfl) (by kernel_rfl) (by kernel_rfl) (fun _ _ _ h => h) (Or.inl ⟨by rfl, ?_⟩) (by assumption) ?_
                rotate_left
                · (intro w hSw; (try dsimp only at hSw); first | (go_simp; done) | (go_simp; with_reducible rfl))
                try simp only [Act.put, List.getElem_toArray, List.getElem_cons_zero, List.getElem_cons_succ, List.setIfInBounds_toArray, List.set_cons_zero, List.set_cons_succ]
                refine wpAnyH_take (i := 4) (v := .bool false) rfl (by kernel_rfl) (by kernel_rfl) (by kernel_rfl) (fun _ _ _ h => h) (Or.inl ⟨by rfl, ?_⟩) (by assumption) ?_
                · (intro w hSw; (try dsimp only at hSw); first | (go_simp; done) | (go_simp; with_reducible rfl) | (go_simp; omega) | (go_simp; simp; omega) | (go_simp; trace_state; fail))
                try simp only [Act.put, List.getElem_toArray, List.getElem_cons_zero, List.getElem_cons_succ, List.setIfInBounds_toArray, List.set_cons_zero, List.set_cons_succ]
                refine wpAnyH_take (i := 5) (v := .bool false) rfl (by kernel_rfl) (by kernel_rfl) (by kernel_rfl) (fun _ _ _ h => h) (Or.inl ⟨by rfl, ?_⟩) (by assumption) ?_
                · (intro w hSw; (try dsimp only at hSw); first | (go_simp; done) | (go_simp; with_reducible rfl) | (go_simp; omega) | (go_simp; simp; omega) | (go_simp; trace_state; fail))
                try simp only [Act.put, List.getElem_toArray, List.getElem_cons_zero, List.getElem_cons_succ, List.setIfInBounds_toArray, List.set_cons_zero, List.set_cons_succ]
                refine wpAnyH_take (i := 6) (v := .bool false) rfl (by kernel_rfl) (by kernel_rfl) (by kernel_rfl) (fun _ _ _ h => h) (Or.inl ⟨by rfl, ?_⟩) (by assumption) ?_
                · (intro w hSw; (try dsimp only at hSw); first | (go_simp; done) | (go_simp; with_reducible rfl) | (go_simp; omega) | (go_simp; simp; omega) | (go_simp; trace_state; fail))
                try simp only [Act.put, List.getElem_toArray, List.getElem_cons_zero, List.getElem_cons_succ, List.setIfInBounds_toArray, List.set_cons_zero, List.set_cons_succ]
                refine wpAnyH_take (i := 7) (v := ?_) rfl (by kernel_rfl) (by kernel_rfl) (by kernel_rfl) (fun _ _ _ h => h) (Or.inl ⟨by rfl, ?_⟩) (by assumption) ?_
                rotate_left
                · (intro w hSw; (try dsimp only at hSw); first | (go_simp; done) | (go_simp; with_reducible rfl))
                try simp only [Act.put, List.getElem_toArray, List.getElem_cons_zero, List.getElem_cons_succ, List.setIfInBounds_toArray, List.set_cons_zero, List.set_cons_succ]
                refine wpAnyH_take (i := 9) (v := ?_) rfl (by kernel_rfl) (by kernel_rfl) (by kernel_rfl) (fun _ _ _ h => h) (Or.inl ⟨by rfl, ?_⟩) (by assumption) ?_
                rotate_left
                · (intro w hSw; (try dsimp only at hSw); first | (go_simp; done) | (go_simp; with_reducible rfl))
                try simp only [Act.put, List.getElem_toArray, List.getElem_cons_zero, List.getElem_cons_succ, List.setIfInBounds_toArray, List.set_cons_zero, List.set_cons_succ]
                refine wpAnyH_take (i := 10) (v := ?_) rfl (by kernel_rfl) (by kernel_rfl) (by kernel_rfl) (fun _ _ _ h => h) (Or.inl ⟨by rfl, ?_⟩) (by assumption) ?_
                rotate_left
                · (intro w hSw; (try dsimp only at hSw); first | (go_simp; done) | (go_simp; with_reducible rfl))
                try simp only [Act.put, List.getElem_toArray, List.getElem_cons_zero, List.getElem_cons_succ, List.setIfInBounds_toArray, List.set_cons_zero, List.set_cons_succ]
                refine wpAnyH_take (i := 11) (v := ?_) rfl (by kernel_rfl) (by kernel_rfl) (by kernel_rfl) (fun _ _ _ h => h) (Or.inl ⟨by rfl, ?_⟩) (by assumption) ?_
                rotate_left
                · (intro w hSw; (try dsimp only at hSw); first | (go_simp; done) | (go_simp; with_reducible rfl))
                try simp only [Act.put, List.getElem_toArray, List.getElem_cons_zero, List.getElem_cons_succ, List.setIfInBounds_toArray, List.set_cons_zero, List.set_cons_succ]
                refine wpAnyH_take (i := 12) (v := ?_) rfl (by kernel_rfl) (by kernel_rfl) (by kernel_rfl) (fun _ _ _ h => h) (Or.inl ⟨by rfl, ?_⟩) (by assumption) ?_
                rotate_left
                · (intro w hSw; (try dsimp only at hSw); first | (go_simp; done) | (go_simp; with_reducible rfl))
                try simp only [Act.put, List.getElem_toArray, List.getElem_cons_zero, List.getElem_cons_succ, List.setIfInBounds_toArray, List.set_cons_zero, List.set_cons_succ]
                refine wpAnyH_take (i := 13) (v := ?_) rfl (by kernel_rfl) (by kernel_rfl) (by kernel_rfl) (fun _ _ _ h => h) (Or.inl ⟨by rfl, ?_⟩) (by assumption) ?_
                rotate_left
                · (intro w hSw; (try dsimp only at hSw); first | (go_simp; done) | (go_simp; with_reducible rfl))
                try simp only [Act.put, List.getElem_toArray, List.getElem_cons_zero, List.getElem_cons_succ, List.setIfInBounds_toArray, List.set_cons_zero, List.set_cons_succ]
                refine wpH_one (i := 8) (by kernel_rfl) rfl (fun K hK => ?_)
                go_simp
                go_wp2_with fail
                refine (HSz.out _ HFd.out).mono ?_
                rintro e w6 ⟨rfl, f6⟩
                have HF6 := mkHid f6
                clear f6
                refine hK.out _ _ (HS.out _ HF6.out) (fun hHeld => ?_)
                clear hK K
                try simp only [Act.put, List.getElem_toArray, List.getElem_cons_zero, List.getElem_cons_succ, List.setIfInBounds_toArray, List.set_cons_zero, List.set_cons_succ]
                refine wpAnyH_take (i := 14) (v := .bool true) rfl (by kernel_rfl) (by kernel_rfl) (by kernel_rfl) (fun _ _ _ h => h) (Or.inl ⟨by rfl, ?_⟩) (by assumption) ?_
                · (intro w hSw; (try dsimp only at hSw); first | (go_simp; done) | (go_simp; with_reducible rfl) | (go_simp; omega) | (go_simp; simp; omega) | (go_simp; trace_state; fail))
                try simp only [Act.put, List.getElem_toArray, List.getElem_cons_zero, List.getElem_cons_succ, List.setIfInBounds_toArray, List.set_cons_zero, List.set_cons_succ]
                refine wpAnyH_take (i := 15) (v := .bool true) rfl (by kernel_rfl) (by kernel_rfl) (by kernel_rfl) (fun _ _ _ h => h) (Or.inl ⟨by rfl, ?_⟩) (by assumption) ?_
                · (intro w hSw; (try dsimp only at hSw); first | (go_simp; done) | (go_simp; with_reducible rfl) | (go_simp; omega) | (go_simp; simp; omega) | (go_simp; trace_state; fail))
                try simp only [Act.put, List.getElem_toArray, List.getElem_cons_zero, List.getElem_cons_succ, List.setIfInBounds_toArray, List.set_cons_zero, List.set_cons_succ]
                refine wpAnyH_done (by kernel_rfl) ?_ _
                try simp only [Act.put, List.getElem_toArray, List.getElem_cons_zero, List.getElem_cons_succ, List.setIfInBounds_toArray, List.set_cons_zero, List.set_cons_succ]
                go_wp2_with fail
                go_ret2
                exact ⟨by rw [HRe.out]; rfl, HFw.out _ HF6.out⟩
              obtain ⟨ns, hns⟩ : ∃ ns, (K.ws.drop (a + 1)).take (opd m) = ns := ⟨_, rfl⟩
              rw [if_pos ⟨hop, hfit⟩, hns] at hln
              have hnl : ns.length = opd m := by rw [← hns, List.length_take, List.length_drop]; omega
              have hnr : ∀ n ∈ ns, r64 n := fun n hn => by
                rw [← hns] at hn
                obtain ⟨i, hi⟩ := List.getElem?_of_mem (List.mem_of_mem_drop (List.mem_of_mem_take hn))
                have := HRg.out i
                rw [List.getD_eq_getElem?_getD, hi] at this
                exact this
              have hni : ∀ i (hi : i < ns.length), K.ws.getD (a + 1 + i) 0 = ns[i] := fun i hi => by
                subst hns
                rw [List.getElem_take, List.getElem_drop, List.getD_eq_getElem?_getD, List.getElem?_eq_getElem (by rw [hnl] at hi; omega)]
                rfl
              have HIs : Hid (∀ U, Fr [W.heap.size + 1] W2 U → Calls Tryd.prog 22 #[.int .i64 (a : Int), .slice (some ⟨g, off + a, none⟩) (opd m + 1) (cw - a)] U fun e w' => e = .returned (.string (ba (insW a m ns))) ∧ Fr [W.heap.size + 1] W2 w') := fun U hU => by
                have fU := (HCel.out U hU).2
                have := rinstr_ok a m ns g (off + a) (cw - a) U (HPw.out.idle fU) (by omega) (by omega) (by omega) (by omega) hnr (by rw [← hoo]; exact hcs U fU a hlt) (fun i hi => by
                  rw [← hni i hi, show off + a + (i + 1) = off + (a + 1 + i) by omega]
                  exact hcs U fU (a + 1 + i) (by omega))
                rw [hnl] at this
                exact this.mono (by
                  rintro e w' ⟨rfl, f⟩
                  exact ⟨rfl, hU.trans f (by simp)⟩)
              have hil : (insW a m ns).length ≤ 200 := by
                have l1 := itoa_len (a : Int) (by omega) (by omega)
                have l2 := nmB_le m
                have l3 := numsW_len ns hnr
                have l4 : (nmB m).data.toList.length = (nmB m).size := by rw [Array.length_toList]; rfl
                unfold insW
                simp only [List.length_append, List.length_singleton]
                omega
              have HNx : Hid (done.length + (insW a m ns).length ≤ 200 * (a + (1 + opd m)) ∧ ∃ f', K.ws.length < a + (1 + opd m) + f' ∧ T = (lnW K.ws f' (a + (1 + opd m))).map (done ++ insW a m ns ++ ·)) := ⟨by omega, f, by omega, by
                rw [hln, show a + (1 + opd m) = a + 1 + opd m by omega]
                cases lnW K.ws f (a + 1 + opd m) <;> simp⟩
              clear hst fr hln hcs hp hp0 hoo fw HR2 hop hop1 hns hnr hni hnl HRg HWd HPw
              generalize opd m = od at *
              obtain ⟨il, hile⟩ : ∃ l, insW a m ns = l := ⟨_, rfl⟩
              rw [hile] at HIs hil HNx
              clear hile
              have HAp : Hid (ba (hs ++ done) ++ ba il = ba (hs ++ (done ++ il))) := by
                show _ = _
                rw [ba_app, List.append_assoc]
              have zi := ba_size il
              have x1 : ¬ 9223372036854775807 < hs.length + done.length + il.length := by omega
              have t1 : ¬ (K.ws.length : Int) - (a : Int) < 1 + (od : Int) := by omega
              have wr1 : IntKind.i64.wrap ((K.ws.length : Int) - (a : Int)) = (K.ws.length : Int) - (a : Int) := iwrap_id (by omega) (by omega)
              have wr2 : IntKind.i64.wrap ((a : Int) + (1 + (od : Int))) = (a : Int) + (1 + (od : Int)) := iwrap_id (by omega) (by omega)
              have b2 : (a : Int) ≤ (a : Int) + (1 + (od : Int)) := by omega
              have b3 : (a : Int) + (1 + (od : Int)) ≤ (cw : Int) := by omega
              have b4 : (0 : Int) ≤ (a : Int) + (1 + (od : Int)) := by omega
              have mx1 : max ((a : Int) + (1 + (od : Int))) 0 = (a : Int) + (1 + (od : Int)) := by omega
              have tn2 : ((a : Int) + (1 + (od : Int))).toNat = a + (1 + od) := by omega
              have sb1 : a + (1 + od) - a = od + 1 := by omega
              have ca : ¬ cw = a := by omega
              go_wp2_with fail
              refine wp_region_h (S := (fun U => U.cell? ⟨W.heap.size, 4, none⟩ = some (.slice (some ⟨g, off, none⟩) K.ws.length cw))) (by kernel_rfl) (HS.out _ HFd.out) (fun hHeld => ?_)
              refine wpAnyH_take (i := 0) (v := ?_) rfl (by kernel_rfl) (by kernel_rfl) (by kernel_rfl) (fun _ _ _ h => h) (Or.inl ⟨by rfl, ?_⟩) (by assumption) ?_
              rotate_left
              · (intro w hSw; (try dsimp only at hSw); first | (go_simp; done) | (go_simp; with_reducible rfl))
              try simp only [Act.put, List.getElem_toArray, List.getElem_cons_zero, List.getElem_cons_succ, List.setIfInBounds_toArray, List.set_cons_zero, List.set_cons_succ]
              refine wpAnyH_take (i := 1) (v := .bool false) rfl (by kernel_rfl) (by kernel_rfl) (by kernel_rfl) (fun _ _ _ h => h) (Or.inl ⟨by rfl, ?_⟩) (by assumption) ?_
              · (intro w hSw; (try dsimp only at hSw); first | (go_simp; done) | (go_simp; with_reducible rfl) | (go_simp; omega) | (go_simp; simp; omega) | (go_simp; trace_state; fail))
              try simp only [Act.put, List.getElem_toArray, List.getElem_cons_zero, List.getElem_cons_succ, List.setIfInBounds_toArray, List.set_cons_zero, List.set_cons_succ]
              refine wpAnyH_take (i := 2) (v := .bool false) rfl (by kernel_rfl) (by kernel_rfl) (by kernel_rfl) (fun _ _ _ h => h) (Or.inl ⟨by rfl, ?_⟩) (by assumption) ?_
              · (intro w hSw; (try dsimp only at hSw); first | (go_simp; done) | (go_simp; with_reducible rfl) | (go_simp; omega) | (go_simp; simp; omega) | (go_simp; trace_state; fail))
              try simp only [Act.put, List.getElem_toArray, List.getElem_cons_zero, List.getElem_cons_succ, List.setIfInBounds_toArray, List.set_cons_zero, List.set_cons_succ]
              refine wpAnyH_take (i := 3) (v := ?_) rfl (by kernel_rfl) (by kernel_rfl) (by kernel_rfl) (fun _ _ _ h => h) (Or.inl ⟨by rfl, ?_⟩) (by assumption) ?_
              rotate_left
              · (intro w hSw; (try dsimp only at hSw); first | (go_simp; done) | (go_simp; with_reducible rfl))
              try simp only [Act.put, List.getElem_toArray, List.getElem_cons_zero, List.getElem_cons_succ, List.setIfInBounds_toArray, List.set_cons_zero, List.set_cons_succ]
              refine wpAnyH_take (i := 4) (v := .bool false) rfl (by kernel_rfl) (by kernel_rfl) (by kernel_rfl) (fun _ _ _ h => h) (Or.inl ⟨by rfl, ?_⟩) (by assumption) ?_
              · (intro w hSw; (try dsimp only at hSw); first | (go_simp; done) | (go_simp; with_reducible rfl) | (go_simp; omega) | (go_simp; simp; omega) | (go_simp; trace_state; fail))
              try simp only [Act.put, List.getElem_toArray, List.getElem_cons_zero, List.getElem_cons_succ, List.setIfInBounds_toArray, List.set_cons_zero, List.set_cons_succ]
              refine wpAnyH_take (i := 5) (v := .bool false) rfl (by kernel_rfl) (by kernel_rfl) (by kernel_rfl) (fun _ _ _ h => h) (Or.inl ⟨by rfl, ?_⟩) (by assumption) ?_
              · (intro w hSw; (try dsimp only at hSw); first | (go_simp; done) | (go_simp; with_reducible rfl) | (go_simp; omega) | (go_simp; simp; omega) | (go_simp; trace_state; fail))
              try simp only [Act.put, List.getElem_toArray, List.getElem_cons_zero, List.getElem_cons_succ, List.setIfInBounds_toArray, List.set_cons_zero, List.set_cons_succ]
              refine wpAnyH_take (i := 6) (v := .bool false) rfl (by kernel_rfl) (by kernel_rfl) (by kernel_rfl) (fun _ _ _ h => h) (Or.inl ⟨by rfl, ?_⟩) (by assumption) ?_
              · (intro w hSw; (try dsimp only at hSw); first | (go_simp; done) | (go_simp; with_reducible rfl) | (go_simp; omega) | (go_simp; simp; omega) | (go_simp; trace_state; fail))
              try simp only [Act.put, List.getElem_toArray, List.getElem_cons_zero, List.getElem_cons_succ, List.setIfInBounds_toArray, List.set_cons_zero, List.set_cons_succ]
              refine wpAnyH_take (i := 7) (v := ?_) rfl (by kernel_rfl) (by kernel_rfl) (by kernel_rfl) (fun _ _ _ h => h) (Or.inl ⟨by rfl, ?_⟩) (by assumption) ?_
              rotate_left
              · (intro w hSw; (try dsimp only at hSw); first | (go_simp; done) | (go_simp; with_reducible rfl))
              try simp only [Act.put, List.getElem_toArray, List.getElem_cons_zero, List.getElem_cons_succ, List.setIfInBounds_toArray, List.set_cons_zero, List.set_cons_succ]
              refine wpAnyH_take (i := 9) (v := ?_) rfl (by kernel_rfl) (by kernel_rfl) (by kernel_rfl) (fun _ _ _ h => h) (Or.inl ⟨by rfl, ?_⟩) (by assumption) ?_
              rotate_left
              · (intro w hSw; (try dsimp only at hSw); first | (go_simp; done) | (go_simp; with_reducible rfl))
              try simp only [Act.put, List.getElem_toArray, List.getElem_cons_zero, List.getElem_cons_succ, List.setIfInBounds_toArray, List.set_cons_zero, List.set_cons_succ]
              refine wpAnyH_take (i := 10) (v := ?_) rfl (by kernel_rfl) (by kernel_rfl) (by kernel_rfl) (fun _ _ _ h => h) (Or.inl ⟨by rfl, ?_⟩) (by assumption) ?_
              rotate_left
              · (intro w hSw; (try dsimp only at hSw); first | (go_simp; done) | (go_simp; with_reducible rfl))
              try simp only [Act.put, List.getElem_toArray, List.getElem_cons_zero, List.getElem_cons_succ, List.setIfInBounds_toArray, List.set_cons_zero, List.set_cons_succ]
              refine wpAnyH_take (i := 11) (v := ?_) rfl (by kernel_rfl) (by kernel_rfl) (by kernel_rfl) (fun _ _ _ h => h) (Or.inl ⟨by rfl, ?_⟩) (by assumption) ?_
              rotate_left
              · (intro w hSw; (try dsimp only at hSw); first | (go_simp; done) | (go_simp; with_reducible rfl))
              try simp only [Act.put, List.getElem_toArray, List.getElem_cons_zero, List.getElem_cons_succ, List.setIfInBounds_toArray, List.set_cons_zero, List.set_cons_succ]
              refine wpAnyH_take (i := 12) (v := ?_) rfl (by kernel_rfl) (by kernel_rfl) (by kernel_rfl) (fun _ _ _ h => h) (Or.inl ⟨by rfl, ?_⟩) (by assumption) ?_
              rotate_left
              · (intro w hSw; (try dsimp only at hSw); first | (go_simp; done) | (go_simp; with_reducible rfl))
              try simp only [Act.put, List.getElem_toArray, List.getElem_cons_zero, List.getElem_cons_succ, List.setIfInBounds_toArray, List.set_cons_zero, List.set_cons_succ]
              refine wpAnyH_take (i := 13) (v := ?_) rfl (by kernel_rfl) (by kernel_rfl) (by kernel_rfl) (fun _ _ _ h => h) (Or.inl ⟨by rfl, ?_⟩) (by assumption) ?_
              rotate_left
              · (intro w hSw; (try dsimp only at hSw); first | (go_simp; done) | (go_simp; with_reducible rfl))
              try simp only [Act.put, List.getElem_toArray, List.getElem_cons_zero, List.getElem_cons_succ, List.setIfInBounds_toArray, List.set_cons_zero, List.set_cons_succ]
              refine wpH_one (i := 8) (by kernel_rfl) rfl (fun K hK => ?_)
              go_simp
              go_wp2_with fail
              refine (HSz.out _ HFd.out).mono ?_
              rintro e w6 ⟨rfl, f6⟩
              have HF6 := mkHid f6
              clear f6
              refine hK.out _ _ (HS.out _ HF6.out) (fun hHeld => ?_)
              clear hK K
              try simp only [Act.put, List.getElem_toArray, List.getElem_cons_zero, List.getElem_cons_succ, List.setIfInBounds_toArray, List.set_cons_zero, List.set_cons_succ]
              refine wpAnyH_take (i := 14) (v := .bool false) rfl (by kernel_rfl) (by kernel_rfl) (by kernel_rfl) (fun _ _ _ h => h) (Or.inl ⟨by rfl, ?_⟩) (by assumption) ?_
              · (intro w hSw; (try dsimp only at hSw); first | (go_simp; done) | (go_simp; with_reducible rfl) | (go_simp; omega) | (go_simp; simp; omega) | (go_simp; trace_state; fail))
              try simp only [Act.put, List.getElem_toArray, List.getElem_cons_zero, List.getElem_cons_succ, List.setIfInBounds_toArray, List.set_cons_zero, List.set_cons_succ]
              refine wpAnyH_take (i := 15) (v := .bool false) rfl (by kernel_rfl) (by kernel_rfl) (by kernel_rfl) (fun _ _ _ h => h) (Or.inl ⟨by rfl, ?_⟩) (by assumption) ?_
              · (intro w hSw; (try dsimp only at hSw); first | (go_simp; done) | (go_simp; with_reducible rfl) | (go_simp; omega) | (go_simp; simp; omega) | (go_simp; trace_state; fail))
              try simp only [Act.put, List.getElem_toArray, List.getElem_cons_zero, List.getElem_cons_succ, List.setIfInBounds_toArray, List.set_cons_zero, List.set_cons_succ]
              refine wpAnyH_done (by kernel_rfl) ?_ _
              try simp only [Act.put, List.getElem_toArray, List.getElem_cons_zero, List.getElem_cons_succ, List.setIfInBounds_toArray, List.set_cons_zero, List.set_cons_succ]
              have HFe : Hid (Fr [W.heap.size + 1] W2 w6.drew) := HF6.out.trans (Fr.drew [] w6) (by simp)
              go_wp2_with fail
              refine wp_region_last (L := 12) (S := (fun U => U.cell? ⟨W.heap.size, 4, none⟩ = some (.slice (some ⟨g, off, none⟩) K.ws.length cw))) (by kernel_rfl) (HS.out _ HFe.out) (fun hHeld => ?_)
              refine wpLast_take (i := 0) (v := ?_) rfl (by kernel_rfl) (by kernel_rfl) (by kernel_rfl) (by decide) (by kernel_rfl) (fun _ _ _ h => h) (Or.inl ⟨by rfl, ?_⟩) (by assumption) ?_
              rotate_left
              · (intro w hSw; (try dsimp only at hSw); first | (go_simp; done) | (go_simp; with_reducible rfl))
              try simp only [Act.put, List.getElem_toArray, List.getElem_cons_zero, List.getElem_cons_succ, List.setIfInBounds_toArray, List.set_cons_zero, List.set_cons_succ]
              refine wpLast_take (i := 1) (v := ?_) rfl (by kernel_rfl) (by kernel_rfl) (by kernel_rfl) (by decide) (by kernel_rfl) (fun _ _ _ h => h) (Or.inl ⟨by rfl, ?_⟩) (by assumption) ?_
              rotate_left
              · (intro w hSw; (try dsimp only at hSw); first | (go_simp; done) | (go_simp; with_reducible rfl))
              try simp only [Act.put, List.getElem_toArray, List.getElem_cons_zero, List.getElem_cons_succ, List.setIfInBounds_toArray, List.set_cons_zero, List.set_cons_succ]
              refine wpLast_take (i := 2) (v := ?_) rfl (by kernel_rfl) (by kernel_rfl) (by kernel_rfl) (by decide) (by kernel_rfl) (fun _ _ _ h => h) (Or.inl ⟨by rfl, ?_⟩) (by assumption) ?_
              rotate_left
              · (intro w hSw; (try dsimp only at hSw); first | (go_simp; done) | (go_simp; with_reducible rfl))
              try simp only [Act.put, List.getElem_toArray, List.getElem_cons_zero, List.getElem_cons_succ, List.setIfInBounds_toArray, List.set_cons_zero, List.set_cons_succ]
              refine wpLast_take (i := 3) (v := ?_) rfl (by kernel_rfl) (by kernel_rfl) (by kernel_rfl) (by decide) (by kernel_rfl) (fun _ _ _ h => h) (Or.inl ⟨by rfl, ?_⟩) (by assumption) ?_
              rotate_left
              · (intro w hSw; (try dsimp only at hSw); first | (go_simp; done) | (go_simp; with_reducible rfl))
              try simp only [Act.put, List.getElem_toArray, List.getElem_cons_zero, List.getElem_cons_succ, List.setIfInBounds_toArray, List.set_cons_zero, List.set_cons_succ]
              refine wpLast_take (i := 4) (v := ?_) rfl (by kernel_rfl) (by kernel_rfl) (by kernel_rfl) (by decide) (by kernel_rfl) (fun _ _ _ h => h) (Or.inl ⟨by rfl, ?_⟩) (by assumption) ?_
              rotate_left
              · (intro w hSw; (try dsimp only at hSw); first | (go_simp; done) | (go_simp; with_reducible rfl))
              try simp only [Act.put, List.getElem_toArray, List.getElem_cons_zero, List.getElem_cons_succ, List.setIfInBounds_toArray, List.set_cons_zero, List.set_cons_succ]
              refine wpLast_take (i := 5) (v := ?_) rfl (by kernel_rfl) (by kernel_rfl) (by kernel_rfl) (by decide) (by kernel_rfl) (fun _ _ _ h => h) (Or.inl ⟨by rfl, ?_⟩) (by assumption) ?_
              rotate_left
              · (intro w hSw; (try dsimp only at hSw); first | (go_simp; done) | (go_simp; with_reducible rfl))
              try simp only [Act.put, List.getElem_toArray, List.getElem_cons_zero, List.getElem_cons_succ, List.setIfInBounds_toArray, List.set_cons_zero, List.set_cons_succ]
              refine wpLast_take (i := 6) (v := ?_) rfl (by kernel_rfl) (by kernel_rfl) (by kernel_rfl) (by decide) (by kernel_rfl) (fun _ _ _ h => h) (Or.inl ⟨by rfl, ?_⟩) (by assumption) ?_
              rotate_left
              · (intro w hSw; (try dsimp only at hSw); first | (go_simp; done) | (go_simp; with_reducible rfl))
              try simp only [Act.put, List.getElem_toArray, List.getElem_cons_zero, List.getElem_cons_succ, List.setIfInBounds_toArray, List.set_cons_zero, List.set_cons_succ]
              refine wpLast_one (i := 7) (by kernel_rfl) rfl (by decide) (fun K hK => ?_)
              go_simp
              go_wp2_with fail
              refine (HSz.out _ HFe.out).mono ?_
              rintro e w7 ⟨rfl, f7⟩
              have HF7 := mkHid f7
              clear f7
              refine hK.out _ _ (HS.out _ HF7.out) (fun hHeld => ?_)
              clear hK K
              try simp only [Act.put, List.getElem_toArray, List.getElem_cons_zero, List.getElem_cons_succ, List.setIfInBounds_toArray, List.set_cons_zero, List.set_cons_succ]
              refine wpLast_take (i := 8) (v := ?_) rfl (by kernel_rfl) (by kernel_rfl) (by kernel_rfl) (by decide) (by kernel_rfl) (fun _ _ _ h => h) (Or.inl ⟨by rfl, ?_⟩) (by assumption) ?_
              rotate_left
              · (intro w hSw; (try dsimp only at hSw); first | (go_simp; done) | (go_simp; with_reducible rfl))
              try simp only [Act.put, List.getElem_toArray, List.getElem_cons_zero, List.getElem_cons_succ, List.setIfInBounds_toArray, List.set_cons_zero, List.set_cons_succ]
              refine wpLast_take (i := 9) (v := .slice (some ⟨g, off + a, none⟩) (od + 1) (cw - a)) rfl (by kernel_rfl) (by kernel_rfl) (by kernel_rfl) (by decide) (by kernel_rfl) (fun _ _ _ h => h) (Or.inl ⟨by rfl, ?_⟩) (by assumption) ?_
              · (intro w hSw; (try dsimp only at hSw); go_simp)
              try simp only [Act.put, List.getElem_toArray, List.getElem_cons_zero, List.getElem_cons_succ, List.setIfInBounds_toArray, List.set_cons_zero, List.set_cons_succ]
              refine wpLast_one (i := 10) (by kernel_rfl) rfl (by decide) (fun K hK => ?_)
              go_simp
              go_wp2_with fail
              refine (HIs.out _ HF7.out).mono ?_
              rintro e w8 ⟨rfl, f8⟩
              have HF8 := mkHid f8
              clear f8
              refine hK.out _ _ (HS.out _ HF8.out) (fun hHeld => ?_)
              clear hK K
              try simp only [Act.put, List.getElem_toArray, List.getElem_cons_zero, List.getElem_cons_succ, List.setIfInBounds_toArray, List.set_cons_zero, List.set_cons_succ]
              refine wpLast_take (i := 11) (v := ?_) rfl (by kernel_rfl) (by kernel_rfl) (by kernel_rfl) (by decide) (by kernel_rfl) (fun _ _ _ h => h) (Or.inl ⟨by rfl, ?_⟩) (by assumption) ?_
              rotate_left
              · (intro w hSw; (try dsimp only at hSw); first | (go_simp; done) | (go_simp; with_reducible rfl))
              try simp only [Act.put, List.getElem_toArray, List.getElem_cons_zero, List.getElem_cons_succ, List.setIfInBounds_toArray, List.set_cons_zero, List.set_cons_succ]
              refine wpLast_end (by kernel_rfl) rfl (by kernel_rfl) (fun K hK => ?_)
              go_simp
              refine hK.out _ _ ?_
              clear hK K
              try simp only [Act.put, List.getElem_toArray, List.getElem_cons_zero, List.getElem_cons_succ, List.setIfInBounds_toArray, List.set_cons_zero, List.set_cons_succ]
              go_wp2_with fail
              refine (HSz.out _ HF8.out).mono ?_
              rintro e w9 ⟨rfl, f9⟩
              have HF9 := mkHid f9
              clear f9
              go_wp2_with fail
              go_roundw
              case rel => exact ⟨a + (1 + od), by omega, by go_num, done ++ il, by rw [← HAp.out], HF9.out, by rw [List.length_append]; exact HNx.out.1, HNx.out.2⟩
              case measure => simp [intOf]; omega
            · have hae : a = K.ws.length := by omega
              have HRe : Hid (R = (0, hs ++ done)) := by
                obtain ⟨f, rfl⟩ : ∃ f', f = f' + 1 := ⟨f - 1, by omega⟩
                unfold lnW at hln
                rw [if_neg hlt] at hln
                have := HR2.out
                rw [hln] at this
                have h2 : R = (0, hs ++ done) := by simpa using this.symm
                exact h2
              have HFw := mkHid fw
              subst hae
              clear hst fr hln hdl fw HR2 hlt
              go_wp2_with fail
              go_ret2
              exact ⟨by rw [HRe.out]; rfl, HFw.out⟩

end Go.Proofs.YtclkoffnjiiioaaDoor
