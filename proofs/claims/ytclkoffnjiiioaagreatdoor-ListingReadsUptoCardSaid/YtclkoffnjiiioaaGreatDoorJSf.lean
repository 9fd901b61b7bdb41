import Derived.Test.YtclkoffnjiiioaaGreatDoorG17JSe
namespace Go.Proofs.YtclkoffnjiiioaaGreatDoor
open Go.RowKit
set_option linter.unusedVariables false
set_option linter.unusedSimpArgs false
attribute [local go_sem ↓] Go.wp_at_zero Go.wp_at_succ
theorem LitsX.tyB {w : World} {Ok : Nat → Prop} {p : Option Addr} {c : Nat} {ts : List LitT} (h : LitsX w Ok p c ts) : ∀ g ∈ blk p ++ ftL ts, ∃ cur, w.heap[g]? = some (.cells cur 49 (0, 0)) := by
  induction h with
  | mk p c ts own ok nd short txt kids ih =>
    intro g hg
    rcases List.mem_append.1 hg with hg | hg
    · exact row_block own ((blk_own _ _ _ _).2 hg)
    · obtain ⟨t, ht, hg⟩ := ftL_mem hg
      rw [ftT_at] at hg
      exact ih t ht g hg
theorem lls_vb (p : Option Addr) (c : Nat) (ts : List LitT) {v : Value} (hv : v ∈ lls p c ts) {g : Nat} (hg : v.ownBlock = some g) : g ∈ blk p ++ ftL ts := by
  have hs : ((lls p c ts).flatMap vb).Sublist (blk p ++ ftL ts) := by
    unfold lls
    rw [List.flatMap_cons, vb_slice]
    exact (List.Sublist.refl _).append (llL_sub ts)
  exact hs.subset (List.mem_flatMap.2 ⟨v, hv, vb_mem.2 hg⟩)
/-- the lists of literals, one behind the other, on their way into the book -/
def PhF (Q QI : Nat → Prop) (A5 : World) (b lim g6 nl c6 base : Nat) (cv mv : Option Addr) (F : List Nat) (vW vL : Value) (Ws Ls Cs vs : List Value) (m0 : Int) (wr : World) (i : Nat) : Prop :=
  ∃ (vC vM : Value) (Ms : List Value), wr.heap[b]? = some (.cells #[vW, vL, vC, vM] 43 (0, 0)) ∧ Sh b wr QI 23 3 1 flI vW vL Ws Ls ∧ Sh b wr (fun g => Q g ∨ (∃ j v, j < i ∧ vs[j]? = some v ∧ v.ownBlock = some g) ∨ A5.heap.size ≤ g) 22 49 4 flL vC vM (Cs ++ vs.take i) Ms ∧ LkR wr lim vs m0 (dn nl 0) ∧ wr.ownsRow base 22 1 (.slice (some ⟨g6, 0, none⟩) nl c6) nl vs ∧ (∀ g, vC.ownBlock = some g → g ∈ blk cv ∨ A5.heap.size ≤ g) ∧ (∀ g, vM.ownBlock = some g → g ∈ blk mv ∨ A5.heap.size ≤ g) ∧ Fr (b :: ((blk cv ++ blk mv) ++ F)) A5 wr
set_option maxRecDepth 100000 in
set_option maxHeartbeats 32000000 in
/-- a code's lists are written full, grown, and kept in the book -/
theorem keeps_ok (W : World) (b lim : Nat) (Q : Nat → Prop) (vW vL vC vM : Value) (Ws Ls Cs Ms : List Value) (K : Co) (lp : Option Addr) (lc : Nat) (pw : Option Addr) (cw : Nat) (h : KeepH W b lim Q vW vL vC vM Ws Ls Cs Ms K lp lc pw cw) : Calls Tryz.prog 14 #[pt b, .agg (K.v lp lc pw cw)] W fun e w' => KeepR W b Q vW vL vC vM Ws Cs K lp lc pw e w' := by
  obtain ⟨hlo, hbk, hlx, hrw, hn4, hll, hnW, hnC, hsep⟩ := h
  have HSep := mkHid hsep
  clear hsep
  obtain ⟨n, hn⟩ : ∃ n, n = K.ws.length := ⟨_, rfl⟩
  have hkv : K.v lp lc pw cw = #[.int .i64 K.args, .int .i64 K.temps, .int .i64 K.stack, .slice lp K.ts.length lc, .slice pw n cw] := by rw [hn]; rfl
  rw [hkv]
  obtain ⟨gk, hgk⟩ : ∃ g, g = W.heap.size := ⟨_, rfl⟩
  obtain ⟨W1, hW1⟩ : ∃ V, W.alloc (.cells #[.int .i64 K.args, .int .i64 K.temps, .int .i64 K.stack, .slice lp K.ts.length lc, .slice pw n cw] 25) = V := ⟨_, rfl⟩
  have f1 : Fr [] W W1 := by rw [← hW1]; exact Fr.alloc [] W _
  have k1 : W1.heap[gk]? = some (.cells #[.int .i64 K.args, .int .i64 K.temps, .int .i64 K.stack, .slice lp K.ts.length lc, .slice pw n cw] 25 (0, 0)) := by rw [← hW1, hgk]; exact heap_alloc_new W _
  have s1 : W1.heap.size = gk + 1 := by rw [← hW1, hgk]; simp
  -- the blocks
  have tyP : ∀ g ∈ blk pw, lim ≤ g ∧ g < gk ∧ ∃ cur, W1.heap[g]? = some (.cells cur 3 (0, 0)) := fun g hg => by
    obtain ⟨cur, hc⟩ := row_block hrw ((blk_own _ _ _ _).2 hg)
    exact ⟨(own_lt hrw g ((blk_own _ _ _ _).2 hg)).1, by have := (own_lt hrw g ((blk_own _ _ _ _).2 hg)).2; omega, cur, f1.hb hc⟩
  have tyF : ∀ g ∈ blk lp ++ ftL K.ts, lim ≤ g ∧ g < gk ∧ ∃ cur, W1.heap[g]? = some (.cells cur 49 (0, 0)) := fun g hg => by
    obtain ⟨cur, hc⟩ := hlx.tyB g hg
    exact ⟨(hlx.feet g hg).1, by have := (hlx.feet g hg).2; omega, cur, f1.hb hc⟩
  have lb : b < gk := by rw [hgk]; exact lt_of_heap hbk.top
  have bk1 := hbk.idle f1
  have rw1 : W1.ownsRow lim 3 1 (.slice pw n cw) n (K.ws.map (Value.int .i64)) := by rw [hn]; exact own_fr hrw f1 (by simp)
  have lx1 : LitsX W1 (fun g => lim ≤ g) lp lc K.ts := hlx.keep f1 (fun _ _ _ => by simp) (fun g hg _ => hg)
  -- the numbers
  obtain ⟨wv, cwv, hwv⟩ := own_form hbk.ints.rA
  obtain ⟨lv, clv, hlv⟩ := own_form hbk.ints.rB
  obtain ⟨cv, ccv, hcv⟩ := own_form hbk.lits.rA
  obtain ⟨mv, cmv, hmv⟩ := own_form hbk.lits.rB
  obtain ⟨aW, haW⟩ : ∃ q, q = Ws.length := ⟨_, rfl⟩
  obtain ⟨aC, haC⟩ : ∃ q, q = Cs.length := ⟨_, rfl⟩
  rw [← haW] at hwv
  rw [hbk.ints.len, ← haW] at hlv
  rw [← haC] at hcv
  rw [hbk.lits.len, ← haC] at hmv
  obtain ⟨nw, hnw⟩ : ∃ q, q = aW + 1 := ⟨_, rfl⟩
  obtain ⟨nc, hnc⟩ : ∃ q, q = aC + 1 := ⟨_, rfl⟩
  obtain ⟨mw, hmw⟩ : ∃ q : Int, q = -(aW : Int) - 1 := ⟨_, rfl⟩
  obtain ⟨m0, hm0⟩ : ∃ q : Int, q = -(aC : Int) - 1 := ⟨_, rfl⟩
  have u1 : IntKind.i64.wrap ((aW : Int) + 1) = (nw : Int) := by rw [iwrap_id (by omega) (by omega)]; omega
  have u2 : IntKind.i64.wrap (-(nw : Int)) = mw := by rw [iwrap_id (by omega) (by omega)]; omega
  have u3 : IntKind.i64.wrap ((aC : Int) + 1) = (nc : Int) := by rw [iwrap_id (by omega) (by omega)]; omega
  have u4 : IntKind.i64.wrap (-(nc : Int)) = m0 := by rw [iwrap_id (by omega) (by omega)]; omega
  have HMi : Hid (∀ i : Nat, i ≤ 100001 → IntKind.i64.wrap (m0 - (i : Int)) = m0 - (i : Int)) := fun i hi => iwrap_id (by omega) (by omega)
  subst hwv hlv hcv hmv
  have HNum : Hid (aW = Ws.length ∧ aC = Cs.length ∧ mw = -(aW : Int) - 1 ∧ m0 = -(aC : Int) - 1 ∧ aW ≤ 1000000000 ∧ aC ≤ 1000000000000 ∧ n = K.ws.length ∧ n ≤ 4096 ∧ lim ≤ gk ∧ gk = W.heap.size) := ⟨haW, haC, hmw, hm0, by omega, by omega, hn, by omega, by omega, hgk⟩
  have HW1 := mkHid hW1
  have HF1 := mkHid f1
  have HK1 := mkHid k1
  have HB1 := mkHid bk1
  have HX1 := mkHid lx1
  have HTp := mkHid tyP
  have HTf := mkHid tyF
  have HS1 := mkHid s1
  have HLb := mkHid lb
  have HCv : Hid (∀ g, g ∈ blk cv ∨ g ∈ blk mv → g < W.heap.size) := fun g hg => by
    rcases hg with q | q
    · exact (own_ty hbk.lits.rA ((blk_own _ _ _ _).2 q)).1
    · exact (own_ty hbk.lits.rB ((blk_own _ _ _ _).2 q)).1
  have HLl := mkHid hll
  have HGk := mkHid hgk
  have b0 : ∀ o, (W.alloc o).cell? ⟨b, 0, none⟩ = some (.slice wv aW cwv) := fun o => cell_in ((Fr.alloc [] W o).hb hbk.top) 0
  have H0 : Hid (W1.ownsRow lim 3 1 (.slice pw n cw) n (flI mw 0 ++ (K.ws.drop 0).map (Value.int .i64)) ∧ Fr (blk pw) W1 W1) := ⟨rw1, Fr.refl _ _⟩
  clear hlo hbk hlx hrw hn4 hll hnW hnC hn hkv hgk hW1 f1 k1 s1 tyP tyF lb bk1 rw1 lx1 haW haC hnw hnc hmw hm0
  go_enter Tryz.func14, Tryz.ntmps14
  go_wp2_with fail
  rw [HW1.out, ← HGk.out]
  go_loopw [5] (fun q wr => ∃ j : Nat, j ≤ n ∧ q = .int .i64 (j : Int) ∧ Hid (wr.ownsRow lim 3 1 (.slice pw n cw) n (flI mw j ++ (K.ws.drop j).map (Value.int .i64)) ∧ Fr (blk pw) W1 wr)) (fun q _ => n - (intOf q).toNat)
  case atStart => exact ⟨0, Nat.zero_le _, rfl, H0.out⟩
  case round =>
    clear H0 b0
    obtain ⟨j, hj, rfl, hst⟩ := hrel
    obtain ⟨hr, hf⟩ := hst.out
    clear hst
    have hgn : gk ∉ blk pw := fun hm => by have := (HTp.out gk hm).2.1; omega
    have hkb := (hf.block gk (lt_of_heap HK1.out) hgn).trans HK1.out
    have kc : wr.cell? ⟨gk, 4, none⟩ = some (.slice pw n cw) := cell_in hkb 4
    have j0 : (0 : Int) ≤ (j : Int) := by omega
    by_cases hlt : j < n
    · obtain ⟨g, hg⟩ : ∃ g, pw = some ⟨g, 0, none⟩ := by
        rcases hr.2 with ⟨e, e0⟩ | ⟨g, cap, cur, e, -⟩
        · omega
        · injection e with e; exact ⟨g, e⟩
      subst hg
      obtain ⟨⟨v0, c0⟩, z0, hr'⟩ := words_set HNum.out.2.2.2.2.2.2.1 hr hlt
      have j1 : (j : Int) < (n : Int) := by omega
      obtain ⟨j2, hj2⟩ : ∃ q, q = j + 1 := ⟨_, rfl⟩
      have hwj : IntKind.i64.wrap ((j : Int) + 1) = (j2 : Int) := by rw [iwrap_id (by omega) (by have := HNum.out; omega)]; omega
      have HS : Hid ((wr.setCell ⟨g, j, none⟩ (.int .i64 mw)).ownsRow lim 3 1 (.slice (some ⟨g, 0, none⟩) n cw) n (flI mw j2 ++ (K.ws.drop j2).map (Value.int .i64)) ∧ Fr (blk (some (⟨g, 0, none⟩ : Addr))) W1 (wr.setCell ⟨g, j, none⟩ (.int .i64 mw))) := by
        rw [hj2]
        exact ⟨hr', hf.trans (Fr.setCell (S := [g]) wr ⟨g, j, none⟩ _ (by simp)) (fun x hx => .inl (by simpa [blk] using hx))⟩
      have HJ2 : Hid (j2 = j + 1 ∧ j < n) := ⟨hj2, hlt⟩
      clear hr hr' hf hkb hgn hlt hj hj2
      go_wp2_with fail
      go_roundw
      case rel => exact ⟨j2, by have := HJ2.out; omega, rfl, HS.out⟩
      case measure => have := HJ2.out; simp [intOf]; omega
    · have hje : j = n := by omega
      subst hje
      have hrow : wr.ownsRow lim 3 1 (.slice pw j cw) j (flI mw j) := by
        have e : K.ws.drop j = [] := List.drop_eq_nil_of_le (by have := HNum.out.2.2.2.2.2.2.1; omega)
        rw [e] at hr
        simpa using hr
      have hpf : ∀ g ∈ blk lp ++ ftL K.ts, g ∉ blk pw := fun g hg hm => by
        obtain ⟨-, -, c1, h1⟩ := HTf.out g hg
        obtain ⟨-, -, c2, h2⟩ := HTp.out g hm
        exact ty_ne h1 h2 (by decide) rfl
      have lx2 : LitsX wr (fun g => lim ≤ g) lp lc K.ts := HX1.out.world (fun g hg ho hl => ⟨hf.block g hl (hpf g hg), ho⟩)
      have bk2 : Bk wr Q b _ _ _ _ Ws Ls Cs Ms := HB1.out.fr hf (fun g hg => ⟨HSep.out g (List.mem_append.2 (.inl hg)), by obtain ⟨-, -, c2, h2⟩ := HTp.out g hg; exact ⟨c2, .inl h2⟩⟩)
      have kl : wr.cell? ⟨gk, 3, none⟩ = some (.slice lp K.ts.length lc) := cell_in hkb 3
      have HLL := mkHid (litLists_ok wr lp lc K.ts lx2.plain wr (Fr.refl [] wr) HLl.out)
      obtain ⟨nl, hnl⟩ : ∃ q, q = (lls lp lc K.ts).length := ⟨_, rfl⟩
      rw [← hnl] at HLL
      have hnl2 : nl ≤ 100001 := by rw [hnl]; unfold lls; rw [List.length_cons]; have := HLl.out; omega
      have HNl := mkHid hnl
      have HRow := mkHid hrow
      have HFa := mkHid hf
      have HLx := mkHid lx2
      have HBk := mkHid bk2
      have HKb := mkHid hkb
      have j1 : ¬ (j : Int) < (j : Int) := by omega
      clear hlt hj hr hf hkb hgn hrow hpf lx2 bk2 hnl HB1 HX1
      go_wp2_with fail
      refine HLL.out.mono ?_
      rintro e A2 ⟨f2, p6, c6, rfl, r6⟩
      have hbk2 := HBk.out.idle f2
      have b2 : A2.cell? ⟨b, 2, none⟩ = some (.slice cv aC ccv) := cell_in hbk2.top 2
      have HB2 := mkHid hbk2
      have HR6 := mkHid r6
      have HF2 := mkHid f2
      have HL2 : Hid (LkR A2 lim (lls lp lc K.ts) m0 (dn 0 0)) := ((LkR.of HLx.out m0).fr f2 (fun _ _ _ _ => by simp)).start
      have HA1 : Hid (gk < wr.heap.size ∧ wr.heap.size ≤ A2.heap.size) := ⟨lt_of_heap HKb.out, f2.size⟩
      have HRw2 : Hid (A2.ownsRow lim 3 1 (.slice pw j cw) j (flI mw j)) := own_fr HRow.out f2 (by simp)
      have HKb2 := mkHid (f2.hb HKb.out)
      have HFa2 : Hid (Fr (blk pw) W1 A2) := HFa.out.trans f2 (by simp)
      clear hbk2 r6 f2 HLL HLx HBk HRow HFa HKb kl kc
      go_wp2_with fail
      clear b2
      obtain ⟨vs, hvs⟩ : ∃ vs, vs = lls lp lc K.ts := ⟨_, rfl⟩
      rw [← hvs] at HNl HR6 HL2
      have HVs := mkHid hvs
      clear hvs
      have hvF : ∀ v ∈ vs, ∀ g, v.ownBlock = some g → g ∈ blk lp ++ ftL K.ts := fun v hv g hg => lls_vb lp lc K.ts (by rw [← HVs.out]; exact hv) hg
      have HVf := mkHid hvF
      clear hvF
      obtain ⟨g6, hg6⟩ : ∃ g, p6 = some ⟨g, 0, none⟩ := by
        rcases HR6.out.2 with ⟨e, e0⟩ | ⟨g, cap, cur, e, -⟩
        · have := HNl.out; unfold lls at HVs; have h2 := HVs.out; rw [h2] at this; simp at this; omega
        · injection e with e; exact ⟨g, e⟩
      subst hg6
      have HG6 : Hid (gk < g6 ∧ wr.heap.size ≤ g6 ∧ g6 < A2.heap.size) := by
        have h1 := own_lt HR6.out g6 rfl
        exact ⟨by have := HA1.out; omega, h1.1, h1.2⟩
      have HAt : Hid (∀ V, Fr (blk lp ++ ftL K.ts) A2 V → ∀ i v, vs[i]? = some v → V.cell? ⟨g6, i, none⟩ = some v) := fun V fV i v hv => by
        have hi := (List.getElem?_eq_some_iff.1 hv).1
        have hc := HR6.out.cellAt i (by rw [HNl.out] at *; rw [HR6.out.1]; have := HNl.out; omega)
        rw [hv] at hc
        exact (fV.cell (p := ⟨g6, i, none⟩) HG6.out.2.2 (fun hm => by have := (HTf.out g6 hm).2.1; have := HG6.out.1; omega)).trans hc
      generalize wr = A1 at *
      go_loopw [8] (fun q ur => ∃ i : Nat, i ≤ nl ∧ q = .int .i64 (i : Int) ∧ Hid (LkR ur lim vs m0 (dn i 0) ∧ Fr (blk lp ++ ftL K.ts) A2 ur)) (fun q _ => nl - (intOf q).toNat)
      case atStart => exact ⟨0, Nat.zero_le _, rfl, HL2.out, Fr.refl _ _⟩
      case round =>
        clear HL2
        obtain ⟨i, hi, rfl, hst⟩ := hrel
        obtain ⟨hl, hf⟩ := hst.out
        clear hst
        have i0 : (0 : Int) ≤ (i : Int) := by omega
        by_cases hlt : i < nl
        · obtain ⟨v, hv⟩ : ∃ v, vs[i]? = some v := ⟨vs[i]'(by have := HNl.out; omega), List.getElem?_eq_getElem _⟩
          obtain ⟨p, ni, c, rfl, hni, -⟩ := hl.each i v hv
          have i1 : (i : Int) < (nl : Int) := by omega
          obtain ⟨i2, hi2⟩ : ∃ q, q = i + 1 := ⟨_, rfl⟩
          have hwi : IntKind.i64.wrap ((i : Int) + 1) = (i2 : Int) := by rw [iwrap_id (by omega) (by omega)]; omega
          have HI2 : Hid (i2 = i + 1 ∧ i < nl) := ⟨hi2, hlt⟩
          have hmi := HMi.out i (by omega)
          have HV := mkHid hv
          have H3 := mkHid hl
          have F3 := mkHid hf
          obtain ⟨uo, huo⟩ : ∃ V, V = wr := ⟨_, rfl⟩
          rw [← huo] at H3 F3 ⊢
          clear huo hl hf hv hi hlt hi2
          go_wp2_with fail
          go_loopw [9] (fun q wr => ∃ k : Nat, k ≤ ni ∧ q = .int .i64 (k : Int) ∧ Hid (LkR wr lim vs m0 (dn i k) ∧ Fr (blk lp ++ ftL K.ts) A2 wr)) (fun q _ => ni - (intOf q).toNat)
          case atStart => exact ⟨0, Nat.zero_le _, rfl, H3.out, F3.out⟩
          case round =>
            clear H3 F3
            obtain ⟨k, hk, rfl, hst⟩ := hrel
            obtain ⟨hl, hf⟩ := hst.out
            clear hst
            have hci : wr.cell? ⟨g6, i, none⟩ = some (.slice p ni c) := HAt.out wr hf i _ HV.out
            have k0 : (0 : Int) ≤ (k : Int) := by omega
            by_cases hkl : k < ni
            · obtain ⟨g, hg⟩ : ∃ g, p = some ⟨g, 0, none⟩ := by
                obtain ⟨p2, n2, c2, e, -, -, xs, hx⟩ := hl.each i _ HV.out
                injection e with e1 e2 e3
                rcases hx.2 with ⟨e, e0⟩ | ⟨g, cap, cur, e, -⟩
                · omega
                · injection e with e; exact ⟨g, e⟩
              subst hg
              obtain ⟨s1, s2, s3, s4⟩ := hl.step HV.out hkl
              obtain ⟨v0, q0⟩ := s1 0 (by omega)
              obtain ⟨v1, q1⟩ := s1 1 (by omega)
              obtain ⟨v2, q2⟩ := s1 2 (by omega)
              obtain ⟨v3, q3⟩ := s1 3 (by omega)
              rw [Nat.add_zero] at q0
              have z0 := s2 (k * 4)
              have z1 := s2 (k * 4 + 1)
              have z2 := s2 (k * 4 + 2)
              have z3 := s2 (k * 4 + 3)
              have k1 : (k : Int) < (ni : Int) := by omega
              obtain ⟨k2, hk2⟩ : ∃ q, q = k + 1 := ⟨_, rfl⟩
              have hwk : IntKind.i64.wrap ((k : Int) + 1) = (k2 : Int) := by rw [iwrap_id (by omega) (by omega)]; omega
              have HK2 : Hid (k2 = k + 1 ∧ k < ni) := ⟨hk2, hkl⟩
              obtain ⟨xn, hxn⟩ : ∃ V, (((wr.setCell ⟨g, k * 4, none⟩ (.int .i64 (m0 - (i : Int)))).setCell ⟨g, k * 4 + 1, none⟩ (.string ⟨#[]⟩)).setCell ⟨g, k * 4 + 2, none⟩ (.int .i64 0)).setCell ⟨g, k * 4 + 3, none⟩ (.slice none 0 0) = V := ⟨_, rfl⟩
              rw [hxn] at s3 s4
              have HS : Hid (LkR xn lim vs m0 (dn i k2) ∧ Fr (blk lp ++ ftL K.ts) A2 xn) := by
                rw [hk2]
                exact ⟨s3, hf.trans s4 (fun x hx => .inl (by
                  have e : x = g := by simpa using hx
                  rw [e]
                  exact HVf.out _ (List.mem_of_getElem? HV.out) g rfl))⟩
              have HXn := mkHid hxn
              clear s1 s2 s3 s4 hl hf hkl hk hk2 hxn
              go_wp2_with fail
              go_roundw
              case rel => exact ⟨k2, by have := HK2.out; omega, rfl, by rw [HXn.out]; exact HS.out⟩
              case measure => have := HK2.out; simp [intOf]; omega
            · have hke : ¬ (k : Int) < (ni : Int) := by omega
              have HS : Hid (LkR wr lim vs m0 (dn i2 0) ∧ Fr (blk lp ++ ftL K.ts) A2 wr) := by
                rw [HI2.out.1]
                exact ⟨hl.next HV.out (by omega), hf⟩
              have hkn : ¬ k < ni := hkl
              clear hl hf hkl hk
              go_wp2_with fail
              go_roundw
              case rel => exact ⟨i2, by have := HI2.out; omega, rfl, HS.out⟩
              case measure => have := HI2.out; simp [intOf]; omega
        · have hie : i = nl := by omega
          subst hie
          have i1 : ¬ (i : Int) < (i : Int) := by omega
          have hFp : ∀ g ∈ blk lp ++ ftL K.ts, g ∉ blk pw := fun g hg hm => by
            obtain ⟨-, -, c1, h1⟩ := HTf.out g hg
            obtain ⟨-, -, c2, h2⟩ := HTp.out g hm
            exact ty_ne h1 h2 (by decide) rfl
          have hty2 : ∀ g ∈ blk lp ++ ftL K.ts, ∃ cur, A2.heap[g]? = some (.cells cur 49 (0, 0)) := fun g hg => by
            obtain ⟨-, h1, c1, h2⟩ := HTf.out g hg
            exact ⟨c1, (HFa2.out.block g (by have := HS1.out; omega) (hFp g hg)).trans h2⟩
          have hgF : gk ∉ blk lp ++ ftL K.ts := fun hm => by have := (HTf.out gk hm).2.1; omega
          have kb3 := (hf.block gk (lt_of_heap HKb2.out) hgF).trans HKb2.out
          have rw3 : wr.ownsRow lim 3 1 (.slice pw j cw) j (flI mw j) := own_fr HRw2.out hf (fun g hg hm => hFp g hm ((blk_own _ _ _ _).1 hg))
          have bk3 : Bk wr Q b _ _ _ _ Ws Ls Cs Ms := HB2.out.fr hf (fun g hg => ⟨HSep.out g (List.mem_append.2 (.inr hg)), by obtain ⟨c1, h1⟩ := hty2 g hg; exact ⟨c1, .inr h1⟩⟩)
          have r63 : wr.ownsRow A1.heap.size 22 1 (.slice (some ⟨g6, 0, none⟩) i c6) i vs := own_fr HR6.out hf (fun g hg hm => by
            have e : g6 = g := by simpa [Value.ownBlock] using hg
            have := (HTf.out g hm).2.1; have := HG6.out.1; omega)
          have F03 : Fr (blk pw ++ (blk lp ++ ftL K.ts)) W1 wr := (HFa2.out.mono (S' := blk pw ++ (blk lp ++ ftL K.ts)) (fun g hg => .inl (List.mem_append.2 (.inl hg)))).trans hf (fun g hg => .inl (List.mem_append.2 (.inr hg)))
          have HKb3 := mkHid kb3
          have HRw3 := mkHid rw3
          have HB3 := mkHid bk3
          have HR63 := mkHid r63
          have HF03 := mkHid F03
          have HL3 := mkHid hl
          have HPs : Hid (∀ g ∈ blk pw, g < wr.heap.size) := fun g hg => by have := (HTp.out g hg).2.1; have := F03.size; have := HS1.out; omega
          have HLs : Hid (lim ≤ wr.heap.size ∧ g6 < wr.heap.size) := ⟨by have := HNum.out; have := F03.size; have := HS1.out; omega, by have := HG6.out; have := hf.size; omega⟩
          have d4 : wr.cell? ⟨gk, 4, none⟩ = some (.slice pw j cw) := cell_in kb3 4
          clear hi hlt hl hf hFp hty2 hgF kb3 rw3 bk3 r63 F03 HKb2 HRw2 HB2 HR6 HFa2 HAt HF2 HA1
          generalize wr = A3 at *
          go_wp2_with fail
          clear d4
          go_loopw [10, 11] (fun v q wr => ∃ (qn nq : Nat) (p : Option Addr) (c : Nat), qn ≤ 64 ∧ q = .int .i64 (qn : Int) ∧ v = .slice p nq c ∧ Hid (nq = j + qn ∧ Gr A3 wr lim 3 1 flI pw j cw mw p c qn)) (fun _ q _ => 64 - (intOf q).toNat)
          case atStart => exact ⟨0, j, pw, cw, by omega, rfl, rfl, rfl, Gr.start HRw3.out⟩
          case round =>
            obtain ⟨qn, nq, p, c, hq, rfl, rfl, hst⟩ := hrel
            obtain ⟨hnq, hg⟩ := hst.out
            clear hst
            by_cases hq64 : qn < 64
            · obtain ⟨p', c', w', r1, hg2⟩ := hg.pushI HPs.out (by have := HNum.out; omega) HLs.out.1
              rw [← hnq] at r1
              have qi : (qn : Int) < 64 := by omega
              obtain ⟨q2, hq2⟩ : ∃ q, q = qn + 1 := ⟨_, rfl⟩
              have hwq : IntKind.i64.wrap ((qn : Int) + 1) = (q2 : Int) := by rw [iwrap_id (by omega) (by omega)]; omega
              have HS : Hid (nq + 1 = j + q2 ∧ Gr A3 w' lim 3 1 flI pw j cw mw p' c' q2) := by
                rw [hq2]
                exact ⟨by omega, hg2⟩
              have HQ2 : Hid (q2 = qn + 1 ∧ qn < 64) := ⟨hq2, hq64⟩
              have HR := mkHid r1
              clear r1 hg2 hg hnq hq2 hq64 hq
              go_wp2_with (at_builtin; refine Lib.wpList_append_run _ rfl (.tmp 75) (.tmp 78) 23 23 rfl _ _ rfl rfl _ _ HR.out ?_)
              go_roundw
              case rel => exact ⟨q2, nq + 1, p', c', by have := HQ2.out; omega, rfl, rfl, HS.out⟩
              case measure => have := HQ2.out; simp [intOf]; omega
            · have hqe : qn = 64 := by omega
              subst hqe
              have qi : ¬ ((64 : Nat) : Int) < 64 := by omega
              have tp3 : ∀ g ∈ blk pw, ∃ cur, A3.heap[g]? = some (.cells cur 3 (0, 0)) := fun g hg => row_block HRw3.out ((blk_own _ _ _ _).2 hg)
              have bk4 : Bk wr Q b _ _ _ _ Ws Ls Cs Ms := HB3.out.fr hg.fr (fun g hg2 => ⟨HSep.out g (List.mem_append.2 (.inl hg2)), by obtain ⟨c1, h1⟩ := tp3 g hg2; exact ⟨c1, .inl h1⟩⟩)
              have hgp : gk ∉ blk pw := fun hm => by have := (HTp.out gk hm).2.1; omega
              have kb4 := (hg.fr.block gk (lt_of_heap HKb3.out) hgp).trans HKb3.out
              have lk4 : LkR wr lim vs m0 (dn i 0) := HL3.out.fr hg.fr (fun v hv g hg2 hm => by
                obtain ⟨-, -, c1, h1⟩ := HTf.out g (HVf.out v hv g hg2)
                obtain ⟨-, -, c2, h2⟩ := HTp.out g hm
                exact ty_ne h1 h2 (by decide) rfl)
              have r64 : wr.ownsRow A1.heap.size 22 1 (.slice (some ⟨g6, 0, none⟩) i c6) i vs := own_fr HR63.out hg.fr (fun g hg2 hm => by
                have e : g6 = g := by simpa [Value.ownBlock] using hg2
                have := (HTp.out g hm).2.1; have := HG6.out.1; omega)
              have F04 : Fr (blk pw ++ (blk lp ++ ftL K.ts)) W1 wr := HF03.out.trans hg.fr (fun g hg2 => .inl (List.mem_append.2 (.inl hg2)))
              have fa4 : Fi wr (fun g => Q g ∨ g ∈ blk pw ∨ gk ≤ g) 3 1 flI (.slice pw j cw) mw := ⟨j, by have := HNum.out; omega, own_lift hg.old (fun _ _ => Nat.zero_le _), fun g hg2 => .inr (.inl ((blk_own _ _ _ _).1 hg2))⟩
              have fb4 : Fi wr (fun g => Q g ∨ g ∈ blk pw ∨ gk ≤ g) 3 1 flI (.slice p nq c) mw := by
                rw [hnq]
                exact ⟨j + 64, by have := HNum.out; omega, own_lift hg.row (fun _ _ => Nat.zero_le _), fun g hg2 => by
                  rcases hg.pl with ⟨e1, e2⟩ | e1
                  · rw [e1] at hg2; exact .inr (.inl ((blk_own _ _ _ _).1 hg2))
                  · have h1 := e1 g ((blk_own _ _ _ _).1 hg2); have h2 := HF03.out.size; have h3 := HS1.out; exact .inr (.inr (by omega))⟩
              have si4 : Sh b wr (fun g => Q g ∨ g ∈ blk pw ∨ gk ≤ g) 23 3 1 flI (.slice wv aW cwv) (.slice lv aW clv) Ws Ls := bk4.ints.up (fun g _ hq => .inl hq)
              have hsz4 : A3.heap.size ≤ wr.heap.size := hg.fr.size
              have HT4 := mkHid bk4.top
              have HC4 := mkHid bk4.lits
              have HI4 := mkHid si4
              have HFa := mkHid fa4
              have HFb := mkHid fb4
              have HLk := mkHid lk4
              have HR64 := mkHid r64
              have HF04 := mkHid F04
              have HKb4 := mkHid kb4
              have HSz4 := mkHid hsz4
              clear hg hnq hq64 hq tp3 bk4 hgp kb4 lk4 r64 F04 fa4 fb4 si4 hsz4 HL3 HR63 HF03 HB3 HRw3 HKb3
              generalize wr = A4 at *
              have d0 : A4.drew.cell? ⟨b, 0, none⟩ = some (.slice wv aW cwv) := cell_in HT4.out 0
              have d4 : A4.drew.cell? ⟨gk, 4, none⟩ = some (.slice pw j cw) := cell_in HKb4.out 4
              have haW := HNum.out.1
              obtain ⟨pW2, cW2, w1, r1, o1, m1⟩ := pushI (w := A4.drew) (As := Ws) (p := wv) (c := cwv) (.slice pw j cw) (by rw [← haW]; exact (HI4.out.idle (Fr.drew [] A4)).rA |> fun h => by rw [← haW] at h; exact h) rfl (by have := HNum.out; omega) (Nat.le_of_lt (lt_of_heap HT4.out))
              rw [← haW] at r1 m1 o1
              have f1 := m1.fr
              rw [vb_slice] at f1
              have nbk : ∀ g ∈ blk wv, g ≠ b ∧ g ≠ gk := fun g hg => by
                obtain ⟨hl, cur, hc⟩ := own_ty HI4.out.rA ((blk_own _ _ _ _).2 hg)
                exact ⟨fun e => by rw [e] at hc; exact ty_ne hc HT4.out (by decide) rfl, fun e => by rw [e] at hc; exact ty_ne hc HKb4.out (by decide) rfl⟩
              have t1 := (f1.block b (lt_of_heap HT4.out) (fun hm => (nbk b hm).1 rfl)).trans HT4.out
              have kk1 := (f1.block gk (lt_of_heap HKb4.out) (fun hm => (nbk gk hm).2 rfl)).trans HKb4.out
              have HS0 : Hid (A4.drew.cell? ⟨b, 0, none⟩ = some (.slice wv aW cwv) ∧ A4.drew.cell? ⟨gk, 4, none⟩ = some (.slice pw j cw)) := ⟨d0, d4⟩
              have HSa : Hid (∀ o, (A4.drew.alloc o).cell? ⟨b, 0, none⟩ = some (.slice wv aW cwv) ∧ (A4.drew.alloc o).cell? ⟨gk, 4, none⟩ = some (.slice pw j cw)) := fun o => ⟨cell_in ((Fr.alloc [] A4.drew o).hb (show A4.drew.heap[b]? = _ from HT4.out)) 0, cell_in ((Fr.alloc [] A4.drew o).hb (show A4.drew.heap[gk]? = _ from HKb4.out)) 4⟩
              have HS1b : Hid (w1.cell? ⟨b, 0, none⟩ = some (.slice wv aW cwv) ∧ w1.cell? ⟨gk, 4, none⟩ = some (.slice pw j cw)) := ⟨cell_in t1 0, cell_in kk1 4⟩
              have HR1 := mkHid r1
              have HM1 := mkHid m1
              have HO1 := mkHid o1
              have HT1 := mkHid t1
              have HN := mkHid nbk
              have z0 := frozen_in t1 0
              have y0 : w1.cell? ⟨b, 0, none⟩ = some (.slice wv aW cwv) := cell_in t1 0
              have f2 : Fr [b] w1 (w1.setCell ⟨b, 0, none⟩ (.slice pW2 (aW + 1) cW2)) := Fr.setCell (S := [b]) w1 ⟨b, 0, none⟩ _ (by simp)
              have t2 : (w1.setCell ⟨b, 0, none⟩ (.slice pW2 (aW + 1) cW2)).heap[b]? = some (.cells #[(.slice pW2 (aW + 1) cW2), .slice lv aW clv, .slice cv aC ccv, .slice mv aC cmv] 43 (0, 0)) := set_in t1 0 (.slice pW2 (aW + 1) cW2)
              obtain ⟨V2, hV2⟩ : ∃ V, w1.setCell ⟨b, 0, none⟩ (.slice pW2 (aW + 1) cW2) = V := ⟨_, rfl⟩
              rw [hV2] at f2 t2
              have rL2 : V2.ownsRow b 23 1 (.slice lv aW clv) Ls.length Ls := by
                have h0 := (HI4.out.idle (Fr.drew [] A4)).rB
                have h1 := own_fr h0 f1 (fun g hg hm => HI4.out.ne g ((blk_own _ _ _ _).2 hm) (by rw [← hg]))
                exact own_fr h1 f2 (fun g hg hm => by
                  have e : g = b := by simpa using hm
                  obtain ⟨-, cur, hc⟩ := own_ty HI4.out.rB hg
                  rw [e] at hc; exact ty_ne hc HT4.out (by decide) rfl)
              have hlL : Ls.length = aW := by rw [HI4.out.len]; exact haW.symm
              obtain ⟨pL2, cL2, w3, r3, o3, m3⟩ := pushI (w := V2) (As := Ls) (p := lv) (c := clv) (.slice p nq c) (by rw [hlL]; rw [hlL] at rL2; exact rL2) rfl (by have := HNum.out; omega) (Nat.le_of_lt (lt_of_heap t2))
              rw [hlL] at r3 m3 o3
              have f3 := m3.fr
              rw [vb_slice] at f3
              have nbl : ∀ g ∈ blk lv, g ≠ b := fun g hg e => by
                obtain ⟨hl, cur, hc⟩ := own_ty HI4.out.rB ((blk_own _ _ _ _).2 hg)
                rw [e] at hc; exact ty_ne hc HT4.out (by decide) rfl
              have t3 := (f3.block b (lt_of_heap t2) (fun hm => nbl b hm rfl)).trans t2
              have y1 : V2.cell? ⟨b, 1, none⟩ = some (.slice lv aW clv) := cell_in t2 1
              have y3 : w3.cell? ⟨b, 1, none⟩ = some (.slice lv aW clv) := cell_in t3 1
              have z3 := frozen_in t3 1
              have f4 : Fr [b] w3 (w3.setCell ⟨b, 1, none⟩ (.slice pL2 (aW + 1) cL2)) := Fr.setCell (S := [b]) w3 ⟨b, 1, none⟩ _ (by simp)
              have t4 : (w3.setCell ⟨b, 1, none⟩ (.slice pL2 (aW + 1) cL2)).heap[b]? = some (.cells #[(.slice pW2 (aW + 1) cW2), (.slice pL2 (aW + 1) cL2), .slice cv aC ccv, .slice mv aC cmv] 43 (0, 0)) := set_in t3 1 (.slice pL2 (aW + 1) cL2)
              obtain ⟨A5, hA5⟩ : ∃ V, w3.setCell ⟨b, 1, none⟩ (.slice pL2 (aW + 1) cL2) = V := ⟨_, rfl⟩
              rw [hA5] at f4 t4
              have hadd := (HI4.out.idle (Fr.drew [] A4)).add (b := b) (show A4.drew.heap[b]? = _ from HT4.out) (by decide) (by decide) (by decide) m1 (by rw [← haW]; exact o1) f2 m3 (by rw [hlL]; exact o3) f4 (by rw [← haW, ← HNum.out.2.2.1]; exact HFa.out.fr (Fr.drew [] A4) (by simp)) (by rw [← haW, ← HNum.out.2.2.1]; exact HFb.out.fr (Fr.drew [] A4) (by simp))
              have F45 : Fr (b :: (blk wv ++ blk lv)) A4 A5 := ((Fr.drew [] A4).mono (S' := b :: (blk wv ++ blk lv)) (by simp)).trans hadd.2 (fun g hg => .inl (by rw [vb_slice, vb_slice] at hg; exact hg))
              have ty45 : ∀ g ∈ b :: (blk wv ++ blk lv), ∃ t cur, A4.heap[g]? = some (.cells cur t (0, 0)) ∧ (t = 43 ∨ t = 23) := fun g hg => by
                rcases List.mem_cons.1 hg with q | q
                · rw [q]; exact ⟨43, _, HT4.out, .inl rfl⟩
                · rcases List.mem_append.1 q with q | q
                  · obtain ⟨-, cur, hc⟩ := own_ty HI4.out.rA ((blk_own _ _ _ _).2 q); exact ⟨23, cur, hc, .inr rfl⟩
                  · obtain ⟨-, cur, hc⟩ := own_ty HI4.out.rB ((blk_own _ _ _ _).2 q); exact ⟨23, cur, hc, .inr rfl⟩
              have no45 : ∀ (t : TypeId), t ≠ 43 → t ≠ 23 → ∀ g ∈ b :: (blk wv ++ blk lv), ∀ cur, A4.heap[g]? ≠ some (.cells cur t (0, 0)) := fun t h43 h23 g hg cur hc => by
                obtain ⟨t2, c2, h2, q | q⟩ := ty45 g hg
                · rw [q] at h2; exact ty_ne hc h2 h43 rfl
                · rw [q] at h2; exact ty_ne hc h2 h23 rfl
              have sc5 : Sh b A5 Q 22 49 4 flL (.slice cv aC ccv) (.slice mv aC cmv) Cs Ms := HC4.out.fr F45 (no45 22 (by decide) (by decide)) (fun g hg cur hc => absurd hc (no45 49 (by decide) (by decide) g hg cur))
              have lk5 : LkR A5 lim vs m0 (dn i 0) := HLk.out.fr F45 (fun v hv g hg hm => by
                obtain ⟨k5, hk5⟩ := List.mem_iff_getElem?.1 hv
                obtain ⟨p5, n5, c5, e5, -, -, xs, hx⟩ := HLk.out.each k5 v hk5
                obtain ⟨cur, hc⟩ := row_block hx hg
                exact no45 49 (by decide) (by decide) g hm cur hc)
              have r65 : A5.ownsRow A1.heap.size 22 1 (.slice (some ⟨g6, 0, none⟩) i c6) i vs := own_fr HR64.out F45 (fun g hg hm => by
                obtain ⟨cur, hc⟩ := row_block HR64.out hg
                exact no45 22 (by decide) (by decide) g hm cur hc)
              have hcv : ∀ g ∈ blk cv ++ blk mv, g < gk := fun g hg => by
                have h0 : g < W.heap.size := by
                  rcases List.mem_append.1 hg with q | q
                  · exact HCv.out g (.inl q)
                  · exact HCv.out g (.inr q)
                have := HNum.out; omega
              have hA45 : A4.heap.size ≤ A5.heap.size := F45.size
              have HPF : Hid (PhF Q (fun g => Q g ∨ g ∈ blk pw ∨ gk ≤ g) A5 b lim g6 i c6 A1.heap.size cv mv (blk lp ++ ftL K.ts) (.slice pW2 (aW + 1) cW2) (.slice pL2 (aW + 1) cL2) (Ws ++ [.slice pw j cw]) (Ls ++ [.slice p nq c]) Cs vs m0 A5 0) := by
                refine ⟨_, _, Ms, t4, hadd.1, ?_, lk5, r65, (fun g hg => .inl ((blk_own _ _ _ _).1 hg)), (fun g hg => .inl ((blk_own _ _ _ _).1 hg)), Fr.refl _ _⟩
                rw [List.take_zero, List.append_nil]
                exact sc5.up (fun g _ hg => .inl hg)
              have HA5 : Hid (g6 < A5.heap.size ∧ gk < A5.heap.size ∧ b < gk) := ⟨by have := HLs.out; have := HSz4.out; omega, Nat.lt_of_lt_of_le (lt_of_heap HKb4.out) hA45, HLb.out⟩
              have HF05 : Hid (Fr ((b :: (blk wv ++ blk lv)) ++ (blk pw ++ (blk lp ++ ftL K.ts))) W1 A5) := (HF04.out.mono (S' := (b :: (blk wv ++ blk lv)) ++ (blk pw ++ (blk lp ++ ftL K.ts))) (fun g hg => .inl (List.mem_append.2 (.inr hg)))).trans F45 (fun g hg => .inl (List.mem_append.2 (.inl hg)))
              have HCm := mkHid hcv
              have HR3 := mkHid r3
              have HV2 := mkHid hV2
              have HA5e := mkHid hA5
              clear r1 m1 o1 f1 nbk t1 kk1 f2 t2 rL2 hlL r3 o3 m3 f3 nbl t3 f4 t4 hadd F45 ty45 no45 sc5 lk5 r65 hcv hA45 hV2 hA5 haW d0 d4 HO1 HM1 HN HT1 HFa HFb HI4 HC4 HLk HR64 HF04
              go_wp2_with fail
              refine wp_region_last (L := 11) (S := fun V => V.cell? ⟨b, 0, none⟩ = some (.slice wv aW cwv) ∧ V.cell? ⟨gk, 4, none⟩ = some (.slice pw j cw)) (by kernel_rfl) HS0.out (fun hHeld => ?_)
              refine wpLast_take (i := 0) (v := ?_) rfl (by kernel_rfl) (by kernel_rfl) (by kernel_rfl) (by decide) (by kernel_rfl) (fun _ _ _ h => h) (Or.inl ⟨by rfl, ?_⟩) (by assumption) ?_
              rotate_left
              · (intro w hSw; (try dsimp only at hSw); first | (go_simp; done) | (go_simp; with_reducible rfl))
              try simp only [Act.put, qT, qZ, qS, qB, qY, qX]
              refine wpLast_take (i := 1) (v := ?_) rfl (by kernel_rfl) (by kernel_rfl) (by kernel_rfl) (by decide) (by kernel_rfl) (fun _ _ _ h => h) (Or.inl ⟨by rfl, ?_⟩) (by assumption) ?_
              rotate_left
              · (intro w hSw; (try dsimp only at hSw); first | (go_simp; done) | (go_simp; with_reducible rfl))
              try simp only [Act.put, qT, qZ, qS, qB, qY, qX]
              refine wpLast_take (i := 2) (v := ?_) rfl (by kernel_rfl) (by kernel_rfl) (by kernel_rfl) (by decide) (by kernel_rfl) (fun _ _ _ h => h) (Or.inl ⟨by rfl, ?_⟩) (by assumption) ?_
              rotate_left
              · (intro w hSw; (try dsimp only at hSw); first | (go_simp; done) | (go_simp; with_reducible rfl))
              try simp only [Act.put, qT, qZ, qS, qB, qY, qX]
              refine wpLast_take (i := 3) (v := ?_) rfl (by kernel_rfl) (by kernel_rfl) (by kernel_rfl) (by decide) (by kernel_rfl) (fun _ _ _ h => h) (Or.inl ⟨by rfl, ?_⟩) (by assumption) ?_
              rotate_left
              · (intro w hSw; (try dsimp only at hSw); first | (go_simp; done) | (go_simp; with_reducible rfl))
              try simp only [Act.put, qT, qZ, qS, qB, qY, qX]
              refine wpLast_take (i := 4) (v := ?_) rfl (by kernel_rfl) (by kernel_rfl) (by kernel_rfl) (by decide) (by kernel_rfl) (fun _ _ _ h => h) (Or.inl ⟨by rfl, ?_⟩) (by assumption) ?_
              rotate_left
              · (intro w hSw; (try dsimp only at hSw); first | (go_simp; done) | (go_simp; with_reducible rfl))
              try simp only [Act.put, qT, qZ, qS, qB, qY, qX]
              refine wpLast_take (i := 5) (v := ?_) rfl (by kernel_rfl) (by kernel_rfl) (by kernel_rfl) (by decide) (by kernel_rfl) (fun _ _ _ h => h) (Or.inl ⟨by rfl, ?_⟩) (by assumption) ?_
              rotate_left
              · (intro w hSw; (try dsimp only at hSw); first | (go_simp; done) | (go_simp; with_reducible rfl))
              try simp only [Act.put, qT, qZ, qS, qB, qY, qX]
              refine wpLast_take (i := 6) (v := ?_) rfl (by kernel_rfl) (by kernel_rfl) (by kernel_rfl) (by decide) (by kernel_rfl) (fun _ _ _ h => h) (Or.inl ⟨by rfl, ?_⟩) (by assumption) ?_
              rotate_left
              · (intro w hSw; (try dsimp only at hSw); first | (go_simp; done) | (go_simp; with_reducible rfl))
              try simp only [Act.put, qT, qZ, qS, qB, qY, qX]
              refine wpLast_one (i := 7) (by kernel_rfl) rfl (by decide) (fun K0 hK => ?_)
              go_simp
              refine hK.out _ _ (HSa.out _) (fun hHeld => ?_)
              clear hK K0
              try simp only [Act.put, qT, qZ, qS, qB, qY, qX]
              refine wpLast_one (i := 8) (by kernel_rfl) rfl (by decide) (fun K0 hK => ?_)
              refine step_append_run rfl (.tmp 84) (.tmp 87) 40 40 rfl (.slice wv aW cwv) (.slice (some ⟨A4.drew.heap.size, 0, none⟩) 1 1) (by simp [Act.eval]) (by simp [Act.eval]) _ _ HR1.out ?_
              refine hK.out _ _ HS1b.out (fun hHeld => ?_)
              clear hK K0
              try simp only [Act.put, qT, qZ, qS, qB, qY, qX]
              refine wpLast_one (i := 9) (by kernel_rfl) rfl (by decide) (fun K0 hK => ?_)
              go_simp
              refine hK.out _ _ HS1b.out (fun hHeld => ?_)
              clear hK K0
              try simp only [Act.put, qT, qZ, qS, qB, qY, qX]
              refine wpLast_take (i := 10) (v := ?_) rfl (by kernel_rfl) (by kernel_rfl) (by kernel_rfl) (by decide) (by kernel_rfl) (fun _ _ _ h => h) (Or.inl ⟨by rfl, ?_⟩) (by assumption) ?_
              rotate_left
              · (intro w hSw; (try dsimp only at hSw); first | (go_simp; done) | (go_simp; with_reducible rfl))
              try simp only [Act.put, qT, qZ, qS, qB, qY, qX]
              refine wpLast_end (by kernel_rfl) rfl (by kernel_rfl) (fun K0 hK => ?_)
              go_simp
              refine hK.out _ _ ?_
              clear hK K0
              try simp only [Act.put, qT, qZ, qS, qB, qY, qX]
              clear HS0 HSa HS1b HR1 y0 z0 hHeld
              rw [HV2.out]
              go_wp2_with (at_builtin; refine Lib.wpList_append_run _ rfl (.tmp 95) (.tmp 97) 40 40 rfl _ _ rfl rfl _ _ HR3.out ?_)
              rw [HA5e.out]
              clear HV2 HA5e HR3 y1 y3 z3
              clear HT4 HKb4 HSz4
              obtain ⟨WsN, hWsN⟩ : ∃ l, l = Ws ++ [.slice pw j cw] := ⟨_, rfl⟩
              obtain ⟨LsN, hLsN⟩ : ∃ l, l = Ls ++ [.slice p nq c] := ⟨_, rfl⟩
              rw [← hWsN, ← hLsN] at HPF
              have HWN : Hid (WsN.length = Ws.length + 1) := by
                show _ = _
                rw [hWsN]; simp
              clear hWsN hLsN
              go_loopw [12] (fun q wr => ∃ i2 : Nat, i2 ≤ i ∧ q = .int .i64 (i2 : Int) ∧ Hid (PhF Q (fun g => Q g ∨ g ∈ blk pw ∨ gk ≤ g) A5 b lim g6 i c6 A1.heap.size cv mv (blk lp ++ ftL K.ts) (.slice pW2 (aW + 1) cW2) (.slice pL2 (aW + 1) cL2) WsN LsN Cs vs m0 wr i2)) (fun q _ => i - (intOf q).toNat)
              case atStart => exact ⟨0, Nat.zero_le _, rfl, HPF.out⟩
              case round =>
                clear HPF
                obtain ⟨k, hk, rfl, hst⟩ := hrel
                obtain ⟨vC, vM, Ms2, ht, hsi, hsc, hlk, hr6, hcC, hcM, hfr⟩ := hst.out
                clear hst
                have k0 : (0 : Int) ≤ (k : Int) := by omega
                by_cases hlt : k < i
                · obtain ⟨pC, cC, hvC⟩ := own_form hsc.rA
                  obtain ⟨pM, cM, hvM⟩ := own_form hsc.rB
                  obtain ⟨lC, hlC⟩ : ∃ q, q = (Cs ++ vs.take k).length := ⟨_, rfl⟩
                  rw [← hlC] at hvC
                  rw [hsc.len, ← hlC] at hvM
                  subst hvC hvM
                  have HlC : Hid (lC = (Cs ++ vs.take k).length ∧ lC = aC + k) := ⟨hlC, by rw [hlC, List.length_append, List.length_take]; have := HNum.out; have := HNl.out; omega⟩
                  clear hlC
                  obtain ⟨v, hv⟩ : ∃ v, vs[k]? = some v := ⟨vs[k]'(by have := HNl.out; omega), List.getElem?_eq_getElem _⟩
                  obtain ⟨p, ni, c, rfl, hni, -⟩ := hlk.each k v hv
                  have hfu := (hlk.full hlt hv).2
                  have hgi : wr.cell? ⟨g6, k, none⟩ = some (.slice p ni c) := by
                    have hc := hr6.cellAt k (by omega)
                    rw [hv] at hc
                    exact hc
                  have k1 : (k : Int) < (i : Int) := by omega
                  have hmi := HMi.out k (by omega)
                  have hpF : ∀ g ∈ blk p, g ∈ blk lp ++ ftL K.ts := fun g hg => HVf.out _ (List.mem_of_getElem? hv) g ((blk_own _ _ _ _).2 hg)
                  have HV := mkHid hv
                  have HPf := mkHid hpF
                  have HFu := mkHid hfu
                  skip
                  have HHt := mkHid ht
                  have HHi := mkHid hsi
                  have HHc := mkHid hsc
                  have HHl := mkHid hlk
                  have HH6 := mkHid hr6
                  have HcC := mkHid hcC
                  have HcM := mkHid hcM
                  have HHf := mkHid hfr
                  have HKl := mkHid hlt
                  have hps : ∀ g ∈ blk p, g < wr.heap.size := fun g hg => (own_lt hfu g ((blk_own _ _ _ _).2 hg)).2
                  have HPs2 := mkHid hps
                  have hl5 : lim ≤ wr.heap.size := by have := hfr.size; have := HA5.out; have := HNum.out; omega
                  have HL5 := mkHid hl5
                  clear hfu hpF ht hsi hsc hlk hr6 hcC hcM hfr hlt hk hv hps hl5
                  obtain ⟨uo, huo⟩ : ∃ V, V = wr := ⟨_, rfl⟩
                  rw [← huo] at HHt HHi HHc HHl HH6 HHf HFu HPs2 HL5 hgi ⊢
                  clear huo
                  go_wp2_with fail
                  clear hgi
                  go_loopw [13, 14] (fun v q wr => ∃ (qn nq : Nat) (p2 : Option Addr) (c2 : Nat), qn ≤ 64 ∧ q = .int .i64 (qn : Int) ∧ v = .slice p2 nq c2 ∧ Hid (nq = ni + qn ∧ Gr uo wr lim 49 4 flL p ni c (m0 - (k : Int)) p2 c2 qn)) (fun _ q _ => 64 - (intOf q).toNat)
                  case atStart => exact ⟨0, ni, p, c, by omega, rfl, rfl, rfl, Gr.start HFu.out⟩
                  case round =>
                    obtain ⟨qn, nq2, p2, c2, hq, rfl, rfl, hst⟩ := hrel
                    obtain ⟨hnq, hg⟩ := hst.out
                    clear hst
                    by_cases hq64 : qn < 64
                    · obtain ⟨p', c', w', r1, hg2⟩ := hg.pushL HPs2.out (by omega) HL5.out
                      rw [← hnq] at r1
                      have qi : (qn : Int) < 64 := by omega
                      obtain ⟨q2, hq2⟩ : ∃ q, q = qn + 1 := ⟨_, rfl⟩
                      have hwq : IntKind.i64.wrap ((qn : Int) + 1) = (q2 : Int) := by rw [iwrap_id (by omega) (by omega)]; omega
                      have HS : Hid (nq2 + 1 = ni + q2 ∧ Gr uo w' lim 49 4 flL p ni c (m0 - (k : Int)) p' c' q2) := by
                        rw [hq2]
                        exact ⟨by omega, hg2⟩
                      have HQ2 : Hid (q2 = qn + 1 ∧ qn < 64) := ⟨hq2, hq64⟩
                      have HR := mkHid r1
                      clear r1 hg2 hg hnq hq2 hq64 hq
                      go_wp2_with (at_builtin; refine Lib.wpList_append_run _ rfl (.tmp 115) (.tmp 121) 22 22 rfl _ _ rfl rfl _ _ HR.out ?_)
                      go_roundw
                      case rel => exact ⟨q2, nq2 + 1, p', c', by have := HQ2.out; omega, rfl, rfl, HS.out⟩
                      case measure => have := HQ2.out; simp [intOf]; omega
                    · have hqe : qn = 64 := by omega
                      subst hqe
                      have qi : ¬ ((64 : Nat) : Int) < 64 := by omega
                      have hgf := hg.fr
                      have tpp : ∀ g ∈ blk p, ∃ cur, uo.heap[g]? = some (.cells cur 49 (0, 0)) := fun g hg2 => row_block HFu.out ((blk_own _ _ _ _).2 hg2)
                      have nop : ∀ (t : TypeId), t ≠ 49 → ∀ g ∈ blk p, ∀ cur, uo.heap[g]? ≠ some (.cells cur t (0, 0)) := fun t ht g hg2 cur hc => by
                        obtain ⟨c1, h1⟩ := tpp g hg2
                        exact ty_ne hc h1 ht rfl
                      have hbp : b ∉ blk p := fun hm => nop 43 (by decide) b hm _ HHt.out
                      have hgkk : ∀ g ∈ blk p, lim ≤ g ∧ g < gk := fun g hg2 => ⟨(HTf.out g (HPf.out g hg2)).1, (HTf.out g (HPf.out g hg2)).2.1⟩
                      have t6 := (hgf.block b (lt_of_heap HHt.out) hbp).trans HHt.out
                      have si6 := HHi.out.fr hgf (nop 23 (by decide)) (fun g hg2 cur hc => absurd hc (nop 3 (by decide) g hg2 cur))
                      have sc6 := HHc.out.fr hgf (nop 22 (by decide)) (fun g hg2 _ _ => by
                        rintro (q | ⟨j2, v2, q1, q2, q3⟩ | q)
                        · exact HSep.out g (List.mem_append.2 (.inr (HPf.out g hg2))) q
                        · exact HHl.out.apart k j2 _ v2 (by omega) HV.out q2 g ((blk_own _ _ _ _).2 hg2) q3
                        · have := (hgkk g hg2).2; have := HA5.out; omega)
                      have lk6 : LkR wr lim vs m0 (dn i 0) := by
                        refine ⟨fun j2 v2 hv2 => ?_, HHl.out.apart⟩
                        obtain ⟨p3, n3, c3, e3, hn3, hm3⟩ := HHl.out.each j2 v2 hv2
                        refine ⟨p3, n3, c3, e3, hn3, ?_⟩
                        by_cases hjk : j2 = k
                        · subst hjk
                          have hv3 := HV.out
                          rw [hv2] at hv3
                          injection hv3 with hv3
                          rw [hv3] at e3
                          injection e3 with e31 e32 e33
                          subst e32
                          have hd : dn i 0 j2 = 3000000000000 := by unfold dn; rw [if_pos HKl.out]
                          rw [hd, Nat.min_eq_right (by omega), hv3]
                          exact ⟨Nat.le_refl _, [], by rw [List.append_nil]; exact hg.old⟩
                        · exact hm3.fr hgf (fun g hg2 hm => HHl.out.apart k j2 _ v2 (fun q => hjk q.symm) HV.out hv2 g ((blk_own _ _ _ _).2 hm) hg2)
                      have r66 : wr.ownsRow A1.heap.size 22 1 (.slice (some ⟨g6, 0, none⟩) i c6) i vs := own_fr HH6.out hgf (fun g hg2 hm => by
                        have e : g6 = g := by simpa [Value.ownBlock] using hg2
                        have := (hgkk g hm).2; have := HG6.out.1; omega)
                      obtain ⟨OkN, hOkN⟩ : ∃ Z : Nat → Prop, Z = fun g => Q g ∨ (∃ j v, j < k + 1 ∧ vs[j]? = some v ∧ v.ownBlock = some g) ∨ A5.heap.size ≤ g := ⟨_, rfl⟩
                      have sc7 : Sh b wr OkN 22 49 4 flL (.slice pC lC cC) (.slice pM lC cM) (Cs ++ vs.take k) Ms2 := sc6.up (fun g _ hq => by
                        rw [hOkN]
                        rcases hq with q | ⟨j2, v2, q1, q2, q3⟩ | q
                        · exact .inl q
                        · exact .inr (.inl ⟨j2, v2, by omega, q2, q3⟩)
                        · exact .inr (.inr q))
                      have fa7 : Fi wr OkN 49 4 flL (.slice p ni c) (m0 - (k : Int)) := ⟨ni, by omega, own_lift hg.old (fun _ _ => Nat.zero_le _), fun g hg2 => by
                        rw [hOkN]
                        exact .inr (.inl ⟨k, _, by omega, HV.out, hg2⟩)⟩
                      have fb7 : Fi wr OkN 49 4 flL (.slice p2 nq2 c2) (m0 - (k : Int)) := by
                        rw [hnq]
                        refine ⟨ni + 64, by omega, own_lift hg.row (fun _ _ => Nat.zero_le _), fun g hg2 => ?_⟩
                        rw [hOkN]
                        rcases hg.pl with ⟨e1, e2⟩ | e1
                        · refine .inr (.inl ⟨k, _, by omega, HV.out, ?_⟩)
                          rw [e1] at hg2
                          exact (blk_own _ _ _ _).2 ((blk_own _ _ _ _).1 hg2)
                        · have h1 := e1 g ((blk_own _ _ _ _).1 hg2)
                          have h2 := HHf.out.size
                          exact .inr (.inr (by omega))
                      have hsz6 : A5.heap.size ≤ wr.heap.size := Nat.le_trans HHf.out.size hgf.size
                      have F6 : Fr (b :: ((blk cv ++ blk mv) ++ (blk lp ++ ftL K.ts))) A5 wr := HHf.out.trans hgf (fun g hg2 => .inl (List.mem_cons.2 (.inr (List.mem_append.2 (.inr (HPf.out g hg2))))))
                      have hc6 : wr.cell? ⟨g6, k, none⟩ = some (.slice p ni c) := by
                        have hc := r66.cellAt k (by have := HKl.out; omega)
                        rw [HV.out] at hc
                        exact hc
                      have HT6 := mkHid t6
                      have HI6 := mkHid si6
                      have HC7 := mkHid sc7
                      have HL6 := mkHid lk6
                      have HR66 := mkHid r66
                      have HFa7 := mkHid fa7
                      have HFb7 := mkHid fb7
                      have HF6 := mkHid F6
                      have HSz6 := mkHid hsz6
                      have HOk := mkHid hOkN
                      have HC6 := mkHid hc6
                      clear hg hnq hq64 hq hgf tpp nop hbp hgkk t6 si6 sc6 lk6 r66 sc7 fa7 fb7 hsz6 F6 hc6 hOkN HHt HHi HHc HHl HH6 HHf HFu HPs2 HL5
                      generalize wr = A6 at *
                      obtain ⟨pC2, cC2, w1, r1, o1, m1⟩ := pushC (w := A6.drew) (As := Cs ++ vs.take k) (p := pC) (c := cC) (.slice p ni c) (by rw [← HlC.out.1]; exact (HC7.out.idle (Fr.drew [] A6)).rA |> fun h => by rw [← HlC.out.1] at h; exact h) rfl (by rw [← HlC.out.1, HlC.out.2]; have := HNum.out; have := HKl.out; omega) (Nat.le_of_lt (lt_of_heap HT6.out))
                      rw [← HlC.out.1] at r1 m1 o1
                      have f1 := m1.fr
                      rw [vb_slice] at f1
                      have nb6 : ∀ g ∈ blk pC, g ≠ b ∧ g ≠ g6 := fun g hg => by
                        obtain ⟨hl, cur, hc⟩ := own_ty HC7.out.rA ((blk_own _ _ _ _).2 hg)
                        refine ⟨fun e => by rw [e] at hc; exact ty_ne hc HT6.out (by decide) rfl, fun e => ?_⟩
                        rcases HcC.out g ((blk_own _ _ _ _).2 hg) with q | q
                        · have := HCm.out g (List.mem_append.2 (.inl q)); have := HG6.out; omega
                        · have := HA5.out; omega
                      have t1 := (f1.block b (lt_of_heap HT6.out) (fun hm => (nb6 b hm).1 rfl)).trans HT6.out
                      have cl1 : ∀ V : World, V.heap[g6]? = A6.heap[g6]? → V.cell? ⟨g6, k, none⟩ = some (.slice p ni c) := fun V hV => (World.cell?_of_block (w := A6) (a := ⟨g6, k, none⟩) hV).trans HC6.out
                      have lg6 : g6 < A6.heap.size := by have := HSz6.out; have := HA5.out; omega
                      have HS0 : Hid (A6.drew.cell? ⟨b, 2, none⟩ = some (.slice pC lC cC) ∧ A6.drew.cell? ⟨g6, k, none⟩ = some (.slice p ni c)) := ⟨cell_in HT6.out 2, HC6.out⟩
                      have HSa : Hid (∀ o, (A6.drew.alloc o).cell? ⟨b, 2, none⟩ = some (.slice pC lC cC) ∧ (A6.drew.alloc o).cell? ⟨g6, k, none⟩ = some (.slice p ni c)) := fun o => ⟨cell_in ((Fr.alloc [] A6.drew o).hb (show A6.drew.heap[b]? = _ from HT6.out)) 2, cl1 _ ((Fr.alloc [] A6.drew o).block g6 lg6 (by simp))⟩
                      have HS1b : Hid (w1.cell? ⟨b, 2, none⟩ = some (.slice pC lC cC) ∧ w1.cell? ⟨g6, k, none⟩ = some (.slice p ni c)) := ⟨cell_in t1 2, cl1 _ (f1.block g6 lg6 (fun hm => (nb6 g6 hm).2 rfl))⟩
                      have HR1 := mkHid r1
                      have z0 := frozen_in t1 2
                      have y0 : w1.cell? ⟨b, 2, none⟩ = some (.slice pC lC cC) := cell_in t1 2
                      have f2 : Fr [b] w1 (w1.setCell ⟨b, 2, none⟩ (.slice pC2 (lC + 1) cC2)) := Fr.setCell (S := [b]) w1 ⟨b, 2, none⟩ _ (by simp)
                      have t2 : (w1.setCell ⟨b, 2, none⟩ (.slice pC2 (lC + 1) cC2)).heap[b]? = some (.cells #[.slice pW2 (aW + 1) cW2, .slice pL2 (aW + 1) cL2, .slice pC2 (lC + 1) cC2, .slice pM lC cM] 43 (0, 0)) := set_in t1 2 _
                      obtain ⟨V2, hV2⟩ : ∃ V, w1.setCell ⟨b, 2, none⟩ (.slice pC2 (lC + 1) cC2) = V := ⟨_, rfl⟩
                      rw [hV2] at f2 t2
                      have rM2 : V2.ownsRow b 22 1 (.slice pM lC cM) Ms2.length Ms2 := by
                        have h0 := (HC7.out.idle (Fr.drew [] A6)).rB
                        have h1 := own_fr h0 f1 (fun g hg hm => HC7.out.ne g ((blk_own _ _ _ _).2 hm) (by rw [← hg]))
                        exact own_fr h1 f2 (fun g hg hm => by
                          have e : g = b := by simpa using hm
                          obtain ⟨-, cur, hc⟩ := own_ty HC7.out.rB hg
                          rw [e] at hc; exact ty_ne hc HT6.out (by decide) rfl)
                      have hlM : Ms2.length = lC := by rw [HC7.out.len]; exact HlC.out.1.symm
                      obtain ⟨pM2, cM2, w3, r3, o3, m3⟩ := pushC (w := V2) (As := Ms2) (p := pM) (c := cM) (.slice p2 nq2 c2) (by rw [hlM]; rw [hlM] at rM2; exact rM2) rfl (by rw [hlM, HlC.out.2]; have := HNum.out; have := HKl.out; omega) (Nat.le_of_lt (lt_of_heap t2))
                      rw [hlM] at r3 m3 o3
                      have f3 := m3.fr
                      rw [vb_slice] at f3
                      have nbl : ∀ g ∈ blk pM, g ≠ b := fun g hg e => by
                        obtain ⟨hl, cur, hc⟩ := own_ty HC7.out.rB ((blk_own _ _ _ _).2 hg)
                        rw [e] at hc; exact ty_ne hc HT6.out (by decide) rfl
                      have t3 := (f3.block b (lt_of_heap t2) (fun hm => nbl b hm rfl)).trans t2
                      have y1 : V2.cell? ⟨b, 3, none⟩ = some (.slice pM lC cM) := cell_in t2 3
                      have y3 : w3.cell? ⟨b, 3, none⟩ = some (.slice pM lC cM) := cell_in t3 3
                      have z3 := frozen_in t3 3
                      have f4 : Fr [b] w3 (w3.setCell ⟨b, 3, none⟩ (.slice pM2 (lC + 1) cM2)) := Fr.setCell (S := [b]) w3 ⟨b, 3, none⟩ _ (by simp)
                      have t4 : (w3.setCell ⟨b, 3, none⟩ (.slice pM2 (lC + 1) cM2)).heap[b]? = some (.cells #[.slice pW2 (aW + 1) cW2, .slice pL2 (aW + 1) cL2, .slice pC2 (lC + 1) cC2, .slice pM2 (lC + 1) cM2] 43 (0, 0)) := set_in t3 3 _
                      obtain ⟨A7, hA7⟩ : ∃ V, w3.setCell ⟨b, 3, none⟩ (.slice pM2 (lC + 1) cM2) = V := ⟨_, rfl⟩
                      rw [hA7] at f4 t4
                      have hmk : m0 - (k : Int) = -(((Cs ++ vs.take k).length : Nat) : Int) - 1 := by rw [← HlC.out.1, HlC.out.2]; have := HNum.out; omega
                      have hadd := (HC7.out.idle (Fr.drew [] A6)).add (b := b) (show A6.drew.heap[b]? = _ from HT6.out) (by decide) (by decide) (by decide) m1 (by rw [← HlC.out.1]; exact o1) f2 m3 (by rw [hlM]; exact o3) f4 (by rw [← hmk]; exact HFa7.out.fr (Fr.drew [] A6) (by simp)) (by rw [← hmk]; exact HFb7.out.fr (Fr.drew [] A6) (by simp))
                      have F67 : Fr (b :: (blk pC ++ blk pM)) A6 A7 := ((Fr.drew [] A6).mono (S' := b :: (blk pC ++ blk pM)) (by simp)).trans hadd.2 (fun g hg => .inl (by rw [vb_slice, vb_slice] at hg; exact hg))
                      have ty67 : ∀ g ∈ b :: (blk pC ++ blk pM), ∃ t cur, A6.heap[g]? = some (.cells cur t (0, 0)) ∧ (t = 43 ∨ t = 22) := fun g hg => by
                        rcases List.mem_cons.1 hg with q | q
                        · rw [q]; exact ⟨43, _, HT6.out, .inl rfl⟩
                        · rcases List.mem_append.1 q with q | q
                          · obtain ⟨-, cur, hc⟩ := own_ty HC7.out.rA ((blk_own _ _ _ _).2 q); exact ⟨22, cur, hc, .inr rfl⟩
                          · obtain ⟨-, cur, hc⟩ := own_ty HC7.out.rB ((blk_own _ _ _ _).2 q); exact ⟨22, cur, hc, .inr rfl⟩
                      have no67 : ∀ (t : TypeId), t ≠ 43 → t ≠ 22 → ∀ g ∈ b :: (blk pC ++ blk pM), ∀ cur, A6.heap[g]? ≠ some (.cells cur t (0, 0)) := fun t h43 h23 g hg cur hc => by
                        obtain ⟨t2, c2, h2, q | q⟩ := ty67 g hg
                        · rw [q] at h2; exact ty_ne hc h2 h43 rfl
                        · rw [q] at h2; exact ty_ne hc h2 h23 rfl
                      have si7 := HI6.out.fr F67 (no67 23 (by decide) (by decide)) (fun g hg cur hc => absurd hc (no67 3 (by decide) (by decide) g hg cur))
                      have lk7 : LkR A7 lim vs m0 (dn i 0) := HL6.out.fr F67 (fun v hv g hg hm => by
                        obtain ⟨k5, hk5⟩ := List.mem_iff_getElem?.1 hv
                        obtain ⟨p5, n5, c5, e5, -, -, xs, hx⟩ := HL6.out.each k5 v hk5
                        obtain ⟨cur, hc⟩ := row_block hx hg
                        exact no67 49 (by decide) (by decide) g hm cur hc)
                      have r67 : A7.ownsRow A1.heap.size 22 1 (.slice (some ⟨g6, 0, none⟩) i c6) i vs := own_fr HR66.out F67 (fun g hg hm => by
                        have e : g6 = g := by simpa [Value.ownBlock] using hg
                        subst e
                        rcases List.mem_cons.1 hm with q | q
                        · have := HA5.out; have := HG6.out; omega
                        · rcases List.mem_append.1 q with q | q
                          · exact (nb6 g6 q).2 rfl
                          · rcases HcM.out g6 ((blk_own _ _ _ _).2 q) with q | q
                            · have := HCm.out g6 (List.mem_append.2 (.inr q)); have := HG6.out; omega
                            · have := HA5.out; omega)
                      obtain ⟨k2, hk2⟩ : ∃ q, q = k + 1 := ⟨_, rfl⟩
                      have hwk : IntKind.i64.wrap ((k : Int) + 1) = (k2 : Int) := by rw [iwrap_id (by omega) (by omega)]; omega
                      have htk : vs.take (k + 1) = vs.take k ++ [.slice p ni c] := by rw [List.take_add_one, HV.out]; rfl
                      have HNx : Hid (PhF Q (fun g => Q g ∨ g ∈ blk pw ∨ gk ≤ g) A5 b lim g6 i c6 A1.heap.size cv mv (blk lp ++ ftL K.ts) (.slice pW2 (aW + 1) cW2) (.slice pL2 (aW + 1) cL2) WsN LsN Cs vs m0 A7 k2) := by
                        rw [hk2]
                        refine ⟨_, _, Ms2 ++ [.slice p2 nq2 c2], t4, si7, ?_, lk7, r67, ?_, ?_, ?_⟩
                        · rw [htk, ← List.append_assoc]
                          have h := hadd.1
                          rw [HOk.out] at h
                          exact h
                        · intro g hg
                          rcases m1.mem hg with q | q
                          · exact HcC.out g q
                          · right; have h1 : A6.heap.size ≤ g := q; have := HSz6.out; omega
                        · intro g hg
                          rcases m3.mem hg with q | q
                          · exact HcM.out g q
                          · right
                            have h1 := f1.size
                            have h2 := f2.size
                            have h3 : A6.heap.size ≤ w1.heap.size := h1
                            have := HSz6.out
                            omega
                        · refine HF6.out.trans F67 (fun g hg => ?_)
                          rcases List.mem_cons.1 hg with q | q
                          · exact .inl (List.mem_cons.2 (.inl q))
                          · rcases List.mem_append.1 q with q | q
                            · rcases HcC.out g ((blk_own _ _ _ _).2 q) with q | q
                              · exact .inl (List.mem_cons.2 (.inr (List.mem_append.2 (.inl (List.mem_append.2 (.inl q))))))
                              · exact .inr q
                            · rcases HcM.out g ((blk_own _ _ _ _).2 q) with q | q
                              · exact .inl (List.mem_cons.2 (.inr (List.mem_append.2 (.inl (List.mem_append.2 (.inr q))))))
                              · exact .inr q
                      have HK2 : Hid (k2 = k + 1 ∧ k < i) := ⟨hk2, HKl.out⟩
                      have HR3 := mkHid r3
                      have HV2 := mkHid hV2
                      have HA7e := mkHid hA7
                      have HG6c : Hid (g6 < A6.heap.size) := lg6
                      have kx : (k : Int) < (i : Int) := by have := HKl.out; omega
                      clear r1 m1 o1 f1 nb6 t1 f2 t2 rM2 hlM r3 o3 m3 f3 nbl t3 f4 t4 hadd F67 ty67 no67 si7 lk7 r67 hk2 htk hV2 hA7 cl1 lg6 hmk HT6 HI6 HC7 HL6 HR66 HFa7 HFb7 HF6 HC6
                      go_wp2_with fail
                      refine wp_region_last (L := 13) (S := fun V => V.cell? ⟨b, 2, none⟩ = some (.slice pC lC cC) ∧ V.cell? ⟨g6, k, none⟩ = some (.slice p ni c)) (by kernel_rfl) HS0.out (fun hHeld => ?_)
                      refine wpLast_take (i := 0) (v := ?_) rfl (by kernel_rfl) (by kernel_rfl) (by kernel_rfl) (by decide) (by kernel_rfl) (fun _ _ _ h => h) (Or.inl ⟨by rfl, ?_⟩) (by assumption) ?_
                      rotate_left
                      · (intro w hSw; (try dsimp only at hSw); first | (go_simp; done) | (go_simp; with_reducible rfl))
                      try simp only [Act.put, qT, qZ, qS, qB, qY, qX]
                      refine wpLast_take (i := 1) (v := ?_) rfl (by kernel_rfl) (by kernel_rfl) (by kernel_rfl) (by decide) (by kernel_rfl) (fun _ _ _ h => h) (Or.inl ⟨by rfl, ?_⟩) (by assumption) ?_
                      rotate_left
                      · (intro w hSw; (try dsimp only at hSw); first | (go_simp; done) | (go_simp; with_reducible rfl))
                      try simp only [Act.put, qT, qZ, qS, qB, qY, qX]
                      refine wpLast_take (i := 2) (v := ?_) rfl (by kernel_rfl) (by kernel_rfl) (by kernel_rfl) (by decide) (by kernel_rfl) (fun _ _ _ h => h) (Or.inl ⟨by rfl, ?_⟩) (by assumption) ?_
                      rotate_left
                      · (intro w hSw; (try dsimp only at hSw); first | (go_simp; done) | (go_simp; with_reducible rfl))
                      try simp only [Act.put, qT, qZ, qS, qB, qY, qX]
                      refine wpLast_take (i := 3) (v := ?_) rfl (by kernel_rfl) (by kernel_rfl) (by kernel_rfl) (by decide) (by kernel_rfl) (fun _ _ _ h => h) (Or.inl ⟨by rfl, ?_⟩) (by assumption) ?_
                      rotate_left
                      · (intro w hSw; (try dsimp only at hSw); first | (go_simp; done) | (go_simp; with_reducible rfl))
                      try simp only [Act.put, qT, qZ, qS, qB, qY, qX]
                      refine wpLast_take (i := 4) (v := ?_) rfl (by kernel_rfl) (by kernel_rfl) (by kernel_rfl) (by decide) (by kernel_rfl) (fun _ _ _ h => h) (Or.inl ⟨by rfl, ?_⟩) (by assumption) ?_
                      rotate_left
                      · (intro w hSw; (try dsimp only at hSw); first | (go_simp; done) | (go_simp; with_reducible rfl))
                      try simp only [Act.put, qT, qZ, qS, qB, qY, qX]
                      refine wpLast_take (i := 5) (v := ?_) rfl (by kernel_rfl) (by kernel_rfl) (by kernel_rfl) (by decide) (by kernel_rfl) (fun _ _ _ h => h) (Or.inl ⟨by rfl, ?_⟩) (by assumption) ?_
                      rotate_left
                      · (intro w hSw; (try dsimp only at hSw); first | (go_simp; done) | (go_simp; with_reducible rfl))
                      try simp only [Act.put, qT, qZ, qS, qB, qY, qX]
                      refine wpLast_take (i := 6) (v := ?_) rfl (by kernel_rfl) (by kernel_rfl) (by kernel_rfl) (by decide) (by kernel_rfl) (fun _ _ _ h => h) (Or.inl ⟨by rfl, ?_⟩) (by assumption) ?_
                      rotate_left
                      · (intro w hSw; (try dsimp only at hSw); first | (go_simp; done) | (go_simp; with_reducible rfl))
                      try simp only [Act.put, qT, qZ, qS, qB, qY, qX]
                      refine wpLast_take (i := 7) (v := ?_) rfl (by kernel_rfl) (by kernel_rfl) (by kernel_rfl) (by decide) (by kernel_rfl) (fun _ _ _ h => h) (Or.inl ⟨by rfl, ?_⟩) (by assumption) ?_
                      rotate_left
                      · (intro w hSw; (try dsimp only at hSw); first | (go_simp; done) | (go_simp; with_reducible rfl))
                      try simp only [Act.put, qT, qZ, qS, qB, qY, qX]
                      refine wpLast_take (i := 8) (v := ?_) rfl (by kernel_rfl) (by kernel_rfl) (by kernel_rfl) (by decide) (by kernel_rfl) (fun _ _ _ h => h) (Or.inl ⟨by rfl, ?_⟩) (by assumption) ?_
                      rotate_left
                      · (intro w hSw; (try dsimp only at hSw); first | (go_simp; done) | (go_simp; with_reducible rfl))
                      try simp only [Act.put, qT, qZ, qS, qB, qY, qX]
                      refine wpLast_one (i := 9) (by kernel_rfl) rfl (by decide) (fun K0 hK => ?_)
                      go_simp
                      refine hK.out _ _ (HSa.out _) (fun hHeld => ?_)
                      clear hK K0
                      try simp only [Act.put, qT, qZ, qS, qB, qY, qX]
                      refine wpLast_one (i := 10) (by kernel_rfl) rfl (by decide) (fun K0 hK => ?_)
                      refine step_append_run rfl (.tmp 127) (.tmp 132) 41 41 rfl (.slice pC lC cC) (.slice (some ⟨A6.drew.heap.size, 0, none⟩) 1 1) (by simp [Act.eval]) (by simp [Act.eval]) _ _ HR1.out ?_
                      refine hK.out _ _ HS1b.out (fun hHeld => ?_)
                      clear hK K0
                      try simp only [Act.put, qT, qZ, qS, qB, qY, qX]
                      refine wpLast_one (i := 11) (by kernel_rfl) rfl (by decide) (fun K0 hK => ?_)
                      go_simp
                      refine hK.out _ _ HS1b.out (fun hHeld => ?_)
                      clear hK K0
                      try simp only [Act.put, qT, qZ, qS, qB, qY, qX]
                      refine wpLast_take (i := 12) (v := ?_) rfl (by kernel_rfl) (by kernel_rfl) (by kernel_rfl) (by decide) (by kernel_rfl) (fun _ _ _ h => h) (Or.inl ⟨by rfl, ?_⟩) (by assumption) ?_
                      rotate_left
                      · (intro w hSw; (try dsimp only at hSw); first | (go_simp; done) | (go_simp; with_reducible rfl))
                      try simp only [Act.put, qT, qZ, qS, qB, qY, qX]
                      refine wpLast_end (by kernel_rfl) rfl (by kernel_rfl) (fun K0 hK => ?_)
                      go_simp
                      refine hK.out _ _ ?_
                      clear hK K0
                      try simp only [Act.put, qT, qZ, qS, qB, qY, qX]
                      clear HS0 HSa HS1b HR1 y0 z0 hHeld
                      rw [HV2.out]
                      go_wp2_with (at_builtin; refine Lib.wpList_append_run _ rfl (.tmp 140) (.tmp 142) 41 41 rfl _ _ rfl rfl _ _ HR3.out ?_)
                      go_roundw
                      case rel => exact ⟨k2, by have := HK2.out; omega, rfl, by rw [HA7e.out]; exact HNx.out⟩
                      case measure => have := HK2.out; simp [intOf]; omega
                · have hke : k = i := by omega
                  have hks : ¬ (k : Int) < (i : Int) := by omega
                  have hkn : ¬ k < i := hlt
                  have HFin : Hid (KeepR W b Q (.slice wv aW cwv) (.slice lv aW clv) (.slice cv aC ccv) (.slice mv aC cmv) Ws Cs K lp lc pw (.returned (.tuple #[])) wr) := by
                    have hnl := HNl.out
                    refine ⟨rfl, ?_, (.slice pW2 (aW + 1) cW2), (.slice pL2 (aW + 1) cL2), vC, vM, _, _, _, _, ⟨ht, hsi.up (fun g _ hq => by
                      rcases hq with q | q | q
                      · exact .inl q
                      · exact .inr (.inl (List.mem_append.2 (.inl q)))
                      · exact .inr (.inr (by have := HNum.out; omega))), hsc.up (fun g _ hq => by
                      rcases hq with q | ⟨j2, v2, q1, q2, q3⟩ | q
                      · exact .inl q
                      · exact .inr (.inl (List.mem_append.2 (.inr (HVf.out _ (List.mem_of_getElem? q2) g q3))))
                      · exact .inr (.inr (by have := HNum.out; have := HA5.out; omega)))⟩, HWN.out, ?_⟩
                    · unfold keepF
                      simp only [vb_slice]
                      refine ((HF1.out.mono (S' := _) (by simp)).trans HF05.out (fun g hg => ?_)).trans hfr (fun g hg => ?_)
                      · rcases List.mem_append.1 hg with q | q
                        · exact .inl (List.mem_append.2 (.inl q))
                        · exact .inl (List.mem_append.2 (.inr (List.mem_append.2 (.inr q))))
                      · rcases List.mem_cons.1 hg with q | q
                        · exact .inl (List.mem_append.2 (.inl (by rw [q]; simp)))
                        · rcases List.mem_append.1 q with q | q
                          · exact .inl (List.mem_append.2 (.inr (List.mem_append.2 (.inl q))))
                          · exact .inl (List.mem_append.2 (.inr (List.mem_append.2 (.inr (List.mem_append.2 (.inr q))))))
                    · rw [List.length_append, List.length_take, ← HVs.out, ← hnl, hke]
                      omega
                  clear ht hsi hsc hlk hr6 hcC hcM hfr hlt hk
                  go_wp2_with fail
                  go_end0
                  exact HFin.out
end Go.Proofs.YtclkoffnjiiioaaGreatDoor
