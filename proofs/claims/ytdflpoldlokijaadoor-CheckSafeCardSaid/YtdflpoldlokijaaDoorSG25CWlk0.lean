import Derived.Test.YtdflpoldlokijaaDoorSCDep0
import Derived.Test.YtdflpoldlokijaaDoorSCNew
import Derived.Test.YtdflpoldlokijaaDoorSCLand
import Derived.Test.YtdflpoldlokijaaDoorSG24CLook
namespace Go.Proofs.YtdflpoldlokijaaDoor
open Go.RowKit
set_option linter.unusedVariables false
set_option linter.unusedSimpArgs false
attribute [local go_sem ↓] Go.wp_at_zero Go.wp_at_succ
/-- a code as a value -/
def cdv (h : Hd) (lp : Option Addr) (ln lc : Nat) (pw : Option Addr) (n cw : Nat) : Array Value := #[.int .i64 h.args, .int .i64 h.temps, .int .i64 h.stack, .slice lp ln lc, .slice pw n cw]
def bnv (b : Bn) : Array Value := #[.int .i64 b.fields, .int .i64 b.classes, .int .i64 b.globals, .int .i64 b.symbols]
structure CodeR (w : World) (C : Cx) (ts : List LitT) (lp : Option Addr) (lc : Nat) (pw : Option Addr) (cw : Nat) : Prop where
  words : Rd w (.slice pw C.ws.length cw) C.ws
  cap : C.ws.length ≤ cw
  lits : LitsR w lp lc ts
  ln : ts.length = C.lits
  rng : ∀ i, -9223372036854775808 ≤ C.w i ∧ C.w i ≤ 9223372036854775807
  tb : Tb w
theorem RR.plr {w : World} {B a : Nat} {C : Cx} {wv : Value} {sc : List Nat} {ps : Option Addr} {cs : Nat} {pls : List Pl} {pp : Option Addr} {k : Nat} (h : RR w B a C wv sc ps cs pls pp k) : PlR w w.heap.size pp pls := fun i hi => by
  obtain ⟨g, e, hg, a, b, c, d, e', f⟩ := h.place i hi
  have hl := World.block_lt_of_cell? w _ a
  exact ⟨g, e, hl, hl, a, b, c, d, e', f⟩
set_option maxRecDepth 100000 in
set_option maxHeartbeats 4000000 in
theorem depths_ok (C : Cx) (h : Hd) (ts : List LitT) (lp : Option Addr) (lc : Nat) (pw : Option Addr) (cw : Nat) (w : World) (hc : CodeR w C ts lp lc pw cw) :
    Calls Tryd.prog 14 #[.agg (cdv h lp C.lits lc pw C.ws.length cw), .agg (bnv C.b)] w fun e w' => ∃ lk v, e = .returned (.tuple #[v, .int .i64 (depthsP C h lk).1]) ∧ Fr [] w w' ∧ (C.lits = 0 → lk = 0) ∧ ((depthsP C h lk).1 = 0 → w'.ownsRow w.heap.size 3 1 v C.ws.length ((depthsP C h lk).2.map (Value.int .i64))) ∧ ((depthsP C h lk).1 ≠ 0 → v = .slice none 0 0) := by
  have hsh := hc.words.short
  have hls : C.lits ≤ 2513169434916 := by
    rw [← hc.ln]
    cases hc.lits with
    | mk _ _ _ nil at_ short txt kids => exact short
  unfold cdv bnv
  by_cases k1 : 4096 < C.ws.length ∨ 64 < C.lits
  · have HD : Hid (depthsP C h 0 = (73, [])) := mkHid (if_pos k1)
    have F2 : Hid (∀ o1 o2 : Obj, Fr [] w ((w.alloc o1).alloc o2)) := fun o1 o2 => ((Fr.refl [] w).al o1).al o2
    clear hc
    by_cases k2 : 4096 < C.ws.length
    · have d1 : (4096 : Int) < (C.ws.length : Int) := by omega
      clear k1 k2
      go_enter Tryd.func14, Tryd.ntmps14
      go_wp2_with fail
      go_ret2
      exact ⟨0, _, by rw [HD.out]; rfl, F2.out _ _, fun _ => rfl, fun h => (by rw [HD.out] at h; cases h), fun _ => rfl⟩
    · have d1 : decide ((4096 : Int) < (C.ws.length : Int)) = false := decide_eq_false (by omega)
      have d2 : (64 : Int) < (C.lits : Int) := by omega
      clear k1 k2
      go_enter Tryd.func14, Tryd.ntmps14
      go_wp2_with fail
      go_ret2
      exact ⟨0, _, by rw [HD.out]; rfl, F2.out _ _, fun _ => rfl, fun h => (by rw [HD.out] at h; cases h), fun _ => rfl⟩
  · have d1 : decide ((4096 : Int) < (C.ws.length : Int)) = false := decide_eq_false (by omega)
    have d2 : decide ((64 : Int) < (C.lits : Int)) = false := decide_eq_false (by omega)
    have HSc : Hid (∀ V, Calls Tryd.prog 21 #[.int .i64 h.args, .int .i64 h.temps] V fun e w' => e = .returned (.bool (scopeB h.args h.temps)) ∧ w' = V) := fun V => isScope_ok _ _ V
    have HSt : Hid (∀ V, Calls Tryd.prog 22 #[.int .i64 h.stack, .int .i64 0, .int .i64 256] V fun e w' => e = .returned (.bool (inR h.stack 0 256)) ∧ w' = V) := fun V => within_ok _ _ _ V
    have F2 : Hid (∀ o1 o2 : Obj, Fr [] w ((w.alloc o1).alloc o2)) := fun o1 o2 => ((Fr.refl [] w).al o1).al o2
    by_cases k2 : scopeB h.args h.temps = false ∨ inR h.stack 0 256 = false
    · have HD : Hid (depthsP C h 0 = (111, [])) := by show depthsP C h 0 = _; unfold depthsP; rw [if_neg k1, if_pos k2]
      clear hc
      by_cases k3 : scopeB h.args h.temps = false
      · rw [k3] at HSc
        clear k1 k2 k3
        go_enter Tryd.func14, Tryd.ntmps14
        go_wp2_with (go_at_call 21; refine (HSc.out _).mono ?_; rintro e w' ⟨rfl, hw'⟩; rw [hw']; clear hw' w')
        go_ret2
        exact ⟨0, _, by rw [HD.out]; rfl, F2.out _ _, fun _ => rfl, fun h => (by rw [HD.out] at h; cases h), fun _ => rfl⟩
      · have k4 : inR h.stack 0 256 = false := by rcases k2 with h1 | h1; exact absurd h1 k3; exact h1
        have k3 : scopeB h.args h.temps = true := by simpa using k3
        rw [k3] at HSc
        rw [k4] at HSt
        clear k1 k2 k3 k4
        go_enter Tryd.func14, Tryd.ntmps14
        go_wp2_with (first | (go_at_call 21; refine (HSc.out _).mono ?_; rintro e w' ⟨rfl, hw'⟩; rw [hw']; clear hw' w') | (go_at_call 22; refine (HSt.out _).mono ?_; rintro e w' ⟨rfl, hw'⟩; rw [hw']; clear hw' w'))
        go_ret2
        exact ⟨0, _, by rw [HD.out]; rfl, F2.out _ _, fun _ => rfl, fun h => (by rw [HD.out] at h; cases h), fun _ => rfl⟩
    · simp only [not_or, Bool.not_eq_false] at k2
      obtain ⟨k3, k4⟩ := k2
      rw [k3] at HSc
      rw [k4] at HSt
      have HD : Hid (∀ lk, depthsP C h lk = if lk ≠ 0 then (lk, []) else wordsP C h) := fun lk => by
        unfold depthsP; rw [if_neg k1, if_neg (by simp [k3, k4])]
      have k5 : 0 ≤ h.temps ∧ h.temps ≤ 32 := by unfold scopeB inR at k3; simp at k3; omega
      obtain ⟨t, ht⟩ := Int.eq_ofNat_of_zero_le k5.1
      have HCR := mkHid hc
      have HLn := mkHid hc.ln
      have k1a : C.ws.length ≤ 4096 := by omega
      have k1b : C.lits ≤ 64 := by omega
      have ht32 : t ≤ 32 := by omega
      have htn : h.temps.toNat = t := by omega
      have HWo : Hid (wordsP C h = if (readP C (C.ws.length + 1) [t] 0 C.ws.length 1 (startR C t)).1 ≠ 0 then ((readP C (C.ws.length + 1) [t] 0 C.ws.length 1 (startR C t)).1, []) else if (List.range C.ws.length).all (landP C (readP C (C.ws.length + 1) [t] 0 C.ws.length 1 (startR C t)).2.pls) = false then (112, []) else followP (jumpN C (readP C (C.ws.length + 1) [t] 0 C.ws.length 1 (startR C t)).2.pls C.ws.length) h.stack) := by
        show wordsP C h = _
        unfold wordsP; rw [htn]
      rw [ht] at HSc ⊢
      have n0 : (C.ws.length : Int) ≤ 4096 := by omega
      clear hc k1 k3 k4 k5 ht htn
      generalize h.args = ar at *
      generalize h.stack = st at *
      go_enter Tryd.func14, Tryd.ntmps14
      go_wp2_with (first | (go_at_call 21; refine (HSc.out _).mono ?_; rintro e w' ⟨rfl, hw'⟩; rw [hw']; clear hw' w') | (go_at_call 22; refine (HSt.out _).mono ?_; rintro e w' ⟨rfl, hw'⟩; rw [hw']; clear hw' w') | (go_at_call 23; fail))
      obtain ⟨W0, hW0⟩ : ∃ W0, ((w.alloc (.cells #[.int .i64 ar, .int .i64 (t : Int), .int .i64 st, .slice lp C.lits lc, .slice pw C.ws.length cw] 25)).alloc (.cells #[.int .i64 C.b.fields, .int .i64 C.b.classes, .int .i64 C.b.globals, .int .i64 C.b.symbols] 27)).alloc (.cells #[.int .i64 C.b.symbols, .int .i64 0] 66) = W0 := ⟨_, rfl⟩
      rw [hW0]
      have f0 : Fr [] w W0 := by rw [← hW0]; exact (((Fr.refl [] w).al _).al _).al _
      have b0 : W0.heap[w.heap.size]? = some (.cells #[.int .i64 ar, .int .i64 (t : Int), .int .i64 st, .slice lp C.lits lc, .slice pw C.ws.length cw] 25 (0, 0)) := by rw [← hW0]; exact al_old (al_old (heap_alloc_new w _) _) _
      have b1 : W0.heap[w.heap.size + 1]? = some (.cells #[.int .i64 C.b.fields, .int .i64 C.b.classes, .int .i64 C.b.globals, .int .i64 C.b.symbols] 27 (0, 0)) := by rw [← hW0]; exact al_old (new_at _ _ _ (by simp)) _
      have b2 : Shf W0 (w.heap.size + 1 + 1) C.b.symbols 0 := by unfold Shf; rw [← hW0]; exact new_at _ _ _ (by simp)
      have HLk := look_ok w lp lc ts HCR.out.lits (w.heap.size + 1 + 1) C.b.symbols W0 f0 (by omega) b2
      rw [HLn.out] at HLk
      refine HLk.mono ?_
      rintro e w1 ⟨E, rfl, f1, z1⟩
      have F1 : Fr [] w w1 := f0.trans f1 (fun b hb => .inr (by simp at hb; omega))
      have c0 := (f1.block _ (lt_of_heap b0) (fun hm => by have := List.mem_singleton.1 hm; omega)).trans b0
      have c1 := (f1.block _ (lt_of_heap b1) (fun hm => by have := List.mem_singleton.1 hm; omega)).trans b1
      have HF1 := mkHid F1
      have HZ1 := mkHid z1
      have HC0 := mkHid c0
      have HC1 := mkHid c1
      clear HLk f1 F1 b0 b1 b2 f0 hW0 HSc HSt F2 z1
      by_cases hE : E = 0
      · subst hE
        have HB := lt_of_heap c1
        have x0 : w1.cell? ⟨w.heap.size, 0, none⟩ = some (.int .i64 ar) := by rw [cell_in c0]; rfl
        have x1 : w1.cell? ⟨w.heap.size, 1, none⟩ = some (.int .i64 (t : Int)) := by rw [cell_in c0]; rfl
        have x2 : w1.cell? ⟨w.heap.size, 2, none⟩ = some (.int .i64 st) := by rw [cell_in c0]; rfl
        have x3 : w1.cell? ⟨w.heap.size, 3, none⟩ = some (.slice lp C.lits lc) := by rw [cell_in c0]; rfl
        have x4 : w1.cell? ⟨w.heap.size, 4, none⟩ = some (.slice pw C.ws.length cw) := by rw [cell_in c0]; rfl
        have y0 : w1.cell? ⟨w.heap.size + 1, 0, none⟩ = some (.int .i64 C.b.fields) := by rw [cell_in c1]; rfl
        have y1 : w1.cell? ⟨w.heap.size + 1, 1, none⟩ = some (.int .i64 C.b.classes) := by rw [cell_in c1]; rfl
        have y2 : w1.cell? ⟨w.heap.size + 1, 2, none⟩ = some (.int .i64 C.b.globals) := by rw [cell_in c1]; rfl
        have y3 : w1.cell? ⟨w.heap.size + 1, 3, none⟩ = some (.int .i64 C.b.symbols) := by rw [cell_in c1]; rfl
        have HNew := mkHid (newReader_ok C t ar st lp lc pw cw w1 (HCR.out.words.idle HF1.out) HCR.out.cap (HCR.out.tb.idle HF1.out) k1a k1b ht32 HCR.out.rng)
        have HD0 : Hid (depthsP C h 0 = wordsP C h) := by show depthsP C h 0 = _; rw [HD.out]; rfl
        obtain ⟨q, hq⟩ : ∃ q, readP C (C.ws.length + 1) [t] 0 C.ws.length 1 (startR C t) = q := ⟨_, rfl⟩
        have hgood : q.1 = 0 → Good C q.2 := fun h0 => by rw [← hq]; exact read_good C t (by rw [hq]; exact h0)
        rw [hq] at HWo
        have HRead : Hid (∀ W a ps pp, RR W w1.heap.size a C (.slice pw C.ws.length cw) [t] ps 1 (List.replicate C.ws.length noPl) pp 0 → w1.heap.size ≤ W.heap.size → Calls Tryd.prog 25 #[.pointer (some ⟨a, 0, none⟩), .int .i64 0, .int .i64 (C.ws.length : Int)] W fun e w' => e = .returned (.int .i64 q.1) ∧ Kw w1.heap.size W w' ∧ ∃ ps' cs', RR w' w1.heap.size a C (.slice pw C.ws.length cw) [t] ps' cs' q.2.pls pp q.2.inf.length) := fun W a ps pp hW hB => by
          rw [← hq]
          exact read_ok (C.ws.length + 1) W w1.heap.size a C _ [t] ps 1 (List.replicate C.ws.length noPl) pp [] 0 C.ws.length hW hB (by omega) (by omega) (Nat.le_refl _) (by simp; omega)
        have HGood := mkHid hgood
        clear hq hgood c0 c1
        obtain ⟨E3, R⟩ := q
        simp only at HWo HRead HGood
        have HKc : Hid (∀ V, Kw w1.heap.size w1 V → V.cell? ⟨w.heap.size, 4, none⟩ = some (.slice pw C.ws.length cw) ∧ V.cell? ⟨w.heap.size, 2, none⟩ = some (.int .i64 st)) := fun V hV => by
          have := (hV.block w.heap.size (by omega)).trans HC0.out
          exact ⟨by rw [cell_in this]; rfl, by rw [cell_in this]; rfl⟩
        go_wp2_with (first
          | (go_at_call 24; refine HNew.out.mono ?_; rintro e w2 ⟨a, ps, pp, rfl, f2, r2⟩; have K2 := mkHid (f2.kw (Nat.le_refl _) (by simp)); obtain ⟨u4, u2⟩ := HKc.out w2 K2.out; have R2 := mkHid r2; have S2 := mkHid f2.size; clear f2 r2)
          | (go_at_call 25; fail))
        refine (HRead.out w2 a ps pp R2.out S2.out).mono ?_
        rintro e w3 ⟨rfl, k3, ps3, cs3, r3⟩
        have K3 := mkHid (K2.out.trans k3)
        have R3 := mkHid r3
        clear k3 r3 u4 u2 HNew HRead R2 K2 x0 x1 x2 x3 x4 y0 y1 y2 y3
        by_cases hE3 : E3 = 0
        · subst hE3
          have G := HGood.out rfl
          rw [if_neg (by simp)] at HWo
          have hRl := G.len
          have HJL := mkHid (jumpsLand_ok R3.out K3.out.size G.jmp)
          have HRl := mkHid hRl
          cases hb : (List.range C.ws.length).all (landP C R.pls)
          · have HBb : Hid ((List.range R.pls.length).all (landP C R.pls) = false) := by show List.all _ _ = false; rw [hRl]; exact hb
            rw [hb] at HWo
            simp only [if_true] at HWo
            clear hRl G hb
            go_wp2_with (go_at_call 26; refine HJL.out.mono ?_; rintro e w4 ⟨bb, rfl, k4, hb4, r4⟩; have eb : bb = false := hb4.symm.trans HBb.out; subst eb; have K4 := mkHid (K3.out.trans k4); clear k4 hb4 r4)
            go_ret2
            exact ⟨0, _, by rw [HD0.out, HWo.out]; rfl, K4.out.fr HF1.out HF1.out.size, fun _ => rfl, fun h0 => (by rw [HD0.out, HWo.out] at h0; cases h0), fun _ => rfl⟩
          · have HBb : Hid ((List.range R.pls.length).all (landP C R.pls) = true) := by show List.all _ _ = true; rw [hRl]; exact hb
            rw [hb] at HWo
            simp only [Bool.true_eq_false, if_false] at HWo
            rw [← hRl] at HWo
            have HPl := mkHid (G.pl HBb.out)
            have hjl : (jumpN C R.pls R.pls.length).length = R.pls.length := jumpN_len ..
            have HJl := mkHid hjl
            clear hRl G hb hjl
            go_wp2_with (go_at_call 26; refine HJL.out.mono ?_; rintro e w4 ⟨bb, rfl, k4, hb4, r4⟩; have eb : bb = true := hb4.symm.trans HBb.out; subst eb; have K4 := mkHid (K3.out.trans k4); have R4 := mkHid (r4 rfl); clear k4 hb4 r4)
            obtain ⟨-, -, -, -, -, -, -, -, u8⟩ := R4.out.cells
            obtain ⟨-, u2⟩ := HKc.out w4 K4.out
            have hl4 : (jumpN C R.pls R.pls.length).length ≤ 4096 := by rw [HJl.out, HRl.out]; exact k1a
            have HFo := mkHid (follow_ok (jumpN C R.pls R.pls.length) pp st w4.drew (R4.out.idle (Fr.drew [] w4)).plr (R4.out.idle (Fr.drew [] w4)).tb hl4 HPl.out.1 (fun h0 => HPl.out.2.1 (by rw [HJl.out] at h0; exact h0)) (fun i hi => HPl.out.2.2 i (by rw [HJl.out] at hi; exact hi)))
            obtain ⟨nn, hnn⟩ : ∃ nn, (jumpN C R.pls R.pls.length).length = nn := ⟨_, rfl⟩
            have HNn : Hid (nn = C.ws.length) := by show nn = _; rw [← hnn, HJl.out]; exact HRl.out
            rw [hnn] at u8 HFo
            obtain ⟨⟨E5, D5⟩, hq5⟩ : ∃ q, followP (jumpN C R.pls R.pls.length) st = q := ⟨_, rfl⟩
            rw [hq5] at HFo HWo
            simp only at HFo
            have HS1 := mkHid HF1.out.size
            clear hnn hq5 hl4 HPl HJL
            go_region_with (go_at_call 27; refine HFo.out.mono ?_; rintro e w5 ⟨v5, rfl, f5, o5, n5⟩; have F5 := mkHid f5; have O5 := mkHid o5; have N5 := mkHid n5; clear f5 o5 n5)
            all_goals go_wp2_with fail
            all_goals go_ret2
            all_goals refine ⟨0, v5, by rw [HD0.out, HWo.out]; rfl, ?_, fun _ => rfl, fun h0 => ?_, fun h0 => ?_⟩
            all_goals first
              | exact (K4.out.fr HF1.out HS1.out).tr0 ((Fr.drew [] w4).tr0 F5.out)
              | (rw [HD0.out, HWo.out] at h0 ⊢
                 have o := O5.out h0
                 rw [HNn.out] at o
                 exact ⟨o.1, o.2.imp id (fun ⟨g, cap, cur, e1, q1, q2⟩ => ⟨g, cap, cur, e1, Nat.le_trans (Nat.le_trans HS1.out K4.out.size) q1, q2⟩)⟩)
              | (rw [HD0.out, HWo.out] at h0; exact N5.out h0)
        · have qE : (E3 != 0) = true := by simpa using hE3
          rw [if_pos hE3] at HWo
          go_wp2_with fail
          go_ret2
          exact ⟨0, _, by rw [HD0.out, HWo.out]; rfl, K3.out.fr HF1.out HF1.out.size, fun _ => rfl, fun h0 => absurd (by rw [HD0.out, HWo.out] at h0; exact h0) hE3, fun _ => rfl⟩
      · have qE : (E != 0) = true := by simpa using hE
        have HDE : Hid (depthsP C h E = (E, [])) := by show depthsP C h E = _; rw [HD.out, if_pos hE]
        go_wp2_with fail
        go_ret2
        exact ⟨E, _, by rw [HDE.out]; rfl, HF1.out, HZ1.out, fun h0 => absurd (by rw [HDE.out] at h0; exact h0) hE, fun _ => rfl⟩
end Go.Proofs.YtdflpoldlokijaaDoor
namespace Go.Proofs.YtdflpoldlokijaaDoor
open Go.RowKit
set_option linter.unusedVariables false
set_option linter.unusedSimpArgs false
attribute [local go_sem ↓] Go.wp_at_zero Go.wp_at_succ
set_option maxRecDepth 100000 in
set_option maxHeartbeats 2000000 in
theorem check_ok (C : Cx) (h : Hd) (ts : List LitT) (lp : Option Addr) (lc : Nat) (pw : Option Addr) (cw : Nat) (w : World) (hc : CodeR w C ts lp lc pw cw) :
    Calls Tryd.prog 8 #[.agg (cdv h lp C.lits lc pw C.ws.length cw), .agg (bnv C.b)] w fun e w' => ∃ lk, e = .returned (.int .i64 (depthsP C h lk).1) ∧ Fr [] w w' ∧ (C.lits = 0 → lk = 0) := by
  have HD : Hid (∀ V, Fr [] w V → Calls Tryd.prog 14 #[.agg (cdv h lp C.lits lc pw C.ws.length cw), .agg (bnv C.b)] V fun e w' => ∃ lk v, e = .returned (.tuple #[v, .int .i64 (depthsP C h lk).1]) ∧ Fr [] V w' ∧ (C.lits = 0 → lk = 0) ∧ ((depthsP C h lk).1 = 0 → w'.ownsRow V.heap.size 3 1 v C.ws.length ((depthsP C h lk).2.map (Value.int .i64))) ∧ ((depthsP C h lk).1 ≠ 0 → v = .slice none 0 0)) := fun V hV => depths_ok C h ts lp lc pw cw V ⟨hc.words.idle hV, hc.cap, hc.lits.idle hV, hc.ln, hc.rng, hc.tb.idle hV⟩
  have F2 : Hid (∀ o1 o2 : Obj, Fr [] w ((w.alloc o1).alloc o2)) := fun o1 o2 => ((Fr.refl [] w).al o1).al o2
  unfold cdv bnv at *
  clear hc
  go_enter Tryd.func8, Tryd.ntmps8
  go_wp2_with (go_at_call 14; refine (HD.out _ (F2.out _ _)).mono ?_; rintro e w1 ⟨lk, v, rfl, f1, z1, -, -⟩; have F1 := mkHid ((F2.out _ _).tr0 f1); have Z1 := mkHid z1; clear f1 z1)
  go_ret
  exact ⟨lk, rfl, F1.out, Z1.out⟩
set_option maxHeartbeats 400000 in
theorem num_ok (n : Int) (w : World) : Calls Tryd.prog 9 #[.int .i64 n] w fun e w' => e = .returned (.int .i64 n) ∧ w' = w := by
  go_enter Tryd.func9, Tryd.ntmps9
  go_wp2_with fail
  go_ret
  exact ⟨rfl, rfl⟩
set_option maxRecDepth 100000 in
set_option maxHeartbeats 2000000 in
theorem same_ok (l : List Int) (va vb : Value) (w : World) (ha : Rd w va l) (hb : Rd w vb l) : Calls Tryd.prog 16 #[va, vb] w fun e w' => e = .returned (.bool true) ∧ Fr [] w w' := by
  obtain ⟨pa, ca, rfl, hpa⟩ := ha.at_
  obtain ⟨pb, cb, rfl, hpb⟩ := hb.at_
  have hs := ha.short
  have HA := mkHid hpa
  have HB := mkHid hpb
  clear ha hb hpa hpb
  go_enter Tryd.func16, Tryd.ntmps16
  go_wp2_with fail
  go_loopw [5] (fun q wr => ∃ i : Nat, i ≤ l.length ∧ q = .int .i64 i ∧ Hid (Fr [] w wr)) (fun q _ => l.length - (intOf q).toNat)
  case atStart => exact ⟨0, Nat.zero_le _, rfl, Fr.refl _ _⟩
  case round =>
    obtain ⟨i, hi, rfl, hf⟩ := hrel
    have i0 : (0 : Int) ≤ (i : Int) := by omega
    by_cases hlt : i < l.length
    · have i1 : (i : Int) < (l.length : Int) := by omega
      obtain ⟨ga, oa, rfl, -, hca⟩ := HA.out (by omega)
      obtain ⟨gb, ob, rfl, -, hcb⟩ := HB.out (by omega)
      have x1 := hf.out.cl (hca i hlt)
      have x2 := hf.out.cl (hcb i hlt)
      generalize l.getD i 0 = z at *
      have HD : Hid (∀ n, Fr [] w (wr.drewN n)) := fun n => hf.out.dn n
      clear hca hcb
      go_wp2_with fail
      try go_quiet (fail)
      try go_wp2_with fail
      go_roundw
      case rel => exact ⟨i + 1, by omega, by go_num, by first | exact HD.out _ | exact hf⟩
      case measure => simp [intOf]; omega
    · have hie : i = l.length := by omega
      subst hie
      go_wp2_with fail
      go_ret
      exact ⟨rfl, hf.out⟩
end Go.Proofs.YtdflpoldlokijaaDoor
namespace Go.Proofs.YtdflpoldlokijaaDoor
open Go.RowKit
set_option linter.unusedVariables false
set_option linter.unusedSimpArgs false
attribute [local go_sem ↓] Go.wp_at_zero Go.wp_at_succ
structure WS where
  at_ : Nat
  dep : Int
  seed : Int
  done : Bool
  wild : Bool
  loose : Nat
structure Fx where
  C : Cx
  h : Hd
  lp : Option Addr
  lc : Nat
  pw : Option Addr
  cw : Nat
  b0 : Nat
  e0 : Nat
  psc : Option Addr
  csc : Nat
  sc : List Nat
  steps : Nat
structure In where
  b : Nat
  e : Nat
  p : Option Addr
  c : Nat
  sc : List Nat
def inc (u : In) : List Value := [I u.b, I u.e, .slice u.p u.sc.length u.c]
def inCells (l : List In) : List Value := l.flatMap inc
def wcs (F : Fx) (s : WS) (pi : Option Addr) (ni ci : Nat) : Array Value :=
  #[.int .i64 F.h.args, .int .i64 F.h.temps, .int .i64 F.h.stack, .slice F.lp F.C.lits F.lc, .slice F.pw F.C.ws.length F.cw, .int .i64 F.C.b.fields, .int .i64 F.C.b.classes, .int .i64 F.C.b.globals, .int .i64 F.C.b.symbols,
    I F.b0, I F.e0, .slice F.psc F.sc.length F.csc, I s.at_, .int .i64 s.dep, I F.steps, .int .i64 s.seed, .bool s.done, .bool s.wild, I s.loose, .slice pi ni ci]
/-- the law's walker, in memory -/
structure WK (w : World) (B x : Nat) (F : Fx) (s : WS) (pi : Option Addr) (ci : Nat) (ins : List In) : Prop where
  top : w.heap[x]? = some (.cells (wcs F s pi ins.length ci) 41 (0, 0))
  base : B ≤ x
  words : Rd w (.slice F.pw F.C.ws.length F.cw) F.C.ws
  wlo : 0 < F.C.ws.length → ∀ g, (Value.slice F.pw F.C.ws.length F.cw).ownBlock = some g → g < B
  scs : Rd w (.slice F.psc F.sc.length F.csc) (zN F.sc)
  slo : 0 < (zN F.sc).length → ∀ g, (Value.slice F.psc F.sc.length F.csc).ownBlock = some g → g < B
  inr : w.ownsRow B 37 3 (.slice pi ins.length ci) ins.length (inCells ins)
  ink : ∀ u ∈ ins, w.ownsRow B 3 1 (.slice u.p u.sc.length u.c) u.sc.length (u.sc.map I)
  n4 : F.C.ws.length ≤ 4096
  en : F.e0 ≤ F.C.ws.length
  sc1 : 1 ≤ F.sc.length
  sc25 : F.sc.length ≤ 25
  sc32 : ∀ y ∈ F.sc, y ≤ 32
  at4 : s.at_ ≤ 4096
  lo4 : s.loose ≤ 5000
  il : ins.length ≤ 100000
  dp : 0 ≤ s.dep ∧ s.dep ≤ 300
  stk : 0 ≤ F.h.stack ∧ F.h.stack ≤ 256
section
variable {w : World} {B x : Nat} {F : Fx} {s : WS} {pi : Option Addr} {ci : Nat} {ins : List In}
theorem WK.keep {w' : World} (h : WK w B x F s pi ci ins) {S : List Nat} (hf : Fr S w w') (hx : x ∉ S) (hi : ∀ g ∈ blk pi, g ∉ S) (hu : ∀ u ∈ ins, ∀ g ∈ blk u.p, g ∉ S) (hS : ∀ g ∈ S, B ≤ g) : WK w' B x F s pi ci ins :=
  ⟨(hf.block x (lt_of_heap h.top) hx).trans h.top, h.base, h.words.keep hf fun hp g hg hm => by have := h.wlo hp g hg; have := hS g hm; omega, h.wlo, h.scs.keep hf fun hp g hg hm => by have := h.slo hp g hg; have := hS g hm; omega, h.slo,
    own_congr h.inr fun g hg => hf.block g (own_lt h.inr g hg).2 (hi g ((blk_own _ _ _ _).1 hg)), fun u hm => own_congr (h.ink u hm) fun g hg => hf.block g (own_lt (h.ink u hm) g hg).2 (hu u hm g ((blk_own _ _ _ _).1 hg)), h.n4, h.en, h.sc1, h.sc25, h.sc32, h.at4, h.lo4, h.il, h.dp, h.stk⟩
theorem WK.idle {w' : World} (h : WK w B x F s pi ci ins) (hf : Fr [] w w') : WK w' B x F s pi ci ins := h.keep hf (by simp) (by simp) (fun _ _ _ _ => by simp) (by simp)
theorem WK.ine (h : WK w B x F s pi ci ins) : ∀ g ∈ blk pi, g ≠ x := fun g hg e => by
  obtain ⟨c, hc⟩ := row_block h.inr ((blk_own pi ins.length ci g).2 hg)
  exact ty_ne hc h.top (by decide) e
theorem WK.une (h : WK w B x F s pi ci ins) : ∀ u ∈ ins, ∀ g ∈ blk u.p, g ≠ x := fun u hu g hg e => by
  obtain ⟨c, hc⟩ := row_block (h.ink u hu) ((blk_own u.p u.sc.length u.c g).2 hg)
  exact ty_ne hc h.top (by decide) e
/-- one of its cells is written -/
theorem WK.set (h : WK w B x F s pi ci ins) (i : Nat) (v : Value) (s2 : WS) (ht : (wcs F s pi ins.length ci).setIfInBounds i v = wcs F s2 pi ins.length ci) (ha : s2.at_ ≤ 4096) (hl : s2.loose ≤ 5000) (hd : 0 ≤ s2.dep ∧ s2.dep ≤ 300) : WK (w.setCell ⟨x, i, none⟩ v) B x F s2 pi ci ins ∧ Fr [x] w (w.setCell ⟨x, i, none⟩ v) := by
  have f : Fr [x] w (w.setCell ⟨x, i, none⟩ v) := Fr.setCell (S := [x]) w ⟨x, i, none⟩ v (by simp)
  have hS : ∀ g ∈ [x], B ≤ g := fun g hg => by simp at hg; rw [hg]; exact h.base
  exact ⟨⟨by rw [set_in h.top i v, ht], h.base, h.words.keep f fun hp g hg hm => by have := h.wlo hp g hg; have := hS g hm; omega, h.wlo, h.scs.keep f fun hp g hg hm => by have := h.slo hp g hg; have := hS g hm; omega, h.slo,
    own_congr h.inr fun g hg => f.block g (own_lt h.inr g hg).2 (by simp; exact h.ine g ((blk_own _ _ _ _).1 hg)), fun u hm => own_congr (h.ink u hm) fun g hg => f.block g (own_lt (h.ink u hm) g hg).2 (by simp; exact h.une u hm g ((blk_own _ _ _ _).1 hg)), h.n4, h.en, h.sc1, h.sc25, h.sc32, ha, hl, h.il, hd, h.stk⟩, f⟩
theorem WK.cell (h : WK w B x F s pi ci ins) (i : Nat) : w.cell? ⟨x, i, none⟩ = (wcs F s pi ins.length ci)[i]? := cell_in h.top i
theorem WK.fz (h : WK w B x F s pi ci ins) (i : Nat) : w.frozen? ⟨x, i, none⟩ = false := frozen_in h.top i
set_option maxRecDepth 100000 in
set_option maxHeartbeats 2000000 in
theorem word_ok (h : WK w B x F s pi ci ins) (i : Nat) (hi : s.at_ + i < F.e0) (hi4 : i ≤ 4) : Calls Tryd.prog 28 #[.pointer (some ⟨x, 0, none⟩), .int .i64 i] w fun e w' => e = .returned (.int .i64 (F.C.w (s.at_ + i))) ∧ ∃ n, w' = w.drewN n := by
  have a4 := h.at4
  have n4 := h.n4
  have en := h.en
  obtain ⟨p, c, ew, hw⟩ := h.words.at_
  obtain ⟨g, off, e2, hg, hwc⟩ := hw (by omega)
  have x0 := hwc (s.at_ + i) (by omega)
  have x0 : w.cell? ⟨g, off + (s.at_ + i), none⟩ = some (.int .i64 (F.C.w (s.at_ + i))) := x0
  injection ew with e3 _ e4
  have c4 : w.cell? ⟨x, 4, none⟩ = some (.slice (some ⟨g, off, none⟩) F.C.ws.length F.cw) := by rw [h.cell 4]; show some (Value.slice F.pw F.C.ws.length F.cw) = _; rw [e3, e2]
  have c10 : w.cell? ⟨x, 10, none⟩ = some (.int .i64 (F.e0 : Int)) := h.cell 10
  have c12 : w.cell? ⟨x, 12, none⟩ = some (.int .i64 (s.at_ : Int)) := h.cell 12
  generalize F.C.w (s.at_ + i) = z at *
  generalize s.at_ = at_ at *
  generalize F.e0 = en0 at *
  generalize F.C.ws.length = nn at *
  have h1 : (at_ : Int) + (i : Int) < (en0 : Int) := by omega
  have h2 : decide ((en0 : Int) ≤ (at_ : Int) + (i : Int)) = false := decide_eq_false (by omega)
  have h3 : (at_ : Int) + (i : Int) < (nn : Int) := by omega
  have h4 : (0 : Int) ≤ (at_ : Int) + (i : Int) := by omega
  have hwr : IntKind.i64.wrap ((at_ : Int) + (i : Int)) = (at_ : Int) + (i : Int) := iwrap_id (by omega) (by omega)
  have htn : ((at_ : Int) + (i : Int)).toNat = at_ + i := by omega
  clear h hw hwc e2 e3 e4 hi
  go_enter Tryd.func28, Tryd.ntmps28
  go_wp2_with fail
  go_quiet (fail)
  go_wp2_with fail
  obtain ⟨W, hW⟩ : ∃ W, w.drewN nq = W := ⟨_, rfl⟩
  rw [hW]
  have c4 : W.cell? ⟨x, 4, none⟩ = some (.slice (some ⟨g, off, none⟩) nn F.cw) := by rw [← hW]; exact c4
  have c12 : W.cell? ⟨x, 12, none⟩ = some (.int .i64 (at_ : Int)) := by rw [← hW]; exact c12
  have x0 : W.cell? ⟨g, off + (at_ + i), none⟩ = some (.int .i64 z) := by rw [← hW]; exact x0
  have HW := mkHid hW
  clear hW
  go_quiet (fail)
  go_wp2_with fail
  go_ret
  exact ⟨rfl, _, by rw [← HW.out, World.drewN_drewN]⟩
set_option maxHeartbeats 400000 in
theorem needs_ok (x : Nat) (w : World) : Calls Tryd.prog 30 #[.pointer (some ⟨x, 0, none⟩), .bool true] w fun e w' => e = .returned (.tuple #[]) ∧ w' = w := by
  go_enter Tryd.func30, Tryd.ntmps30
  go_wp2_with fail
  go_end0
  exact ⟨rfl, rfl⟩
set_option maxRecDepth 100000 in
set_option maxHeartbeats 2000000 in
theorem moves_ok (h : WK w B x F s pi ci ins) (t l : Nat) (h1 : (t : Int) ≤ s.dep) (h2 : s.dep - t + l ≤ F.h.stack) : Calls Tryd.prog 32 #[.pointer (some ⟨x, 0, none⟩), .int .i64 t, .int .i64 l] w fun e w' => e = .returned (.tuple #[]) ∧ Fr [x] w w' ∧ WK w' B x F ⟨s.at_, s.dep - t + l, s.seed, s.done, s.wild, s.loose⟩ pi ci ins := by
  obtain ⟨dp1, dp2⟩ := h.dp
  obtain ⟨sk1, sk2⟩ := h.stk
  have c13 : w.cell? ⟨x, 13, none⟩ = some (.int .i64 s.dep) := h.cell 13
  have c2 : w.cell? ⟨x, 2, none⟩ = some (.int .i64 F.h.stack) := h.cell 2
  have f13 := h.fz 13
  have hA := h.set 13 (.int .i64 (s.dep - t)) ⟨s.at_, s.dep - t, s.seed, s.done, s.wild, s.loose⟩ rfl h.at4 h.lo4 ⟨by show 0 ≤ s.dep - t; omega, by show s.dep - t ≤ 300; omega⟩
  have HB2 : Hid (∀ V, WK V B x F ⟨s.at_, s.dep - t, s.seed, s.done, s.wild, s.loose⟩ pi ci ins → WK (V.setCell ⟨x, 13, none⟩ (.int .i64 (s.dep - t + l))) B x F ⟨s.at_, s.dep - t + l, s.seed, s.done, s.wild, s.loose⟩ pi ci ins ∧ Fr [x] V (V.setCell ⟨x, 13, none⟩ (.int .i64 (s.dep - t + l)))) := fun V hV => hV.set 13 _ ⟨s.at_, s.dep - t + l, s.seed, s.done, s.wild, s.loose⟩ rfl hV.at4 hV.lo4 ⟨by show 0 ≤ s.dep - t + l; omega, by show s.dep - t + l ≤ 300; omega⟩
  have HA := mkHid hA
  obtain ⟨st, hst⟩ : ∃ st, F.h.stack = st := ⟨_, rfl⟩
  rw [hst] at c2 h2 sk1 sk2
  have HSt := mkHid hst
  clear hst
  generalize s.dep = d at *
  have q1 : ¬ d - (t : Int) < 0 := by omega
  have q2 : decide (st < d - (t : Int) + (l : Int)) = false := decide_eq_false (by omega)
  have q3 : ¬ st < d - (t : Int) + (l : Int) := by omega
  have q4 : decide (d - (t : Int) < 0) = false := decide_eq_false q1
  clear h hA
  go_enter Tryd.func32, Tryd.ntmps32
  go_wp2_with fail
  obtain ⟨W, hW⟩ : ∃ W, (w.setCell ⟨x, 13, none⟩ (.int .i64 (d - (t : Int)))).setCell ⟨x, 13, none⟩ (.int .i64 (d - (t : Int) + (l : Int))) = W := ⟨_, rfl⟩
  rw [hW]
  have HZ := HB2.out _ HA.out.1
  rw [hW] at HZ
  have HZ1 := mkHid HZ.1
  have HF : Hid (Fr [x] w W) := HA.out.2.trans HZ.2 (fun b hb => .inl hb)
  have c13 : W.cell? ⟨x, 13, none⟩ = some (.int .i64 (d - (t : Int) + (l : Int))) := HZ.1.cell 13
  have c2 : W.cell? ⟨x, 2, none⟩ = some (.int .i64 F.h.stack) := HZ.1.cell 2
  rw [HSt.out] at c2
  clear hW HZ HB2 HA
  go_quiet (fail)
  go_wp2_with fail
  go_end0
  exact ⟨rfl, HF.out.trans (Fr.drewN [x] W _) (by simp), HZ1.out.idle (Fr.drewN [] W _)⟩
set_option maxHeartbeats 1000000 in
theorem slot_ok (h : WK w B x F s pi ci ins) (o i : Int) (hs : isSlotP F.sc o i = true) : Calls Tryd.prog 51 #[.pointer (some ⟨x, 0, none⟩), .int .i64 o, .int .i64 i] w fun e w' => e = .returned (.bool true) ∧ w' = w := by
  have hs' := hs
  unfold isSlotP inR bel at hs'
  simp at hs'
  obtain ⟨⟨o1, o2⟩, i1, i2⟩ := hs'
  obtain ⟨m, rfl⟩ := Int.eq_ofNat_of_zero_le o1
  rw [Int.toNat_natCast] at i2
  have s1 := h.sc1
  have s25 := h.sc25
  obtain ⟨p, c, ew, hw⟩ := h.scs.at_
  obtain ⟨g, off, e2, hg, hwc⟩ := hw (by rw [zN_len]; omega)
  have x0 := hwc (F.sc.length - 1 - m) (by rw [zN_len]; omega)
  have e5 : (zN F.sc).getD (F.sc.length - 1 - m) 0 = ((F.sc.getD (F.sc.length - 1 - m) 0 : Nat) : Int) := by
    unfold zN
    rw [List.getD_eq_getElem?_getD, List.getElem?_map, List.getD_eq_getElem?_getD, List.getElem?_eq_getElem (by omega)]; rfl
  rw [e5] at x0
  injection ew with e3 e9 e4
  have c11 : w.cell? ⟨x, 11, none⟩ = some (.slice (some ⟨g, off, none⟩) F.sc.length F.csc) := by rw [h.cell 11]; show some (Value.slice F.psc F.sc.length F.csc) = _; rw [e3, e2]
  have i2 : i < ((F.sc.getD (F.sc.length - 1 - m) 0 : Nat) : Int) := by rw [List.getD_eq_getElem?_getD]; exact i2
  clear e9 e3 e2 e4 hw hwc hs e5
  generalize F.sc.getD (F.sc.length - 1 - m) 0 = u at *
  clear h
  generalize F.sc.length = nn at *
  have o3 : (m : Int) ≤ (nn : Int) - 1 := by omega
  have o4 : (0 : Int) ≤ (nn : Int) - 1 - (m : Int) := by omega
  have o5 : (nn : Int) - 1 - (m : Int) < (nn : Int) := by omega
  go_enter Tryd.func51, Tryd.ntmps51
  go_wp2_with fail
  go_ret
  exact ⟨rfl, rfl⟩
end
set_option maxHeartbeats 2000000 in
theorem size_ok (n : Nat) (w : World) (h1 : 1 ≤ n) (h2 : n ≤ 28) : Calls Tryd.prog 29 #[.int .i64 n] w fun e w' => e = .returned (.int .i64 (1 + (shp n).opd : Nat)) ∧ w' = w := by
  rcases (show n = 1 ∨ n = 2 ∨ n = 3 ∨ n = 4 ∨ n = 5 ∨ n = 6 ∨ n = 7 ∨ n = 8 ∨ n = 9 ∨ n = 10 ∨ n = 11 ∨ n = 12 ∨ n = 13 ∨ n = 14 ∨ n = 15 ∨ n = 16 ∨ n = 17 ∨ n = 18 ∨ n = 19 ∨ n = 20 ∨ n = 21 ∨ n = 22 ∨ n = 23 ∨ n = 24 ∨ n = 25 ∨ n = 26 ∨ n = 27 ∨ n = 28 by omega) with rfl | rfl | rfl | rfl | rfl | rfl | rfl | rfl | rfl | rfl | rfl | rfl | rfl | rfl | rfl | rfl | rfl | rfl | rfl | rfl | rfl | rfl | rfl | rfl | rfl | rfl | rfl | rfl
  all_goals clear h1 h2
  all_goals go_enter Tryd.func29, Tryd.ntmps29
  all_goals go_wp2_with fail
  all_goals go_ret
  all_goals exact ⟨rfl, rfl⟩
end Go.Proofs.YtdflpoldlokijaaDoor
