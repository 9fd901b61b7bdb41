import Derived.Test.YtimlomobbnnehaaGreatDoorG16LRefD
import Derived.BigQuiet
import Derived.Lib.ItoaLen
namespace Go.Proofs.YtimlomobbnnehaaGreatDoor
open Go.RowKit Go.Maps
set_option linter.unusedVariables false
set_option linter.unusedSimpArgs false
def mayB (k : Int) (x : Bs) (m : Int) : Bool := decide (canZ k x m ∧ k ≠ 18)
theorem ite_len {p : Prop} [Decidable p] {a b : Bs} {n : Nat} (ha : a.length ≤ n) (hb : b.length ≤ n) : (if p then a else b).length ≤ n := by split <;> assumption
theorem shw_len (k : Int) (x : Bs) (m : Int) (hx : x.length ≤ 268435456) (hi : (Lib.itoa m).length ≤ 21) : (shw k x m).length ≤ 2 * x.length + 21 := by
  have hq := qt_len x
  unfold shw
  refine ite_len (by omega) (ite_len (by simp; omega) (ite_len (by omega) (ite_len (by simp; omega) (ite_len (by simp; omega) (ite_len (by simp) (ite_len (by simp) (ite_len (by simp) (ite_len (by simp) (ite_len (by simp) (ite_len (by simp) (ite_len (by simp) (ite_len (by simp) (ite_len (by simp) (ite_len (by simp) (ite_len (by simp) (by simp))))))))))))))))
theorem own_two {w : World} {base : Nat} {v : Value} {t u : Tok × Nat} (h : w.ownsRow base 28 4 v [t, u].length (tcs [t, u])) : ∃ g cap, v = .slice (some ⟨g, 0, none⟩) 2 cap ∧ 2 ≤ cap := by
  rcases h.2 with ⟨rfl, h2⟩ | ⟨g, cap, cur, rfl, h1, h2, h3, h4, h5, h6⟩
  · cases h2
  · exact ⟨g, cap, rfl, h3⟩
theorem own_sl {w : World} {base : Nat} {v : Value} {n : Nat} {xs : List Value} (h : w.ownsRow base 28 4 v n xs) : ∃ p c, v = .slice p n c := by
  rcases h.2 with ⟨rfl, h2⟩ | ⟨g', cap, cur, rfl, h1, h2, h3⟩
  · exact ⟨none, 0, by rw [h2]⟩
  · exact ⟨_, _, rfl⟩
theorem own_bl' {w w' : World} {base : Nat} {v : Value} {n : Nat} {xs : List Value} (h : w.ownsRow base 28 4 v n xs) (b : Bl w w') : w'.ownsRow base 28 4 v n xs :=
  ownR_congr h (fun g hg => b.block g (own_block h hg).2) (Nat.le_refl _)
theorem two_cells {w : World} {base g cap : Nat} {t u : Tok × Nat} (h : w.ownsRow base 28 4 (.slice (some ⟨g, 0, none⟩) 2 cap) [t, u].length (tcs [t, u])) :
    w.cell? ⟨g, 0, none⟩ = some (.int .i64 t.1.kind) ∧ w.cell? ⟨g, 1, none⟩ = some (.string (ba t.1.text)) ∧ w.cell? ⟨g, 2, none⟩ = some (.int .i64 t.1.num) ∧ w.cell? ⟨g, 3, none⟩ = some (.int .i64 t.2) := by
  have := (RdT.own h).cells 0 (by simp)
  exact this
set_option maxHeartbeats 16000000 in
set_option maxRecDepth 1000000 in
theorem rMay_ok (k : Int) (x : Bs) (m a : Int) (w : World) (hP : Pw w) (hx : x.length ≤ 268435456) (h0 : -9223372036854775808 ≤ m) (h1 : m ≤ 9223372036854775807) :
    Calls Tryz.prog 20 #[.agg #[.int .i64 k, .string (ba x), .int .i64 m, .int .i64 a]] w fun e w' => e = .returned (.bool (mayB k x m)) ∧ Bl w w' := by
  obtain ⟨W, hW⟩ : ∃ W, W = w.alloc (.cells #[.int .i64 k, .string (ba x), .int .i64 m, .int .i64 a] 28) := ⟨_, rfl⟩
  have HB : Hid (Bl w W) := by rw [hW]; exact Bl.alloc _ _
  have HR : Hid (W.heap[w.heap.size]? = some (.cells #[.int .i64 k, .string (ba x), .int .i64 m, .int .i64 a] 28 (0, 0))) := by rw [hW]; exact heap_alloc_new w _
  have HC : Hid (∀ V, Bl W V → V.cell? ⟨w.heap.size, 0, none⟩ = some (.int .i64 k) ∧ V.cell? ⟨w.heap.size, 1, none⟩ = some (.string (ba x)) ∧ V.cell? ⟨w.heap.size, 2, none⟩ = some (.int .i64 m) ∧ V.cell? ⟨w.heap.size, 3, none⟩ = some (.int .i64 a)) := mkHid fun V b => by
    have : V.heap[w.heap.size]? = some (.cells #[.int .i64 k, .string (ba x), .int .i64 m, .int .i64 a] 28 (0, 0)) := (b.block _ (lt_of_heap HR.out)).trans HR.out
    exact ⟨by rw [cell_in this]; rfl, by rw [cell_in this]; rfl, by rw [cell_in this]; rfl, by rw [cell_in this]; rfl⟩
  obtain ⟨y0, y1, y2, y3⟩ := HC.out W (Bl.refl _)
  have HS := mkHid (fun V (b : Bl w V) => rShown_ok k x m a V (hP.mono b) (by omega) h0 h1)
  have hsl := shw_len k x m hx (Lib.itoa_length_le m h0 h1)
  have HAl := mkHid (fun V => rAll_ok (ba (shw k x m)) V (by rw [← lst_len, lst_ba]; omega))
  rw [lst_ba] at HAl
  have HY := mkHid (fun (h : canZ k x m ∧ k ≠ 18) => may_yes h.1 h.2)
  have HN : Hid (∀ (ts : List (Tok × Nat)) (a : Nat) (t : Tok) (p q : Nat) (u : Tok), AllR (shw k x m) ts 0 a → ts = [(t, p), (u, q)] → (t.kind : Int) = k → t.text = x → (t.num : Int) = m → canZ k x m ∧ k ≠ 18) := mkHid (fun ts a t p q u h => may_no h)
  obtain ⟨S, hS⟩ : ∃ S, S = shw k x m := ⟨_, rfl⟩
  rw [← hS] at HS HAl HY HN
  have HSz : Hid ((ba S).size = S.length) := by unfold Hid; rw [← lst_len, lst_ba]
  clear hS hsl hP hx h0 h1
  by_cases hG : canZ k x m ∧ k ≠ 18
  · have HM : Hid (mayB k x m = true) := mkHid (decide_eq_true hG)
    obtain ⟨t, e1, e2, e3, hne, hA⟩ := HY.out hG
    have hE : (ba S).toList.isEmpty = false := not_empty_of (fun h => hne (List.length_eq_zero_iff.1 (by rw [← HSz.out]; exact h)))
    have HU : Hid (∀ ts c b, AllR S ts c b → ts = [(t, 0), (stopT, S.length)] ∧ c = 0 ∧ b = 0) := mkHid (fun ts c b h => hA.unique h)
    have e1 := mkHid e1
    have e2 := mkHid e2
    have e3 := mkHid e3
    clear hne hA hG HN HY
    go_enter Tryz.func20, Tryz.ntmps20
    go_wp2_with (go_at_call 21; fail)
    rw [← hW]
    clear hW
    go_wp2_with (first
      | (go_at_call 21; refine (HS.out _ HB.out).mono ?_; rintro e w1 ⟨rfl, b1⟩; have B1 := mkHid b1; clear b1)
      | (go_at_call 34; refine (HAl.out _).mono ?_; rintro e w2 ⟨v, ts, c, b, rfl, hA, ho, b2⟩
         obtain ⟨rfl, rfl, rfl⟩ := HU.out _ _ _ hA
         have B2 := mkHid (B1.out.trans b2)
         have B3 := mkHid (B2.out.trans (Bl.alloc w2 (.cells #[.int .i64 0, .int .i64 0] 38)))
         obtain ⟨z0, z1, z2, z3⟩ := HC.out _ B3.out
         obtain ⟨g, cap, rfl, hcp⟩ := own_two ho
         obtain ⟨c0, c1, c2, c3⟩ := two_cells (own_bl' ho (Bl.alloc w2 (.cells #[.int .i64 0, .int .i64 0] 38)))
         rw [e1.out] at c0
         rw [e2.out] at c1
         rw [e3.out] at c2
         clear hA b2 ho))
    go_quiet (fail)
    go_wp2_with fail
    go_ret
    exact ⟨by rw [HM.out]; rfl, HB.out.trans (B3.out.trans (Bl.drewN _ _))⟩
  · have HM : Hid (mayB k x m = false) := mkHid (decide_eq_false hG)
    have HG := mkHid hG
    clear hG HY
    by_cases hS0 : (ba S).size = 0
    · have hE : (ba S).toList.isEmpty = true := isEmpty_of hS0
      clear hS0 HN
      go_enter Tryz.func20, Tryz.ntmps20
      go_wp2_with (go_at_call 21; fail)
      rw [← hW]
      clear hW
      go_wp2_with (first
        | (go_at_call 21; refine (HS.out _ HB.out).mono ?_; rintro e w1 ⟨rfl, b1⟩; have B1 := mkHid b1; clear b1))
      go_ret
      exact ⟨by rw [HM.out]; rfl, HB.out.trans B1.out⟩
    · have hE : (ba S).toList.isEmpty = false := not_empty_of hS0
      clear hS0
      go_enter Tryz.func20, Tryz.ntmps20
      go_wp2_with (go_at_call 21; fail)
      rw [← hW]
      clear hW
      go_wp2_with (first
        | (go_at_call 21; refine (HS.out _ HB.out).mono ?_; rintro e w1 ⟨rfl, b1⟩; have B1 := mkHid b1; clear b1)
        | (go_at_call 34; refine (HAl.out _).mono ?_; rintro e w2 ⟨v, ts, c, b, rfl, hA, ho, b2⟩
           have B2 := mkHid (B1.out.trans b2)
           have B3 := mkHid (B2.out.trans (Bl.alloc w2 (.cells #[.int .i64 c, .int .i64 b] 38)))
           obtain ⟨z0, z1, z2, z3⟩ := HC.out _ B3.out
           have HO := mkHid ho
           have HA := mkHid hA
           clear hA b2 ho))
      obtain ⟨p, cap, rfl⟩ := own_sl HO.out
      by_cases hc0 : c = 0
      · subst hc0
        have B3 : Hid (Bl W (w2.alloc (.cells #[.int .i64 0, .int .i64 b] 38))) := B3
        clear z0 z1 z2 z3
        obtain ⟨z0, z1, z2, z3⟩ := HC.out _ B3.out
        rw [show (((0 : Nat)) : Int) = 0 from rfl]
        by_cases h2 : ts.length = 2
        · obtain ⟨⟨t, tp⟩, ⟨u, q⟩, rfl⟩ : ∃ y z, ts = [y, z] := by
            match ts, h2 with
            | [y, z], _ => exact ⟨y, z, rfl⟩
          obtain ⟨g, cap', e, hcp⟩ := own_two HO.out
          injection e with e1 e2 e3
          subst e1 e3
          obtain ⟨c0, c1, c2, c3⟩ := two_cells (own_bl' HO.out (Bl.alloc w2 (.cells #[.int .i64 0, .int .i64 b] 38)))
          have HF := mkHid (fun (a1 : (t.kind : Int) = k) (a2 : t.text = x) (a3 : (t.num : Int) = m) => HG.out (HN.out _ _ t tp q u HA.out rfl a1 a2 a3))
          dsimp only at c0 c1 c2 c3
          clear h2 e2 HN HG
          rw [show [(t, tp), (u, q)].length = 2 from rfl]
          by_cases a1 : (t.kind : Int) = k
          · rw [a1] at c0
            by_cases a2 : t.text = x
            · rw [a2] at c1
              by_cases a3 : (t.num : Int) = m
              · exact absurd a3 (fun a3 => HF.out a1 a2 a3)
              · have q3 : (((t.num : Int)) == m) = false := beq_eq_false_iff_ne.2 a3
                clear a1 a2 a3 HF
                go_quiet (fail)
                go_wp2_with fail
                go_ret
                exact ⟨by rw [HM.out]; rfl, HB.out.trans (B3.out.trans (Bl.drewN _ _))⟩
            · have q2 : ((ba t.text).toList == (ba x).toList) = false := by rw [beq_lst, lst_ba]; exact decide_eq_false a2
              clear a1 a2 HF
              go_quiet (fail)
              go_wp2_with fail
              go_ret
              exact ⟨by rw [HM.out]; rfl, HB.out.trans (B3.out.trans (Bl.drewN _ _))⟩
          · have q1 : (((t.kind : Int)) == k) = false := beq_eq_false_iff_ne.2 a1
            clear a1 HF
            go_quiet (fail)
            go_wp2_with fail
            go_ret
            exact ⟨by rw [HM.out]; rfl, HB.out.trans (B3.out.trans (Bl.drewN _ _))⟩
        · have hl : ((ts.length : Int) == 2) = false := beq_eq_false_iff_ne.2 (by omega)
          go_quiet (fail)
          go_wp2_with fail
          go_ret
          exact ⟨by rw [HM.out]; rfl, HB.out.trans (B3.out.trans (Bl.drewN _ _))⟩
      · have hc : ((c : Int) == 0) = false := beq_eq_false_iff_ne.2 (by omega)
        go_quiet (fail)
        go_wp2_with fail
        go_ret
        exact ⟨by rw [HM.out]; rfl, HB.out.trans (B3.out.trans (Bl.drewN _ _))⟩
end Go.Proofs.YtimlomobbnnehaaGreatDoor
