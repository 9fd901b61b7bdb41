import Derived.Test.YtimlomobbnnehaaDoorLAllD
import Derived.Test.YtimlomobbnnehaaDoorLSame
namespace Go.Proofs.YtimlomobbnnehaaDoor
open Go.RowKit Go.Maps
set_option linter.unusedVariables false
set_option linter.unusedSimpArgs false
def mkV (k a : Nat) : Value := if k = 0 then tv 0 [] 0 0 a else tv k [] 0 a (a + 1)
def markR (l : Bs) (a : Nat) : Value := if hd l = 58 ∧ hd (l.drop 1) = 61 then tv 14 [] 0 a (a + 2) else mkV (markK (hd l)) a
set_option maxHeartbeats 8000000 in
set_option maxRecDepth 1000000 in
theorem rMark_ok (s : ByteArray) (a : Nat) (w : World) (ha : a < s.size) (hs : s.size ≤ 140737488355328) : Calls Tryd.prog 48 #[.string s, .int .i64 a] w fun e w' =>
    e = .returned (markR ((lst s).drop a) a) ∧ Bl w w' := by
  have h1 := fun w => rIs_ok s a 58 w hs (by omega)
  have h2 := fun w => rIs_ok s (a + 1) 61 w hs (by omega)
  have hai : (a : Int) < s.size := by omega
  have hb := get_lst s a ha
  obtain ⟨W, hW⟩ : ∃ W, W = w.alloc (.cells #[.int .i64 0, .string ⟨#[]⟩, .int .i64 0, .int .i64 0] 41) := ⟨_, rfl⟩
  have HB : Hid (Bl w W) := by rw [hW]; exact Bl.alloc _ _
  have HR : Hid (W.heap[w.heap.size]? = some z4) := by rw [hW]; exact heap_alloc_new w _
  obtain ⟨r0, r1, r2, r3, y0, y1, y2, y3⟩ := resF HR.out
  by_cases cA : hd ((lst s).drop a) = 58 ∧ hd (((lst s).drop a).drop 1) = 61
  · have HQ : Hid (markR ((lst s).drop a) a = tv 14 [] 0 a (a + 2)) := by unfold Hid markR; rw [if_pos cA]
    rw [decide_eq_true cA.1] at h1
    rw [← List.drop_drop, decide_eq_true cA.2] at h2
    have h1 : ∀ w, Calls Tryd.prog 43 #[.string s, .int .i64 a, .int .u8 58] w fun e w' => e = .returned (.bool true) ∧ w' = w := h1
    have h2 : ∀ w, Calls Tryd.prog 43 #[.string s, .int .i64 ((a : Int) + 1), .int .u8 61] w fun e w' => e = .returned (.bool true) ∧ w' = w := h2
    rw [HQ.out]
    clear cA hb
    go_enter Tryd.func48, Tryd.ntmps48
    go_wp2_with (first | (go_at_call 43; with_reducible refine (h1 _).mono ?_; rintro e w1 ⟨rfl, rfl⟩; rw [← hW]; clear hW) | (go_at_call 43; with_reducible refine (h2 _).mono ?_; rintro e w2 ⟨rfl, h⟩; have h3 := h.symm; subst h3))
    exact ret4b 14 [] 0 a (a + 2) Tryd.results48 HR.out HB.out (Nat.le_refl _) rfl (by simp) rfl rfl rfl rfl
  · have hQ : markR ((lst s).drop a) a = mkV (markK (hd ((lst s).drop a))) a := by unfold markR; rw [if_neg cA]
    rw [hQ]
    have hcond : (hd ((lst s).drop a) = 58 ∧ hd ((lst s).drop (a + 1)) ≠ 61) ∨ hd ((lst s).drop a) ≠ 58 := by
      by_cases c1 : hd ((lst s).drop a) = 58
      · left
        refine ⟨c1, fun c2 => cA ⟨c1, ?_⟩⟩
        rw [List.drop_drop]; exact c2
      · right; exact c1
    have h2 : ∀ w, Calls Tryd.prog 43 #[.string s, .int .i64 ((a : Int) + 1), .int .u8 61] w fun e w' => e = .returned (.bool (decide (hd ((lst s).drop (a + 1)) = 61))) ∧ w' = w := h2
    have h1 : ∀ w, Calls Tryd.prog 43 #[.string s, .int .i64 a, .int .u8 58] w fun e w' => e = .returned (.bool (decide (hd ((lst s).drop a) = 58))) ∧ w' = w := h1
    have hloop : ∀ tm : Array Value, True := fun _ => trivial
    rw [hb]
    obtain ⟨K0, hK0⟩ : ∃ K0, K0 = markK (s[a]'ha).toNat := ⟨_, rfl⟩
    have HM : Hid (∀ k, k < 9 → mkB k = (s[a]'ha).toNat → K0 = kdM k) := mkHid fun k hk he => by rw [hK0, ← he]; exact mkB_kd k hk
    have HN : Hid ((∀ k, k < 9 → mkB k ≠ (s[a]'ha).toNat) → K0 = 0) := mkHid (fun h => by rw [hK0]; exact mkB_no _ h)
    rw [← hK0]
    clear hK0
    have HP : Hid (∀ k, k < 9 → kdM k ≠ 0) := mkHid (nine (by decide) (by decide) (by decide) (by decide) (by decide) (by decide) (by decide) (by decide) (by decide))
    rcases hcond with ⟨c1, c2⟩ | c1
    all_goals
      first
        | rw [decide_eq_true c1] at h1; rw [decide_eq_false c2] at h2; clear c1 c2
        | rw [decide_eq_false c1] at h1; clear c1
      clear hb hQ cA
      go_enter Tryd.func48, Tryd.ntmps48
      go_wp2_with (first | (go_at_call 43; with_reducible refine (h1 _).mono ?_; rintro e w1 ⟨rfl, rfl⟩) | (go_at_call 43; with_reducible refine (h2 _).mono ?_; rintro e w2 ⟨rfl, rfl⟩))
      rw [← hW]
      clear hW
      go_loopw [6] (fun q wr => ∃ k : Nat, k ≤ 9 ∧ q = .int .i64 k ∧ Hid (∃ m, wr = W.drewN m) ∧ Hid (∀ j, j < k → mkB j ≠ (s[a]'ha).toNat)) (fun q _ => 9 - (intOf q).toNat)
      case atStart => exact ⟨0, by omega, rfl, ⟨0, rfl⟩, fun j h => by omega⟩
      case round =>
        obtain ⟨k, hk, rfl, hbq, hj⟩ := hrel
        have hbl : Hid (∀ n, Bl W (wr.drewN n)) := fun n => by obtain ⟨m, rfl⟩ := hbq.out; exact (Bl.drewN W m).trans (Bl.drewN _ n)
        have hnx : Hid (∀ n, ∃ m, wr.drewN n = W.drewN m) := fun n => by obtain ⟨m, rfl⟩ := hbq.out; exact ⟨m + n, by simp [World.drewN, Nat.add_assoc]⟩
        by_cases hlt : k < 9
        · have hki : (k : Int) < 9 := by omega
          have hg := mkG k hlt
          by_cases he : mkB k = (s[a]'ha).toNat
          · have hx : (((⟨#[40, 41, 91, 93, 124, 58, 94, 46, 59]⟩ : ByteArray)[k]'hlt).toNat : Int) = (s[a]'ha).toNat := by rw [hg, he]
            have HK := mkHid (HM.out k hlt he)
            have HZ := mkHid (HP.out k hlt)
            clear he hg
            go_wp2_with fail
            go_quiet (fail)
            go_wp2_with (go_at_call 58; refine (rKinds_ok k _ hlt).mono ?_; rintro e w3 ⟨rfl, b3⟩; have bb3 := (hbl.out _).trans b3; have hr3 := (bb3.block _ (lt_of_heap HR.out)).trans HR.out; have bb4 := HB.out.trans bb3; obtain ⟨r0, r1, r2, r3, y0, y1, y2, y3⟩ := resF hr3)
            rw [HK.out, show mkV (kdM k) a = tv (kdM k) [] 0 a (a + 1) from if_neg HZ.out]
            exact ret4b (kdM k) [] 0 a (a + 1) Tryd.results48 hr3 bb4 (Nat.le_refl _) rfl (by simp) rfl rfl rfl rfl
          · have hx : ¬ (((⟨#[40, 41, 91, 93, 124, 58, 94, 46, 59]⟩ : ByteArray)[k]'hlt).toNat : Int) = (s[a]'ha).toNat := by rw [hg]; omega
            have HJ : Hid (∀ j, j < k + 1 → mkB j ≠ (s[a]'ha).toNat) := mkHid fun j h => by
              by_cases hjk : j < k
              · exact hj.out j hjk
              · have : j = k := by omega
                subst this; exact he
            clear he hg
            go_wp2_with fail
            go_quiet (fail)
            go_wp2_with fail
            go_roundw
            case rel => exact ⟨k + 1, by omega, by simp, hnx.out _, HJ.out⟩
            case measure => simp [intOf]; omega
        · have hke : k = 9 := by omega
          subst hke
          have HZ := mkHid (HN.out hj.out)
          have hb0 := hbl.out 0
          have hr0 := (hb0.block _ (lt_of_heap HR.out)).trans HR.out
          have hr0 : wr.heap[w.heap.size]? = some z4 := hr0
          have hb1 : Hid (Bl w wr) := HB.out.trans hb0
          obtain ⟨r0, r1, r2, r3, y0, y1, y2, y3⟩ := resF hr0
          have hr0 := mkHid hr0
          clear hb0
          go_wp2_with fail
          go_wp2_with fail
          rw [HZ.out, show mkV 0 a = tv 0 [] 0 0 a from rfl]
          exact ret4b 0 [] 0 0 a Tryd.results48 hr0.out hb1.out (Nat.le_refl _) rfl rfl rfl rfl rfl rfl
end Go.Proofs.YtimlomobbnnehaaDoor
