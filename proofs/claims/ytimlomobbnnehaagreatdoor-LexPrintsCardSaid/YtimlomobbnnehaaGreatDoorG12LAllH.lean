import Derived.Test.YtimlomobbnnehaaGreatDoorLAllD
import Derived.Test.YtimlomobbnnehaaGreatDoorG08LRefA
import Derived.Test.YtimlomobbnnehaaGreatDoorG06LTokC
namespace Go.Proofs.YtimlomobbnnehaaGreatDoor
open Go.RowKit Go.Maps
set_option linter.unusedVariables false
set_option linter.unusedSimpArgs false
def mkV (k a : Nat) : Value := if k = 0 then tv 0 [] 0 0 a else tv k [] 0 a (a + 1)
def markR (l : Bs) (a : Nat) : Value := if hd l = 58 ∧ hd (l.drop 1) = 61 then tv 14 [] 0 a (a + 2) else mkV (markK (hd l)) a
set_option maxHeartbeats 8000000 in
set_option maxRecDepth 1000000 in
theorem rMark_ok (s : ByteArray) (a : Nat) (w : World) (ha : a < s.size) (hs : s.size ≤ 140737488355328) : Calls Tryz.prog 78 #[.string s, .int .i64 a] w fun e w' =>
    e = .returned (markR ((lst s).drop a) a) ∧ Bl w w' := by
  have h1 := fun w => rIs_ok s a 58 w hs (by omega)
  have h2 := fun w => rIs_ok s (a + 1) 61 w hs (by omega)
  have hai : (a : Int) < s.size := by omega
  have hb := get_lst s a ha
  obtain ⟨W, hW⟩ : ∃ W, W = w.alloc (.cells #[.int .i64 0, .string ⟨#[]⟩, .int .i64 0, .int .i64 0] 28) := ⟨_, rfl⟩
  have HB : Hid (Bl w W) := by rw [hW]; exact Bl.alloc _ _
  have HR : Hid (W.heap[w.heap.size]? = some z4) := by rw [hW]; exact heap_alloc_new w _
  obtain ⟨r0, r1, r2, r3, y0, y1, y2, y3⟩ := resF HR.out
  by_cases cA : hd ((lst s).drop a) = 58 ∧ hd (((lst s).drop a).drop 1) = 61
  · have HQ : Hid (markR ((lst s).drop a) a = tv 14 [] 0 a (a + 2)) := by unfold Hid markR; rw [if_pos cA]
    rw [decide_eq_true cA.1] at h1
    rw [← List.drop_drop, decide_eq_true cA.2] at h2
    have h1 : ∀ w, Calls Tryz.prog 73 #[.string s, .int .i64 a, .int .u8 58] w fun e w' => e = .returned (.bool true) ∧ w' = w := h1
    have h2 : ∀ w, Calls Tryz.prog 73 #[.string s, .int .i64 ((a : Int) + 1), .int .u8 61] w fun e w' => e = .returned (.bool true) ∧ w' = w := h2
    rw [HQ.out]
    clear cA hb
    go_enter Tryz.func78, Tryz.ntmps78
    go_wp2_with (first | (go_at_call 73; with_reducible refine (h1 _).mono ?_; rintro e w1 ⟨rfl, rfl⟩; rw [← hW]; clear hW) | (go_at_call 73; with_reducible refine (h2 _).mono ?_; rintro e w2 ⟨rfl, h⟩; have h3 := h.symm; subst h3))
    exact ret4b 14 [] 0 a (a + 2) Tryz.results78 HR.out HB.out (Nat.le_refl _) rfl (by simp) rfl rfl rfl rfl
  · have hQ : markR ((lst s).drop a) a = mkV (markK (hd ((lst s).drop a))) a := by unfold markR; rw [if_neg cA]
    rw [hQ]
    have hcond : (hd ((lst s).drop a) = 58 ∧ hd ((lst s).drop (a + 1)) ≠ 61) ∨ hd ((lst s).drop a) ≠ 58 := by
      by_cases c1 : hd ((lst s).drop a) = 58
      · left
        refine ⟨c1, fun c2 => cA ⟨c1, ?_⟩⟩
        rw [List.drop_drop]; exact c2
      · right; exact c1
    have h2 : ∀ w, Calls Tryz.prog 73 #[.string s, .int .i64 ((a : Int) + 1), .int .u8 61] w fun e w' => e = .returned (.bool (decide (hd ((lst s).drop (a + 1)) = 61))) ∧ w' = w := h2
    have h1 : ∀ w, Calls Tryz.prog 73 #[.string s, .int .i64 a, .int .u8 58] w fun e w' => e = .returned (.bool (decide (hd ((lst s).drop a) = 58))) ∧ w' = w := h1
    have hloop : ∀ tm : Array Value, True := fun _ => trivial
    rw [hb]
    obtain ⟨K0, hK0⟩ : ∃ K0, K0 = markK (s[a]'ha).toNat := ⟨_, rfl⟩
    have HM : Hid (∀ k, k < 9 → mkB k = (s[a]'ha).toNat → K0 = kdM k) := mkHid fun k hk he => by rw [hK0, ← he]; exact mkB_kd k hk
    have HN : Hid ((∀ k, k < 9 → mkB k ≠ (s[a]'ha).toNat) → K0 = 0) := mkHid (fun h => by rw [hK0]; exact mkB_no _ h)
    rw [← hK0]
    clear hK0
    have HP : Hid (∀ k, k < 9 → kdM k ≠ 0) := mkHid (nine (by decide) (by decide) (by decide) (by decide) (by decide) (by decide) (by decide) (by decide) (by decide))
    rcases hcond with ⟨c1, c2⟩ | c1
    all_goals
      first
        | rw [decide_eq_true c1] at h1; rw [decide_eq_false c2] at h2; clear c1 c2
        | rw [decide_eq_false c1] at h1; clear c1
      clear hb hQ cA
      go_enter Tryz.func78, Tryz.ntmps78
      go_wp2_with (first | (go_at_call 73; with_reducible refine (h1 _).mono ?_; rintro e w1 ⟨rfl, rfl⟩) | (go_at_call 73; with_reducible refine (h2 _).mono ?_; rintro e w2 ⟨rfl, rfl⟩))
      rw [← hW]
      clear hW
      go_loopw [6] (fun q wr => ∃ k : Nat, k ≤ 9 ∧ q = .int .i64 k ∧ Hid (∃ m, wr = W.drewN m) ∧ Hid (∀ j, j < k → mkB j ≠ (s[a]'ha).toNat)) (fun q _ => 9 - (intOf q).toNat)
      case atStart => exact ⟨0, by omega, rfl, ⟨0, rfl⟩, fun j h => by omega⟩
      case round =>
        obtain ⟨k, hk, rfl, hbq, hj⟩ := hrel
        have hbl : Hid (∀ n, Bl W (wr.drewN n)) := fun n => by obtain ⟨m, rfl⟩ := hbq.out; exact (Bl.drewN W m).trans (Bl.drewN _ n)
        have hnx : Hid (∀ n, ∃ m, wr.drewN n = W.drewN m) := fun n => by obtain ⟨m, rfl⟩ := hbq.out; exact ⟨m + n, by simp [World.drewN, Nat.add_assoc]⟩
        by_cases hlt : k < 9
        · have hki : (k : Int) < 9 := by omega
          have hg := mkG k hlt
          by_cases he : mkB k = (s[a]'ha).toNat
          · have hx : (((⟨#[40, 41, 91, 93, 124, 58, 94, 46, 59]⟩ : ByteArray)[k]'hlt).toNat : Int) = (s[a]'ha).toNat := by rw [hg, he]
            have HK := mkHid (HM.out k hlt he)
            have HZ := mkHid (HP.out k hlt)
            clear he hg
            go_wp2_with fail
            go_quiet (fail)
            go_wp2_with (go_at_call 36; refine (rKinds_ok k _ hlt).mono ?_; rintro e w3 ⟨rfl, b3⟩; have bb3 := (hbl.out _).trans b3; have hr3 := (bb3.block _ (lt_of_heap HR.out)).trans HR.out; have bb4 := HB.out.trans bb3; obtain ⟨r0, r1, r2, r3, y0, y1, y2, y3⟩ := resF hr3)
            rw [HK.out, show mkV (kdM k) a = tv (kdM k) [] 0 a (a + 1) from if_neg HZ.out]
            exact ret4b (kdM k) [] 0 a (a + 1) Tryz.results78 hr3 bb4 (Nat.le_refl _) rfl (by simp) rfl rfl rfl rfl
          · have hx : ¬ (((⟨#[40, 41, 91, 93, 124, 58, 94, 46, 59]⟩ : ByteArray)[k]'hlt).toNat : Int) = (s[a]'ha).toNat := by rw [hg]; omega
            have HJ : Hid (∀ j, j < k + 1 → mkB j ≠ (s[a]'ha).toNat) := mkHid fun j h => by
              by_cases hjk : j < k
              · exact hj.out j hjk
              · have : j = k := by omega
                subst this; exact he
            clear he hg
            go_wp2_with fail
            go_quiet (fail)
            go_wp2_with fail
            go_roundw
            case rel => exact ⟨k + 1, by omega, by simp, hnx.out _, HJ.out⟩
            case measure => simp [intOf]; omega
        · have hke : k = 9 := by omega
          subst hke
          have HZ := mkHid (HN.out hj.out)
          have hb0 := hbl.out 0
          have hr0 := (hb0.block _ (lt_of_heap HR.out)).trans HR.out
          have hr0 : wr.heap[w.heap.size]? = some z4 := hr0
          have hb1 : Hid (Bl w wr) := HB.out.trans hb0
          obtain ⟨r0, r1, r2, r3, y0, y1, y2, y3⟩ := resF hr0
          have hr0 := mkHid hr0
          clear hb0
          go_wp2_with fail
          go_wp2_with fail
          rw [HZ.out, show mkV 0 a = tv 0 [] 0 0 a from rfl]
          exact ret4b 0 [] 0 0 a Tryz.results78 hr0.out hb1.out (Nat.le_refl _) rfl rfl rfl rfl rfl rfl
end Go.Proofs.YtimlomobbnnehaaGreatDoor

namespace Go.Proofs.YtimlomobbnnehaaGreatDoor
open Go.RowKit Go.Maps
set_option linter.unusedVariables false
set_option linter.unusedSimpArgs false
def tokR (x : Q4) (a : Nat) : Value := if x.2.2.2 = 0 then tv 0 [] 0 0 a else tv x.1 x.2.1 x.2.2.1 a (a + x.2.2.2)
theorem tokR_no (a : Nat) : tokR (0, [], 0, 0) a = tv 0 [] 0 0 a := rfl
theorem tokR_yes {k : Nat} {t : Bs} {n m : Nat} (a : Nat) (h : m ≠ 0) : tokR (k, t, n, m) a = tv k t n a (a + m) := by unfold tokR; rw [if_neg h]
theorem cls (n : Nat) (h : n < 256) : (isL n = true → isB n = false) ∧ (isD n = true → isL n = false) ∧ (n = 35 → isL n = false ∧ isD n = false ∧ isO n = false) ∧ (isO n = true → isL n = false ∧ isD n = false ∧ n ≠ 35) ∧ (n = 39 → isL n = false ∧ isD n = false ∧ isO n = false) := by
  refine ⟨fun h1 => ?_, fun h1 => ?_, fun h1 => ?_, fun h1 => ?_, fun h1 => ?_⟩
  · rw [Bool.eq_false_iff]; intro h2; rw [isL_iff] at h1; rw [isB_iff] at h2; omega
  · rw [Bool.eq_false_iff]; intro h2; rw [isD_iff] at h1; rw [isL_iff] at h2; omega
  · subst h1; decide
  · refine ⟨?_, ?_, ?_⟩
    · rw [Bool.eq_false_iff]; intro h2; rw [isO_iff] at h1; rw [isL_iff] at h2; omega
    · rw [Bool.eq_false_iff]; intro h2; rw [isO_iff] at h1; rw [isD_iff] at h2; omega
    · rw [isO_iff] at h1; omega
  · subst h1; decide
theorem slice_at (s : ByteArray) (x y : Int) (a b : Nat) (hx : x = a) (hy : y = b) (h1 : a ≤ b) (h2 : b ≤ s.size) (W : World) : (Instr.slice 9 (.string s) (some (.int .i64 x)) (some (.int .i64 y)) none).run Tryz.prog W = .ok (.string (s.extract a b)) W := by
  subst hx hy
  have h5 := run_slice_string (P := Tryz.prog) W 9 s .i64 .i64 (a : Int) (b : Int) Tryz.underlying9 (by omega) (by omega) (by omega)
  rw [h5]
  rfl
set_option maxHeartbeats 16000000 in
set_option maxRecDepth 1000000 in
theorem rToken_word (s : ByteArray) (a : Nat) (w : World) (ha : a < s.size) (hs : s.size ≤ 140737488355328) (hL : isL (hd ((lst s).drop a)) = true) : Calls Tryz.prog 58 #[.string s, .int .i64 a] w fun e w' =>
    e = .returned (tokR (cutQ ((lst s).drop a)) a) ∧ Bl w w' := by
  have hai : (a : Int) < s.size := by omega
  have hb := get_lst s a ha
  obtain ⟨W, hW⟩ : ∃ W, W = w.alloc (.cells #[.int .i64 0, .string ⟨#[]⟩, .int .i64 0, .int .i64 0] 28) := ⟨_, rfl⟩
  have HB : Hid (Bl w W) := by rw [hW]; exact Bl.alloc _ _
  have HR : Hid (W.heap[w.heap.size]? = some z4) := by rw [hW]; exact heap_alloc_new w _
  obtain ⟨r0, r1, r2, r3, y0, y1, y2, y3⟩ := resF HR.out
  have hq := cutQ_word hL
  have hn := fun w => rName_ok s a w (Nat.le_of_lt ha) hs
  have hp := nameLen_pos hL
  have hle := nameLen_le ((lst s).drop a)
  rw [List.length_drop, lst_len] at hle
  have hc := fun w => rColon_ok s (a + nameLen ((lst s).drop a)) w (by omega) hs
  rw [← List.drop_drop] at hc
  have hx := mkHid (ba_mid s a (a + nameLen ((lst s).drop a)))
  rw [Nat.add_sub_cancel_left] at hx
  have hl := rLetter_ok (s[a]'ha).toNat
  rw [hb] at hL
  rw [hL] at hl
  have hm : (a : Int) + nameLen ((lst s).drop a) ≤ s.size := by omega
  by_cases hC : colonAt (((lst s).drop a).drop (nameLen ((lst s).drop a))) = true
  · rw [if_neg (by rw [kwLen_yes (by omega) hC]; omega), kwLen_yes (by omega) hC] at hq
    rw [hq, tokR_yes a (by omega)]
    rw [hC] at hc
    clear hC hq hb hL
    generalize hg : ((lst s).drop a).take (nameLen ((lst s).drop a)) = T at *
    generalize nameLen ((lst s).drop a) = n0 at *
    have hn : ∀ w, Calls Tryz.prog 69 #[.string s, .int .i64 a] w fun e w' => e = .returned (.int .i64 ((a : Int) + n0)) ∧ w' = w := hn
    have hsl := slice_at s (a : Int) ((a : Int) + n0) a (a + n0) rfl (by omega) (by omega) (by omega)
    have hc : ∀ w, Calls Tryz.prog 70 #[.string s, .int .i64 ((a : Int) + n0)] w fun e w' => e = .returned (.bool true) ∧ w' = w := hc
    go_enter Tryz.func58, Tryz.ntmps58
    go_wp2_with (go_at_call 68; fail)
    rw [← hW]
    clear hW
    go_wp2_with (first | (go_at_call 68; refine (hl _).mono ?_; rintro e w1 ⟨rfl, h⟩; have h3 := h.symm; subst h3) | (go_at_call 69; refine (hn _).mono ?_; rintro e w1 ⟨rfl, h⟩; have h3 := h.symm; subst h3) | (go_at_call 70; refine (hc _).mono ?_; rintro e w1 ⟨rfl, h⟩; have h3 := h.symm; subst h3))
    exact ret4b 2 T 0 a (a + (n0 + 1)) Tryz.results58 HR.out HB.out (Nat.le_refl _) rfl (by show Value.int .i64 _ = Value.int .i64 _; congr 1 <;> omega) rfl (by rw [hx.out]) rfl rfl
  · have hC' : colonAt (((lst s).drop a).drop (nameLen ((lst s).drop a))) = false := by simpa using hC
    rw [if_pos (kwLen_zero (Or.inr hC'))] at hq
    rw [hq, tokR_yes a (by omega)]
    rw [hC'] at hc
    clear hC hC' hq hb hL
    generalize hg : ((lst s).drop a).take (nameLen ((lst s).drop a)) = T at *
    generalize nameLen ((lst s).drop a) = n0 at *
    have hn : ∀ w, Calls Tryz.prog 69 #[.string s, .int .i64 a] w fun e w' => e = .returned (.int .i64 ((a : Int) + n0)) ∧ w' = w := hn
    have hsl := slice_at s (a : Int) ((a : Int) + n0) a (a + n0) rfl (by omega) (by omega) (by omega)
    have hc : ∀ w, Calls Tryz.prog 70 #[.string s, .int .i64 ((a : Int) + n0)] w fun e w' => e = .returned (.bool false) ∧ w' = w := hc
    go_enter Tryz.func58, Tryz.ntmps58
    go_wp2_with (go_at_call 68; fail)
    rw [← hW]
    clear hW
    go_wp2_with (first | (go_at_call 68; refine (hl _).mono ?_; rintro e w1 ⟨rfl, h⟩; have h3 := h.symm; subst h3) | (go_at_call 69; refine (hn _).mono ?_; rintro e w1 ⟨rfl, h⟩; have h3 := h.symm; subst h3) | (go_at_call 70; refine (hc _).mono ?_; rintro e w1 ⟨rfl, h⟩; have h3 := h.symm; subst h3))
    exact ret4b 1 T 0 a (a + n0) Tryz.results58 HR.out HB.out (Nat.le_refl _) rfl (by show Value.int .i64 _ = Value.int .i64 _; congr 1 <;> omega) rfl (by rw [hx.out]) rfl rfl
end Go.Proofs.YtimlomobbnnehaaGreatDoor

namespace Go.Proofs.YtimlomobbnnehaaGreatDoor
open Go.RowKit Go.Maps
set_option linter.unusedVariables false
set_option linter.unusedSimpArgs false
set_option maxHeartbeats 16000000 in
set_option maxRecDepth 1000000 in
theorem rToken_int (s : ByteArray) (a : Nat) (w : World) (ha : a < s.size) (hs : s.size ≤ 140737488355328) (hL : isD (hd ((lst s).drop a)) = true) : Calls Tryz.prog 58 #[.string s, .int .i64 a] w fun e w' =>
    e = .returned (tokR (cutQ ((lst s).drop a)) a) ∧ Bl w w' := by
  have hai : (a : Int) < s.size := by omega
  have hb := get_lst s a ha
  obtain ⟨W, hW⟩ : ∃ W, W = w.alloc (.cells #[.int .i64 0, .string ⟨#[]⟩, .int .i64 0, .int .i64 0] 28) := ⟨_, rfl⟩
  have HB : Hid (Bl w W) := by rw [hW]; exact Bl.alloc _ _
  have HR : Hid (W.heap[w.heap.size]? = some z4) := by rw [hW]; exact heap_alloc_new w _
  obtain ⟨r0, r1, r2, r3, y0, y1, y2, y3⟩ := resF HR.out
  have hq := cutQ_int hL
  have hn := fun w => rNumber_ok s a w (Nat.le_of_lt ha) hs
  have hp := digLen_pos hL
  have hle := digLen_le ((lst s).drop a)
  rw [List.length_drop, lst_len] at hle
  have hl := rLetter_ok (s[a]'ha).toNat
  have hd' := rDigit_ok (s[a]'ha).toNat
  rw [hb] at hL
  rw [hL] at hd'
  rw [(cls _ (toNat_lt8 _)).2.1 hL] at hl
  clear hL hb
  by_cases hN : numOf (((lst s).drop a).take (digLen ((lst s).drop a))) ≤ 1073741824
  · rw [if_pos hN] at hq
    rw [hq, tokR_yes a (by omega)]
    rw [numV_small hN] at hn
    clear hq
    generalize numOf (((lst s).drop a).take (digLen ((lst s).drop a))) = N at *
    generalize digLen ((lst s).drop a) = n0 at *
    have hNi : ¬ (N : Int) < 0 := by omega
    go_enter Tryz.func58, Tryz.ntmps58
    go_wp2_with (go_at_call 68; fail)
    rw [← hW]
    clear hW
    go_wp2_with (first | (go_at_call 68; refine (hl _).mono ?_; rintro e w1 ⟨rfl, h⟩; have h3 := h.symm; subst h3) | (go_at_call 71; refine (hd' _).mono ?_; rintro e w1 ⟨rfl, h⟩; have h3 := h.symm; subst h3) | (go_at_call 72; refine (hn _).mono ?_; rintro e w1 ⟨rfl, h⟩; have h3 := h.symm; subst h3))
    exact ret4b 4 [] N a (a + n0) Tryz.results58 HR.out HB.out (Nat.le_refl _) rfl (by show Value.int .i64 _ = Value.int .i64 _; congr 1 <;> omega) rfl rfl rfl rfl
  · rw [if_neg hN] at hq
    rw [hq, tokR_no]
    rw [numV_great hN] at hn
    clear hq
    generalize digLen ((lst s).drop a) = n0 at *
    go_enter Tryz.func58, Tryz.ntmps58
    go_wp2_with (go_at_call 68; fail)
    rw [← hW]
    clear hW
    go_wp2_with (first | (go_at_call 68; refine (hl _).mono ?_; rintro e w1 ⟨rfl, h⟩; have h3 := h.symm; subst h3) | (go_at_call 71; refine (hd' _).mono ?_; rintro e w1 ⟨rfl, h⟩; have h3 := h.symm; subst h3) | (go_at_call 72; refine (hn _).mono ?_; rintro e w1 ⟨rfl, h⟩; have h3 := h.symm; subst h3))
    exact ret4b 0 [] 0 0 a Tryz.results58 HR.out HB.out (Nat.le_refl _) rfl rfl rfl rfl rfl rfl
end Go.Proofs.YtimlomobbnnehaaGreatDoor

namespace Go.Proofs.YtimlomobbnnehaaGreatDoor
open Go.RowKit Go.Maps
set_option linter.unusedVariables false
set_option linter.unusedSimpArgs false
set_option maxHeartbeats 16000000 in
set_option maxRecDepth 1000000 in
theorem rToken_op (s : ByteArray) (a : Nat) (w : World) (ha : a < s.size) (hs : s.size ≤ 140737488355328) (hO : isO (hd ((lst s).drop a)) = true) : Calls Tryz.prog 58 #[.string s, .int .i64 a] w fun e w' =>
    e = .returned (tokR (cutQ ((lst s).drop a)) a) ∧ Bl w w' := by
  have hai : (a : Int) < s.size := by omega
  have hb := get_lst s a ha
  obtain ⟨W, hW⟩ : ∃ W, W = w.alloc (.cells #[.int .i64 0, .string ⟨#[]⟩, .int .i64 0, .int .i64 0] 28) := ⟨_, rfl⟩
  have HB : Hid (Bl w W) := by rw [hW]; exact Bl.alloc _ _
  have HR : Hid (W.heap[w.heap.size]? = some z4) := by rw [hW]; exact heap_alloc_new w _
  obtain ⟨r0, r1, r2, r3, y0, y1, y2, y3⟩ := resF HR.out
  have hq := cutQ_op hO
  have hn := fun w => rSigns_ok s a w (Nat.le_of_lt ha) hs
  have hp : 1 ≤ opLen ((lst s).drop a) := by unfold opLen; rw [if_pos hO]; split <;> omega
  have hle := opLen_le ((lst s).drop a)
  rw [List.length_drop, lst_len] at hle
  have hx := mkHid (ba_mid s a (a + opLen ((lst s).drop a)))
  rw [Nat.add_sub_cancel_left] at hx
  have hl := rLetter_ok (s[a]'ha).toNat
  have hd' := rDigit_ok (s[a]'ha).toNat
  have ho := rOp_ok (s[a]'ha).toNat (toNat_lt8 _)
  rw [hb] at hO
  obtain ⟨c1, c2, c3⟩ := (cls _ (toNat_lt8 _)).2.2.2.1 hO
  rw [hO] at ho
  rw [c1] at hl
  rw [c2] at hd'
  have c3i : ¬ ((s[a]'ha).toNat : Int) = 35 := by omega
  rw [hq, tokR_yes a (by omega)]
  clear hO hb c1 c2 c3 hq
  have hm : (a : Int) + opLen ((lst s).drop a) ≤ s.size := by omega
  generalize hg : ((lst s).drop a).take (opLen ((lst s).drop a)) = T at *
  generalize opLen ((lst s).drop a) = n0 at *
  have hn : ∀ w, Calls Tryz.prog 76 #[.string s, .int .i64 a] w fun e w' => e = .returned (.int .i64 ((a : Int) + n0)) ∧ w' = w := hn
  have hsl := slice_at s (a : Int) ((a : Int) + n0) a (a + n0) rfl (by omega) (by omega) (by omega)
  go_enter Tryz.func58, Tryz.ntmps58
  go_wp2_with (go_at_call 68; fail)
  rw [← hW]
  clear hW
  go_wp2_with (first | (go_at_call 68; refine (hl _).mono ?_; rintro e w1 ⟨rfl, h⟩; have h3 := h.symm; subst h3) | (go_at_call 71; refine (hd' _).mono ?_; rintro e w1 ⟨rfl, h⟩; have h3 := h.symm; subst h3) | (go_at_call 75; refine (ho _).mono ?_; rintro e w1 ⟨rfl, h⟩; have h3 := h.symm; subst h3) | (go_at_call 76; refine (hn _).mono ?_; rintro e w1 ⟨rfl, h⟩; have h3 := h.symm; subst h3))
  exact ret4b 3 T 0 a (a + n0) Tryz.results58 HR.out HB.out (Nat.le_refl _) rfl (by show Value.int .i64 _ = Value.int .i64 _; congr 1 <;> omega) rfl (by rw [hx.out]) rfl rfl
end Go.Proofs.YtimlomobbnnehaaGreatDoor

namespace Go.Proofs.YtimlomobbnnehaaGreatDoor
open Go.RowKit Go.Maps
set_option linter.unusedVariables false
set_option linter.unusedSimpArgs false
set_option maxHeartbeats 16000000 in
set_option maxRecDepth 1000000 in
theorem rToken_hash (s : ByteArray) (a : Nat) (w : World) (ha : a < s.size) (hs : s.size ≤ 140737488355328) (hH : hd ((lst s).drop a) = 35) : Calls Tryz.prog 58 #[.string s, .int .i64 a] w fun e w' =>
    e = .returned (tokR (cutQ ((lst s).drop a)) a) ∧ Bl w w' := by
  have hai : (a : Int) < s.size := by omega
  have hb := get_lst s a ha
  obtain ⟨W, hW⟩ : ∃ W, W = w.alloc (.cells #[.int .i64 0, .string ⟨#[]⟩, .int .i64 0, .int .i64 0] 28) := ⟨_, rfl⟩
  have HB : Hid (Bl w W) := by rw [hW]; exact Bl.alloc _ _
  have HR : Hid (W.heap[w.heap.size]? = some z4) := by rw [hW]; exact heap_alloc_new w _
  obtain ⟨r0, r1, r2, r3, y0, y1, y2, y3⟩ := resF HR.out
  have hq := cutQ_hash hH
  rw [List.drop_drop] at hq
  have hn := fun w => rSymbol_ok s (a + 1) w (by omega) hs
  have hi := fun w => rIs_ok s (a + 1) 40 w hs (by omega)
  have hle := symLen_le ((lst s).drop (a + 1))
  rw [List.length_drop, lst_len] at hle
  have hx := mkHid (ba_mid s (a + 1) (a + 1 + symLen ((lst s).drop (a + 1))))
  rw [Nat.add_sub_cancel_left] at hx
  have hl := rLetter_ok (s[a]'ha).toNat
  have hd' := rDigit_ok (s[a]'ha).toNat
  rw [hb] at hH
  obtain ⟨c1, c2, c3⟩ := (cls _ (toNat_lt8 _)).2.2.1 hH
  rw [c1, hH] at hl
  rw [c2, hH] at hd'
  have hl : ∀ w, Calls Tryz.prog 68 #[.int .u8 35] w fun e w' => e = .returned (.bool false) ∧ w' = w := hl
  have hd' : ∀ w, Calls Tryz.prog 71 #[.int .u8 35] w fun e w' => e = .returned (.bool false) ∧ w' = w := hd'
  have c3i : ((s[a]'ha).toNat : Int) = 35 := by omega
  clear hb c1 c2 c3 hH
  by_cases h40 : hd ((lst s).drop (a + 1)) = 40
  · have hz : symLen ((lst s).drop (a + 1)) = 0 := by
      have hnl : nameLen ((lst s).drop (a + 1)) = 0 := nameLen_zero (by rw [h40]; decide)
      unfold symLen
      rw [if_pos (kwsLen_nil (kwLen_zero (Or.inl hnl))), hnl]
      unfold opLen
      rw [h40, if_neg (by decide)]
      rfl
    rw [if_pos hz, if_pos h40] at hq
    rw [hq, tokR_yes a (by omega)]
    rw [decide_eq_true h40] at hi
    have hi : ∀ w, Calls Tryz.prog 73 #[.string s, .int .i64 ((a : Int) + 1), .int .u8 40] w fun e w' => e = .returned (.bool true) ∧ w' = w := hi
    clear hq h40 hx hn hz
    go_enter Tryz.func58, Tryz.ntmps58
    go_wp2_with (go_at_call 68; fail)
    rw [← hW]
    clear hW
    go_wp2_with (first | (go_at_call 68; refine (hl _).mono ?_; rintro e w1 ⟨rfl, h⟩; have h3 := h.symm; subst h3) | (go_at_call 71; refine (hd' _).mono ?_; rintro e w1 ⟨rfl, h⟩; have h3 := h.symm; subst h3) | (go_at_call 73; refine (hi _).mono ?_; rintro e w1 ⟨rfl, h⟩; have h3 := h.symm; subst h3))
    exact ret4b 7 [] 0 a (a + 2) Tryz.results58 HR.out HB.out (Nat.le_refl _) rfl (by show Value.int .i64 _ = Value.int .i64 _; congr 1 <;> omega) rfl rfl rfl rfl
  · rw [decide_eq_false h40] at hi
    have hi : ∀ w, Calls Tryz.prog 73 #[.string s, .int .i64 ((a : Int) + 1), .int .u8 40] w fun e w' => e = .returned (.bool false) ∧ w' = w := hi
    by_cases hz : symLen ((lst s).drop (a + 1)) = 0
    · rw [if_pos hz, if_neg h40] at hq
      rw [hq, tokR_no]
      rw [hz] at hn
      have hn : ∀ w, Calls Tryz.prog 74 #[.string s, .int .i64 ((a : Int) + 1)] w fun e w' => e = .returned (.int .i64 ((a : Int) + 1)) ∧ w' = w := hn
      clear hq h40 hx hz
      go_enter Tryz.func58, Tryz.ntmps58
      go_wp2_with (go_at_call 68; fail)
      rw [← hW]
      clear hW
      go_wp2_with (first | (go_at_call 68; refine (hl _).mono ?_; rintro e w1 ⟨rfl, h⟩; have h3 := h.symm; subst h3) | (go_at_call 71; refine (hd' _).mono ?_; rintro e w1 ⟨rfl, h⟩; have h3 := h.symm; subst h3) | (go_at_call 73; refine (hi _).mono ?_; rintro e w1 ⟨rfl, h⟩; have h3 := h.symm; subst h3) | (go_at_call 74; refine (hn _).mono ?_; rintro e w1 ⟨rfl, h⟩; have h3 := h.symm; subst h3))
      exact ret4b 0 [] 0 0 a Tryz.results58 HR.out HB.out (Nat.le_refl _) rfl rfl rfl rfl rfl rfl
    · rw [if_neg hz] at hq
      rw [hq, tokR_yes a (by omega)]
      clear hq h40
      have hm : (a : Int) + 1 + symLen ((lst s).drop (a + 1)) ≤ s.size := by omega
      generalize hg : ((lst s).drop (a + 1)).take (symLen ((lst s).drop (a + 1))) = T at *
      generalize symLen ((lst s).drop (a + 1)) = n0 at *
      have hne : ¬ ((a : Int) + 1 + n0 = (a : Int) + 1) := by omega
      have hn : ∀ w, Calls Tryz.prog 74 #[.string s, .int .i64 ((a : Int) + 1)] w fun e w' => e = .returned (.int .i64 ((a : Int) + 1 + n0)) ∧ w' = w := hn
      have hsl := slice_at s ((a : Int) + 1) ((a : Int) + 1 + n0) (a + 1) (a + 1 + n0) (by omega) (by omega) (by omega) (by omega)
      go_enter Tryz.func58, Tryz.ntmps58
      go_wp2_with (go_at_call 68; fail)
      rw [← hW]
      clear hW
      go_wp2_with (first | (go_at_call 68; refine (hl _).mono ?_; rintro e w1 ⟨rfl, h⟩; have h3 := h.symm; subst h3) | (go_at_call 71; refine (hd' _).mono ?_; rintro e w1 ⟨rfl, h⟩; have h3 := h.symm; subst h3) | (go_at_call 73; refine (hi _).mono ?_; rintro e w1 ⟨rfl, h⟩; have h3 := h.symm; subst h3) | (go_at_call 74; refine (hn _).mono ?_; rintro e w1 ⟨rfl, h⟩; have h3 := h.symm; subst h3))
      exact ret4b 5 T 0 a (a + (n0 + 1)) Tryz.results58 HR.out HB.out (Nat.le_refl _) rfl (by show Value.int .i64 _ = Value.int .i64 _; congr 1 <;> omega) rfl (by rw [hx.out]) rfl rfl
end Go.Proofs.YtimlomobbnnehaaGreatDoor

namespace Go.Proofs.YtimlomobbnnehaaGreatDoor
open Go.RowKit Go.Maps
set_option linter.unusedVariables false
set_option linter.unusedSimpArgs false
set_option maxHeartbeats 16000000 in
set_option maxRecDepth 1000000 in
theorem rToken_text (s : ByteArray) (a : Nat) (w : World) (ha : a < s.size) (hs : s.size ≤ 140737488355328) (hH : hd ((lst s).drop a) = 39) : Calls Tryz.prog 58 #[.string s, .int .i64 a] w fun e w' =>
    e = .returned (tokR (cutQ ((lst s).drop a)) a) ∧ Bl w w' := by
  have hai : (a : Int) < s.size := by omega
  have hb := get_lst s a ha
  obtain ⟨W, hW⟩ : ∃ W, W = w.alloc (.cells #[.int .i64 0, .string ⟨#[]⟩, .int .i64 0, .int .i64 0] 28) := ⟨_, rfl⟩
  have HB : Hid (Bl w W) := by rw [hW]; exact Bl.alloc _ _
  have HR : Hid (W.heap[w.heap.size]? = some z4) := by rw [hW]; exact heap_alloc_new w _
  have hq := cutQ_text hH
  rw [List.drop_drop] at hq
  have hn := fun w => rText_ok s a w ha hs
  have hl := rLetter_ok (s[a]'ha).toNat
  have hd' := rDigit_ok (s[a]'ha).toNat
  have ho := rOp_ok (s[a]'ha).toNat (toNat_lt8 _)
  rw [hb] at hH
  obtain ⟨c1, c2, c3⟩ := (cls _ (toNat_lt8 _)).2.2.2.2 hH
  rw [c1, hH] at hl
  rw [c2, hH] at hd'
  rw [c3, hH] at ho
  have hl : ∀ w, Calls Tryz.prog 68 #[.int .u8 39] w fun e w' => e = .returned (.bool false) ∧ w' = w := hl
  have hd' : ∀ w, Calls Tryz.prog 71 #[.int .u8 39] w fun e w' => e = .returned (.bool false) ∧ w' = w := hd'
  have ho : ∀ w, Calls Tryz.prog 75 #[.int .u8 39] w fun e w' => e = .returned (.bool false) ∧ w' = w := ho
  have c39 : ((s[a]'ha).toNat : Int) = 39 := by omega
  clear hb c1 c2 c3 hH
  have hbd := fun x (h : txt ((lst s).drop (a + 1)) = some x) => (txt_n _ x h).2
  rw [List.length_drop, lst_len] at hbd
  cases hx : txt ((lst s).drop (a + 1)) with
  | none =>
    rw [hx] at hq hn
    rw [hq]
    show Calls _ _ _ _ fun e w' => e = .returned (tokR (0, [], 0, 0) a) ∧ _
    rw [tokR_no]
    have hn : ∀ w, Calls Tryz.prog 77 #[.string s, .int .i64 a] w fun e w' => e = .returned (.tuple #[.string ⟨#[]⟩, .int .i64 0, .bool false]) ∧ Bl w w' := hn
    clear hq hx hbd
    go_enter Tryz.func58, Tryz.ntmps58
    go_wp2_with (go_at_call 68; fail)
    rw [← hW]
    clear hW
    go_wp2_with (first | (go_at_call 68; refine (hl _).mono ?_; rintro e w1 ⟨rfl, h⟩; have h3 := h.symm; subst h3) | (go_at_call 71; refine (hd' _).mono ?_; rintro e w1 ⟨rfl, h⟩; have h3 := h.symm; subst h3) | (go_at_call 75; refine (ho _).mono ?_; rintro e w1 ⟨rfl, h⟩; have h3 := h.symm; subst h3) | (go_at_call 77; refine (hn _).mono ?_; rintro e w3 ⟨rfl, b3⟩; have hr3 := (b3.block _ (lt_of_heap HR.out)).trans HR.out; have bb3 := HB.out.trans b3; obtain ⟨r0, r1, r2, r3, y0, y1, y2, y3⟩ := resF hr3))
    exact ret4b 0 [] 0 0 a Tryz.results58 hr3 bb3 (Nat.le_refl _) rfl rfl rfl rfl rfl rfl
  | some x =>
    have hbx := hbd x hx
    rw [hx] at hq hn
    obtain ⟨t, n0⟩ := x
    rw [hq]
    show Calls _ _ _ _ fun e w' => e = .returned (tokR (6, t, 0, n0 + 1) a) ∧ _
    rw [tokR_yes a (by omega)]
    have hn : ∀ w, Calls Tryz.prog 77 #[.string s, .int .i64 a] w fun e w' => e = .returned (.tuple #[.string (ba t), .int .i64 ((a + 1 + n0 : Nat) : Int), .bool true]) ∧ Bl w w' := hn
    clear hq hx hbd
    go_enter Tryz.func58, Tryz.ntmps58
    go_wp2_with (go_at_call 68; fail)
    rw [← hW]
    clear hW
    go_wp2_with (first | (go_at_call 68; refine (hl _).mono ?_; rintro e w1 ⟨rfl, h⟩; have h3 := h.symm; subst h3) | (go_at_call 71; refine (hd' _).mono ?_; rintro e w1 ⟨rfl, h⟩; have h3 := h.symm; subst h3) | (go_at_call 75; refine (ho _).mono ?_; rintro e w1 ⟨rfl, h⟩; have h3 := h.symm; subst h3) | (go_at_call 77; refine (hn _).mono ?_; rintro e w3 ⟨rfl, b3⟩; have hr3 := (b3.block _ (lt_of_heap HR.out)).trans HR.out; have bb3 := HB.out.trans b3; obtain ⟨r0, r1, r2, r3, y0, y1, y2, y3⟩ := resF hr3))
    exact ret4b 6 t 0 a (a + (n0 + 1)) Tryz.results58 hr3 bb3 (Nat.le_refl _) rfl (by show Value.int .i64 _ = Value.int .i64 _; congr 1 <;> omega) rfl rfl rfl rfl
end Go.Proofs.YtimlomobbnnehaaGreatDoor

namespace Go.Proofs.YtimlomobbnnehaaGreatDoor
open Go.RowKit Go.Maps
set_option linter.unusedVariables false
set_option linter.unusedSimpArgs false
set_option maxHeartbeats 16000000 in
set_option maxRecDepth 1000000 in
theorem rToken_mark (s : ByteArray) (a : Nat) (w : World) (ha : a < s.size) (hs : s.size ≤ 140737488355328) (hM : kindN (hd ((lst s).drop a)) = 8 ∨ kindN (hd ((lst s).drop a)) = 0) : Calls Tryz.prog 58 #[.string s, .int .i64 a] w fun e w' =>
    e = .returned (tokR (cutQ ((lst s).drop a)) a) ∧ Bl w w' := by
  have hai : (a : Int) < s.size := by omega
  have hb := get_lst s a ha
  obtain ⟨W, hW⟩ : ∃ W, W = w.alloc (.cells #[.int .i64 0, .string ⟨#[]⟩, .int .i64 0, .int .i64 0] 28) := ⟨_, rfl⟩
  have HB : Hid (Bl w W) := by rw [hW]; exact Bl.alloc _ _
  have HR : Hid (W.heap[w.heap.size]? = some z4) := by rw [hW]; exact heap_alloc_new w _
  have K : ∀ n, n < 256 → (kindN n = 8 ∨ kindN n = 0) → isL n = false ∧ isD n = false ∧ isO n = false ∧ n ≠ 35 ∧ n ≠ 39 ∧ (kindN n = 8 → markK n ≠ 0) ∧ (kindN n = 0 → markK n = 0 ∧ n ≠ 58) := by decide +kernel
  have hq : tokR (cutQ ((lst s).drop a)) a = markR ((lst s).drop a) a := by
    obtain ⟨_, _, _, _, _, g1, g2⟩ := K _ (by rw [hb]; exact toNat_lt8 _) hM
    unfold markR
    rcases hM with h | h
    · rw [cutQ_mark h]
      by_cases c : hd ((lst s).drop a) = 58 ∧ hd (((lst s).drop a).drop 1) = 61
      · rw [if_pos c, if_pos c]; rfl
      · rw [if_neg c, if_neg c, show mkV (markK (hd ((lst s).drop a))) a = _ from if_neg (g1 h)]; rfl
    · rw [cutQ_other h, if_neg (fun c => (g2 h).2 c.1), show mkV (markK (hd ((lst s).drop a))) a = _ from if_pos (g2 h).1]; rfl
  rw [hq]
  have hn := fun w => rMark_ok s a w ha hs
  have hl := rLetter_ok (s[a]'ha).toNat
  have hd' := rDigit_ok (s[a]'ha).toNat
  have ho := rOp_ok (s[a]'ha).toNat (toNat_lt8 _)
  rw [hb] at hM
  obtain ⟨c1, c2, c3, c4, c5, _⟩ := K _ (toNat_lt8 _) hM
  rw [c1] at hl
  rw [c2] at hd'
  rw [c3] at ho
  have c35 : ¬ ((s[a]'ha).toNat : Int) = 35 := by omega
  have c39 : ¬ ((s[a]'ha).toNat : Int) = 39 := by omega
  have hmr : ∃ k t n b m, markR ((lst s).drop a) a = tv k t n b m := by
    unfold markR
    split
    · exact ⟨_, _, _, _, _, rfl⟩
    · unfold mkV
      split
      · exact ⟨_, _, _, _, _, rfl⟩
      · exact ⟨_, _, _, _, _, rfl⟩
  obtain ⟨k, t, n, b, m, hmr⟩ := hmr
  rw [hmr] at hn ⊢
  have hn : ∀ w, Calls Tryz.prog 78 #[.string s, .int .i64 a] w fun e w' => e = .returned (.tuple #[.agg #[.int .i64 k, .string (ba t), .int .i64 n, .int .i64 b], .int .i64 m]) ∧ Bl w w' := hn
  clear hq hmr hb c1 c2 c3 c4 c5 hM K
  go_enter Tryz.func58, Tryz.ntmps58
  go_wp2_with (go_at_call 68; fail)
  rw [← hW]
  clear hW
  go_wp2_with (first | (go_at_call 68; refine (hl _).mono ?_; rintro e w1 ⟨rfl, h⟩; have h3 := h.symm; subst h3) | (go_at_call 71; refine (hd' _).mono ?_; rintro e w1 ⟨rfl, h⟩; have h3 := h.symm; subst h3) | (go_at_call 75; refine (ho _).mono ?_; rintro e w1 ⟨rfl, h⟩; have h3 := h.symm; subst h3) | (go_at_call 78; refine (hn _).mono ?_; rintro e w3 ⟨rfl, b3⟩; have hr3 := (b3.block _ (lt_of_heap HR.out)).trans HR.out; have bb3 := HB.out.trans b3; obtain ⟨r0, r1, r2, r3, y0, y1, y2, y3⟩ := resF hr3))
  exact ret4b k t n b m Tryz.results58 hr3 bb3 (Nat.le_refl _) rfl rfl rfl rfl rfl rfl
end Go.Proofs.YtimlomobbnnehaaGreatDoor

namespace Go.Proofs.YtimlomobbnnehaaGreatDoor
open Go.RowKit Go.Maps
set_option linter.unusedVariables false
set_option linter.unusedSimpArgs false
theorem rToken_ok (s : ByteArray) (a : Nat) (w : World) (ha : a < s.size) (hs : s.size ≤ 140737488355328) (h1 : isB (hd ((lst s).drop a)) = false) (h2 : hd ((lst s).drop a) ≠ 34) : Calls Tryz.prog 58 #[.string s, .int .i64 a] w fun e w' =>
    e = .returned (tokR (cutQ ((lst s).drop a)) a) ∧ Bl w w' := by
  by_cases c1 : isL (hd ((lst s).drop a)) = true
  · exact rToken_word s a w ha hs c1
  by_cases c2 : isD (hd ((lst s).drop a)) = true
  · exact rToken_int s a w ha hs c2
  by_cases c3 : hd ((lst s).drop a) = 35
  · exact rToken_hash s a w ha hs c3
  by_cases c4 : isO (hd ((lst s).drop a)) = true
  · exact rToken_op s a w ha hs c4
  by_cases c5 : hd ((lst s).drop a) = 39
  · exact rToken_text s a w ha hs c5
  refine rToken_mark s a w ha hs ?_
  unfold kindN
  rw [if_neg (by rw [h1]; simp), if_neg h2, if_neg c3, if_neg c5]
  by_cases c6 : markK (hd ((lst s).drop a)) ≠ 0
  · left; rw [if_pos c6]
  · right; rw [if_neg c6, if_neg c1, if_neg c2, if_neg c4]
/-- what All answers of a source of any length -/
def AllR (l : Bs) (ts : List (Tok × Nat)) (c a : Nat) : Prop := ∃ us er, Lx 0 l us er ∧ ((er = none ∧ ts = us ++ [(stopT, l.length)] ∧ c = 0 ∧ a = 0) ∨ (∃ p, er = some p ∧ ts = [] ∧ c = 70 ∧ a = p))
/-- All under way -/
structure AL (w : World) (s : ByteArray) (acc : List (Tok × Nat)) (at' : Nat) (v : Value) (W : World) : Prop where
  res : W.heap[w.heap.size]? = some (.cells #[.int .i64 0, .int .i64 0] 38 (0, 0))
  own : W.ownsRow (w.heap.size + 1) 28 4 v acc.length (tcs acc)
  bl : Bl w W
  lx : ∀ ts e, Lx at' ((lst s).drop at') ts e → Lx 0 (lst s) (acc ++ ts) e
  le : at' ≤ s.size
  al : acc.length ≤ at'
theorem AL.keep {w W V : World} {s : ByteArray} {acc : List (Tok × Nat)} {a : Nat} {v : Value} (h : AL w s acc a v W) (b : Bl W V) : AL w s acc a v V where
  res := (b.block _ (lt_of_heap h.res)).trans h.res
  own := ownR_congr h.own (fun g hg => b.block g (own_block h.own hg).2) (Nat.le_refl _)
  bl := h.bl.trans b
  lx := h.lx
  le := h.le
  al := h.al
theorem AL.append {w X w5 : World} {s : ByteArray} {acc : List (Tok × Nat)} {a a' : Nat} {v v' : Value} {x : Tok × Nat} (h : AL w s acc a v X) (hg : X.grownBy w5 v.ownBlock)
    (ho : w5.ownsRow (w.heap.size + 1) 28 4 v' (acc.length + 1) (tcs acc ++ tc x)) (hlx : ∀ ts e, Lx a' ((lst s).drop a') ts e → Lx 0 (lst s) ((acc ++ [x]) ++ ts) e) (hle : a' ≤ s.size) (hal : a < a' ∨ acc.length < a') : AL w s (acc ++ [x]) a' v' w5 where
  res := (hg.block _ (lt_of_heap h.res) (fun e => by have := (own_block h.own e.symm).1; omega)).trans h.res
  own := by
    rw [tcs_app]
    have e : tcs [x] = tc x := by simp [tcs]
    rw [e, List.length_append]
    exact ho
  bl := ⟨hg.os.trans h.bl.os, hg.tape.trans h.bl.tape, hg.output.trans h.bl.output, Nat.le_trans h.bl.size hg.size, fun k hk => by
    rw [hg.block k (Nat.lt_of_lt_of_le hk h.bl.size) (fun e => by have := (own_block h.own e.symm).1; omega)]
    exact h.bl.block k hk⟩
  lx := hlx
  le := hle
  al := by have := h.al; simp; omega
end Go.Proofs.YtimlomobbnnehaaGreatDoor

