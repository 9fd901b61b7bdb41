import Derived.Test.YtcodfojgilneaaaDoorHMarks
namespace Go.Proofs.YtcodfojgilneaaaDoor
open Go.RowKit
set_option linter.unusedVariables false
theorem newM (w : World) : Calls Tryd.prog 10 #[.int .i64 200, .int .i64 60] w fun e w' => e = .returned (.tuple #[.pointer (some ⟨w.heap.size, 0, none⟩), .int .i64 0]) ∧ St w w.heap.size w' nilLay (emptyH 200 60) := by
  refine (New_in 200 60 w (by decide) (by decide)).mono ?_
  rintro e w' ⟨rfl, q1, q2, q3⟩
  refine ⟨rfl, q1, q2, fun b hb => ?_⟩
  simp [foot, Lay.blocks, nilLay, blk] at hb
  omega
theorem markM (w W : World) (a : Nat) (K : Nat) (l : Lay) (h : St w a W l (emptyH 200 60)) (hK : K ≤ 40) : Calls Tryd.prog 12 #[.pointer (some ⟨a, 0, none⟩), .int .i64 K] W fun e w' => e = .returned (.int .i64 0) ∧ ∃ H, St w a w' l H ∧ MarkInv H 0 0 0 K := by
  refine (Mark_in K a l _ W h.rep (by omega)).mono ?_
  rintro e w' ⟨rfl, q1, q2, q3⟩
  exact ⟨rfl, _, h.next q1 (Nx.fr q2), ⟨rfl, rfl, rfl, rfl, by omega, by omega, rfl, rfl, rfl, by simp [emptyH], rfl⟩⟩
theorem markedM (w W : World) (a : Nat) (l : Lay) (H : HS) (h : St w a W l H) : Calls Tryd.prog 15 #[.pointer (some ⟨a, 0, none⟩)] W fun e w' => e = .returned (.int .i64 H.mark) ∧ w' = W := Marked_any a l H W h.rep
set_option maxRecDepth 20000 in
set_option maxHeartbeats 4000000 in
theorem marks_any (k0 : Int) (ao : Option Addr) (b off sz c : Nat) (zs : List Int) (w : World) (hao : 0 < sz → ao = some ⟨b, off, none⟩) (hT : Tab w) (hT2 : Tab64 w) (h2 : 2 ≤ w.heap.size) (hk0 : -9223372036854775808 ≤ k0) (hk1 : k0 ≤ 9223372036854775807)
    (hb : 0 < sz → b < w.heap.size) (hsz : (sz : Int) ≤ 9223372036854775807) (hcell : ∀ j, j < sz → w.cell? ⟨b, off + j, none⟩ = some (.int .i64 (zs.getD j 0))) (hz : ∀ j, -9223372036854775808 ≤ zs.getD j 0 ∧ zs.getD j 0 ≤ 9223372036854775807) :
    Calls Tryd.prog 3 #[.int .i64 k0, .slice ao sz c] w fun e w' => e = .returned (.bool true) ∧ Fr [] w w' := by
  have HT := mkHid hT
  have HT2 := mkHid hT2
  have HC := mkHid hcell
  have HZ := mkHid hz
  clear hT hT2 hcell hz
  go_enter Tryd.func3, Tryd.ntmps3
  go_wp2_with fail
  refine Calls.mono (small_any k0 w hk0 hk1) ?_
  rintro e w1 ⟨⟨x, rfl, x0, x1⟩, hw1⟩
  rw [hw1]
  clear hw1 w1
  obtain ⟨K, hKe, hK1, hK2⟩ : ∃ K : Nat, 1 + x % 40 = (K : Int) ∧ 1 ≤ K ∧ K ≤ 40 := ⟨(1 + x % 40).toNat, by omega, by omega, by omega⟩
  go_wp2_with fail
  clear hKe
  refine Calls.mono (newM w) ?_
  rintro e w1 ⟨rfl, hs1⟩
  have HS1 := mkHid hs1
  clear hs1
  go_wp2_with (first | (go_at_call 11; refine (num_any _ _ (by omega) (by omega)).mono ?_; rintro e w' ⟨rfl, hw'⟩; rw [hw']; clear hw' w'))
  refine Calls.mono (markM w w1 _ K _ HS1.out hK2) ?_
  rintro e w2 ⟨rfl, H2, hs2, hi2⟩
  have HS2 := mkHid (And.intro hs2 hi2)
  clear hs2 hi2 HS1
  go_wp2_with (first | (go_at_call 11; refine (num_any _ _ (by omega) (by omega)).mono ?_; rintro e w' ⟨rfl, hw'⟩; rw [hw']; clear hw' w'))
  refine Calls.mono (alive_any w2 (HS2.out.1.tab HT.out h2) (HS2.out.1.tab64 HT2.out h2) (by have := HS2.out.1.fr.size; omega)) ?_
  rintro e w3 ⟨rfl, hf3⟩
  have HS3 : Hid (∃ l H, St w w.heap.size w3 l H ∧ MarkInv H 0 0 0 K) := ⟨_, _, HS2.out.1.more hf3, HS2.out.2⟩
  clear hf3 HS2
  go_wp2
  go_loopw [7, 8, 9, 10] (fun g m u i wr => ∃ gd md us ii : Nat, gd ≤ ii ∧ ii ≤ 200 ∧ ii ≤ sz ∧ md ≤ 60 ∧ us ≤ 200 ∧ g = .int .i64 gd ∧ m = .int .i64 md ∧ u = .int .i64 us ∧ i = .int .i64 ii ∧ Hid (∃ l H, St w w.heap.size wr l H ∧ MarkInv H gd md us K)) (fun _ _ _ i _ => 200 - (intOf i).toNat)
  case atStart => exact ⟨0, 0, 0, 0, Nat.le_refl _, by omega, by omega, by omega, by omega, rfl, rfl, rfl, rfl, HS3.out⟩
  case round =>
    obtain ⟨gd, md, us, ii, g1, g2, g3, g4, g5, rfl, rfl, rfl, rfl, hq⟩ := hrel
    by_cases hc : ii < sz ∧ ii < 200
    · obtain ⟨hc1, hc2⟩ := hc
      have hao' := hao (by omega)
      subst hao'
      have hb := hb (by omega)
      clear hao
      obtain ⟨l, H, hst, hinv⟩ := hq.out
      have cl := (hst.fr.cell (p := ⟨b, off + ii, none⟩) hb (by simp)).trans (HC.out ii hc1)
      obtain ⟨z1, z2⟩ := HZ.out ii
      have k1 : (0 : Int) ≤ (ii : Int) := by omega
      have k2 : (ii : Int) < (sz : Int) := by omega
      have k3 : (ii : Int) < 200 := by omega
      have HSM := mkHid (small_any (zs.getD ii 0) wr z1 z2)
      have HMA : Hid (∀ n : Nat, n ≤ 2047 → Calls Tryd.prog 14 #[.pointer (some ⟨w.heap.size, 0, none⟩), .int .i64 8, .int .i64 n, .int .i64 0] wr fun e w' =>
        ((md = 60 ∨ 200 < us + (2 + n)) ∧ e = .returned (.tuple #[.int .i64 0, .int .i64 23]) ∧ ∃ l' H', St w w.heap.size w' l' H' ∧ MarkInv H' gd md us K) ∨
        ((md < 60 ∧ us + (2 + n) ≤ 200) ∧ K - gd = 1 ∧ e = .returned (.tuple #[.int .i64 0, .int .i64 24]) ∧ ∃ l' H', St w w.heap.size w' l' H' ∧ MarkInv H' (gd + 1) md us K ∧ H'.mark = 0) ∨
        ((md < 60 ∧ us + (2 + n) ≤ 200) ∧ K - gd ≠ 1 ∧ e = .returned (.tuple #[.int .i64 ((md + 1 : Nat) : Int), .int .i64 0]) ∧ ∃ l' H', St w w.heap.size w' l' H' ∧ MarkInv H' (gd + 1) (md + 1) (us + n + 2) K)) :=
        fun n hn => markAlloc w wr _ l H gd md us K n hst hinv HT.out HT2.out h2 hK2 hn
      clear hst hinv hq z1 z2
      generalize zs.getD ii 0 = zv at *
      go_wp2_with fail
      refine Calls.mono HSM.out ?_
      rintro e w1 ⟨⟨nn, rfl, n0, n1⟩, hw1⟩
      rw [hw1]
      clear hw1 w1 HSM
      obtain ⟨n, rfl⟩ : ∃ n : Nat, nn = n := ⟨nn.toNat, by omega⟩
      go_wp2_with fail
      refine Calls.mono (HMA.out n (by omega)) ?_
      rintro e w2 (⟨hfull, rfl, hst⟩ | ⟨⟨hl1, hl2⟩, hm, rfl, l', H', hst, hinv, hmk⟩ | ⟨⟨hl1, hl2⟩, hm, rfl, l', H', hst, hinv⟩)
      · have HST := mkHid hst
        clear hst HMA cl
        by_cases h60 : md = 60
        · subst h60
          go_wp2_with (first | (go_at_call 11; refine (num_any _ _ (by omega) (by omega)).mono ?_; rintro e w' ⟨rfl, hw'⟩; rw [hw']; clear hw' w'))
          go_roundw
          case rel => exact ⟨gd, 60, us, ii + 1, by omega, by omega, by omega, by omega, by omega, rfl, rfl, rfl, by go_num, HST⟩
          case measure => simp [intOf]; omega
        · have hb60 : ((md : Int) == 60) = false := by simp; omega
          have hgt : (200 : Int) - us < (n : Int) + 2 := by omega
          clear hfull
          go_wp2_with (first | (go_at_call 11; refine (num_any _ _ (by omega) (by omega)).mono ?_; rintro e w' ⟨rfl, hw'⟩; rw [hw']; clear hw' w'))
          go_roundw
          case rel => exact ⟨gd, md, us, ii + 1, by omega, by omega, by omega, by omega, by omega, rfl, rfl, rfl, by go_num, HST⟩
          case measure => simp [intOf]; omega
      · have hb60 : ((md : Int) == 60) = false := by simp; omega
        have hle : (n : Int) + 2 ≤ (200 : Int) - us := by omega
        have hge : ((gd : Int) + 1 == (K : Int)) = true := by simp; omega
        have HMK := markedM w w2 _ l' H' hst
        rw [hmk] at HMK
        have HM2 := mkHid HMK
        have HST : Hid (∃ l H, St w w.heap.size w2 l H ∧ MarkInv H (gd + 1) md us K) := ⟨_, _, hst, hinv⟩
        clear hst HMA cl HMK hinv hmk
        go_wp2_with (first | (go_at_call 11; refine (num_any _ _ (by omega) (by omega)).mono ?_; rintro e w' ⟨rfl, hw'⟩; rw [hw']; clear hw' w') | (go_at_call 15; refine Calls.mono HM2.out ?_; rintro e w' ⟨rfl, hw'⟩; rw [hw']; clear hw' w'))
        go_roundw
        case rel => exact ⟨gd + 1, md, us, ii + 1, by omega, by omega, by omega, by omega, by omega, by go_num, rfl, rfl, by go_num, HST⟩
        case measure => simp [intOf]; omega
      · have hb60 : ((md : Int) == 60) = false := by simp; omega
        have hle : (n : Int) + 2 ≤ (200 : Int) - us := by omega
        have hge : ((gd : Int) + 1 == (K : Int)) = false := by simp; omega
        have HMK := markedM w w2 _ l' H' hst
        rw [hinv.mark] at HMK
        have HM2 := mkHid HMK
        have HST : Hid (∃ l H, St w w.heap.size w2 l H ∧ MarkInv H (gd + 1) (md + 1) (us + n + 2) K) := ⟨_, _, hst, hinv⟩
        clear hst HMA cl HMK hinv
        by_cases hgk : gd + 1 < K
        · have hgk' : (gd : Int) + 1 < (K : Int) := by omega
          have hsub : ((K - (gd + 1) : Nat) : Int) = (K : Int) - ((gd : Int) + 1) := by omega
          rw [hsub] at HM2
          clear hsub
          go_wp2_with (first | (go_at_call 11; refine (num_any _ _ (by omega) (by omega)).mono ?_; rintro e w' ⟨rfl, hw'⟩; rw [hw']; clear hw' w') | (go_at_call 15; refine Calls.mono HM2.out ?_; rintro e w' ⟨rfl, hw'⟩; rw [hw']; clear hw' w'))
          go_roundw
          case rel => exact ⟨gd + 1, md + 1, us + n + 2, ii + 1, by omega, by omega, by omega, by omega, by omega, by go_num, by go_num, by go_num, by go_num, HST⟩
          case measure => simp [intOf]; omega
        · have hgk' : (K : Int) ≤ (gd : Int) + 1 := by omega
          go_wp2_with (first | (go_at_call 11; refine (num_any _ _ (by omega) (by omega)).mono ?_; rintro e w' ⟨rfl, hw'⟩; rw [hw']; clear hw' w') | (go_at_call 15; refine Calls.mono HM2.out ?_; rintro e w' ⟨rfl, hw'⟩; rw [hw']; clear hw' w'))
          go_roundw
          case rel => exact ⟨gd + 1, md + 1, us + n + 2, ii + 1, by omega, by omega, by omega, by omega, by omega, by go_num, by go_num, by go_num, by go_num, HST⟩
          case measure => simp [intOf]; omega
    · have HF : Hid (Fr [] w wr) := by obtain ⟨l, H, hst, _⟩ := hq.out; exact hst.fr
      clear hq
      by_cases h1 : ii < sz
      · have k2 : (ii : Int) < (sz : Int) := by omega
        have k3 : (200 : Int) ≤ (ii : Int) := by omega
        go_wp2
        go_ret
        exact ⟨rfl, HF.out⟩
      · have k2 : (sz : Int) ≤ (ii : Int) := by omega
        go_wp2
        go_ret
        exact ⟨rfl, HF.out⟩
end Go.Proofs.YtcodfojgilneaaaDoor
