import Derived.Test.YtimlomobbnnehaaDoorLText
namespace Go.Proofs.YtimlomobbnnehaaDoor
open Go.RowKit
set_option linter.unusedVariables false
set_option linter.unusedSimpArgs false
set_option maxHeartbeats 8000000 in
set_option maxRecDepth 1000000 in
theorem cutHash_ok (s : ByteArray) (w : World) (hT : Tab w) (hs : s.size ≤ 140737488355328) (h : hd (lst s) = 35) : Calls Tryd.prog 24 #[.string s] w fun e w' => e = .returned (cv (cutQ (lst s))) ∧ Bl w w' := by
  have hq := cutQ_hash h
  have hp := hd_lt h (by omega)
  rw [lst_len] at hp
  have hle := symLen_le ((lst s).drop 1)
  rw [List.length_drop, lst_len] at hle
  have hsy := fun w => symLength_ok (s.extract 1 s.size) w (by rw [size_from]; omega)
  rw [lst_from] at hsy
  by_cases k0 : symLen ((lst s).drop 1) = 0
  · rw [if_pos k0] at hq
    have hm := markF_is (lst s)
    rw [h, if_neg (show ¬ ((35 : Nat) = 58 ∧ _) by omega), show markK 35 = 0 from rfl] at hm
    simp only [true_and, if_true] at hm
    rw [← hm] at hq
    have hM : ∀ W, Tab W → Calls Tryd.prog 27 #[.string s] W fun e w' => e = .returned (.tuple #[.agg #[.int .i64 (cutQ (lst s)).1, .string (ba (cutQ (lst s)).2.1), .int .i64 (cutQ (lst s)).2.2.1, .int .i64 0], .int .i64 (cutQ (lst s)).2.2.2]) ∧ Bl W w' := fun W hW => by
      have := cutMark_ok s W hW
      rw [← hq] at this
      exact this
    rw [k0] at hsy
    clear hq hm k0 hle
    generalize cutQ (lst s) = x at *
    obtain ⟨x1, x2, x3, x4⟩ := x
    dsimp only at hM
    go_enter Tryd.func24, Tryd.ntmps24
    go_wp2_with (first
      | (go_at_call 53; refine (hsy _).mono ?_; rintro e w1 ⟨rfl, b1⟩; obtain ⟨hr1, bb1, lt1⟩ := res_in b1)
      | (go_at_call 27; refine (hM _ (hT.mono bb1)).mono ?_; rintro e w2 ⟨rfl, b2⟩; have hr2 := (b2.block _ lt1).trans hr1; have bb2 := bb1.trans b2; obtain ⟨r0, r1, r2, r3, y0, y1, y2, y3⟩ := resF hr2))
    exact ret4 (x1, x2, x3, x4) Tryd.results24 hr2 bb2 (Nat.le_refl _) rfl rfl rfl rfl rfl rfl
  · rw [if_neg k0] at hq
    rw [hq]
    have ht := mkHid (ba_mid s 1 (1 + symLen ((lst s).drop 1)))
    rw [show 1 + symLen ((lst s).drop 1) - 1 = symLen ((lst s).drop 1) by omega] at ht
    clear hq
    generalize symLen ((lst s).drop 1) = n at *
    have hn : (1 : Int) + n ≤ s.size := by omega
    have hn1 : 1 + n ≤ s.size := by omega
    have hsl : ∀ W, (Instr.slice 9 (.string s) (some (.int .i64 1)) (some (.int .i64 (1 + (n : Int)))) none).run Tryd.prog W = .ok (.string (s.extract 1 (1 + n))) W := fun W => by
      have h5 := run_slice_string (P := Tryd.prog) W 9 s .i64 .i64 1 (1 + (n : Int)) Tryd.underlying9 (by omega) (by omega) (by omega)
      rw [h5, show (1 + (n : Int)).toNat = 1 + n by omega]
      rfl
    go_enter Tryd.func24, Tryd.ntmps24
    go_wp2_with (go_at_call 53; refine (hsy _).mono ?_; rintro e w1 ⟨rfl, b1⟩; obtain ⟨hr1, bb1, lt1⟩ := res_in b1; obtain ⟨r0, r1, r2, r3, y0, y1, y2, y3⟩ := resF hr1)
    exact ret4 (5, ((lst s).drop 1).take n, 0, n + 1) Tryd.results24 hr1 bb1 (Nat.le_refl _) rfl (by show Value.int .i64 ((1 : Int) + n) = .int .i64 ((n + 1 : Nat) : Int); congr 1; omega) rfl (by rw [ht.out]) rfl rfl
set_option maxHeartbeats 8000000 in
set_option maxRecDepth 1000000 in
theorem cutInt_ok (s : ByteArray) (w : World) (hs : s.size ≤ 140737488355328) (h : isD (hd (lst s)) = true) : Calls Tryd.prog 23 #[.string s] w fun e w' => e = .returned (cv (cutQ (lst s))) ∧ Bl w w' := by
  have hq := mkHid (cutQ_int h)
  have hle := digLen_le (lst s)
  rw [lst_len] at hle
  have hdg := fun w => digLength_ok s w hs
  have hD : ∀ j, j < digLen (lst s) → isD (hd ((lst s).drop j)) = true := fun j hj => by
    obtain ⟨c, e, hc⟩ := tw_hd dN (lst s) j hj
    rw [e]; exact hc
  have hlx : lst (s.extract 0 (digLen (lst s))) = (lst s).take (digLen (lst s)) := by rw [lst_mid]; simp
  generalize digLen (lst s) = n at *
  have hszx : (s.extract 0 n).size = n := by rw [← lst_len, hlx, List.length_take, lst_len]; omega
  have hn : (n : Int) ≤ s.size := by omega
  have hx : ∀ j, j < n → hd ((lst (s.extract 0 n)).drop j) = hd ((lst s).drop j) := fun j hj => by
    rw [hlx, List.drop_take]
    obtain ⟨m, hm⟩ : ∃ m, n - j = m + 1 := ⟨n - j - 1, by omega⟩
    rw [hm]
    cases (lst s).drop j with
    | nil => rfl
    | cons c r => rfl
  have hnt : ∀ j, j < n → numOf ((lst s).take (j + 1)) = 10 * numOf ((lst s).take j) + (hd ((lst s).drop j) - 48) := fun j hj => numOf_take (by rw [lst_len]; omega)
  have hmo : ∀ j, j ≤ n → numOf ((lst s).take j) ≤ numOf ((lst s).take n) := fun j hj => numOf_mono hj (by rw [lst_len]; omega)
  clear hlx
  obtain ⟨t, ht⟩ : ∃ t, t = s.extract 0 n := ⟨_, rfl⟩
  rw [← ht] at hszx hx
  have HT := mkHid ht
  clear ht
  go_enter Tryd.func23, Tryd.ntmps23
  go_wp2_with (go_at_call 52; refine (hdg _).mono ?_; rintro e w1 ⟨rfl, b1⟩; obtain ⟨hr1, bb1, lt1⟩ := res_in b1)
  rw [← HT.out]
  go_loopw [5] (fun q wr => ∃ pos : Nat, wr.heap[w1.heap.size]? = some (.stringIter t pos) ∧ pos ≤ n ∧ q = .int .i64 (numOf ((lst s).take pos)) ∧ numOf ((lst s).take pos) ≤ 1073741824 ∧ Hid (wr.heap[w.heap.size]? = some z4 ∧ Bl w wr)) (fun _ wr => n - wr.iterPos w1.heap.size)
  case atStart =>
    refine ⟨0, ?_, Nat.zero_le _, rfl, by simp [numOf], ?_, bb1.trans (Bl.alloc _ _)⟩
    · have := World.iter_heap w1 t 0
      simpa using this
    · exact (Below.heap_alloc _ _ _ lt1).trans hr1
  case round =>
    obtain ⟨pos, hit, hpn, rfl, hmax, hH⟩ := hrel
    obtain ⟨r0, r1, r2, r3, y0, y1, y2, y3⟩ := resF hH.out.1
    by_cases hp : pos < n
    · have hpt : pos < t.size := by omega
      have hd1 := hD pos hp
      have hx1 := hx pos hp
      have hn1 := hnt pos hp
      have hm1 := hmo (pos + 1) hp
      rw [isD_iff] at hd1
      have hb := get_lst t pos hpt
      rw [hx1] at hb
      have hnx : ∀ ty, (Instr.next (.pointer (some ⟨w1.heap.size, 0, none⟩)) true ty).run Tryd.prog wr = _ := fun ty => Lib.run_next_ascii_at wr w1.heap.size t pos ty hit hpt (by rw [← hb]; omega)
      have hit2 := Lib.iterAt_heap wr w1.heap.size t pos (pos + 1) hit
      have hne : w.heap.size ≠ w1.heap.size := by omega
      have hH2 : Hid ((wr.iterAt w1.heap.size t (pos + 1)).heap[w.heap.size]? = some z4 ∧ Bl w (wr.iterAt w1.heap.size t (pos + 1))) :=
        ⟨(Lib.iterAt_other wr w1.heap.size w.heap.size t (pos + 1) hne).trans hH.out.1, Lib.below_iterAt hH.out.2 (by omega) t (pos + 1)⟩
      obtain ⟨q0, q1, q2, q3, z0, z1, z2, z3⟩ := resF hH2.out.1
      rw [← hb] at hnx
      generalize wr.iterAt w1.heap.size t (pos + 1) = W at *
      have hlW := lt_of_heap hH2.out.1
      clear hb hx1 hnt hmo hD hx r0 r1 r2 r3 y0 y1 y2 y3
      generalize hd ((lst s).drop pos) = c at *
      generalize numOf ((lst s).take pos) = v at *
      have hcv : (48 : Int) ≤ c ∧ (c : Int) ≤ 57 := by omega
      by_cases hbig : 1073741824 < 10 * v + (c - 48)
      · have hQ : cutQ (lst s) = (0, [], 0, 0) := by rw [hq.out, if_neg (by omega)]
        have hgt : ((1073741824 : Int) - ((c : Int) - 48)) / 10 < v := by omega
        have HQ := mkHid hQ
        clear hQ
        go_wp2_with (go_at_call 19; refine (cutNothing_v s _).mono ?_; rintro e w2 ⟨rfl, rfl⟩)
        rw [HQ.out]
        exact ret4' (0, [], 0, 0) Tryd.results23 ((Below.heap_alloc _ _ _ (lt_of_heap (set4_heap hH2.out.1 _ _ _ _))).trans (set4_heap hH2.out.1 _ _ _ _)) ((set4_bl hH2.out.2 (Nat.le_refl _) _ _ _ _).trans (Bl.alloc _ _)) rfl rfl
      · have hle2 : ¬ ((1073741824 : Int) - ((c : Int) - 48)) / 10 < v := by omega
        go_wp2_with (go_at_call 19; refine (cutNothing_v s _).mono ?_; rintro e w2 ⟨rfl, rfl⟩)
        go_roundw
        case rel => exact ⟨pos + 1, hit2, by omega, by rw [hn1]; simp; omega, by omega, hH2.out.1, hH2.out.2⟩
        case measure => simp only [World.iterPos, hit2, hit]; omega
    · have hpe : pos = n := by omega
      subst hpe
      have hnx : ∀ ty, (Instr.next (.pointer (some ⟨w1.heap.size, 0, none⟩)) true ty).run Tryd.prog wr = _ := fun ty => Lib.run_next_end_at wr w1.heap.size t pos ty hit (by omega)
      have hQ := mkHid (show cutQ (lst s) = (4, [], numOf ((lst s).take pos), pos) by rw [hq.out, if_pos hmax])
      go_wp2
      go_wp2
      rw [hQ.out]
      exact ret4 (4, [], numOf ((lst s).take pos), pos) Tryd.results23 hH.out.1 hH.out.2 (Nat.le_refl _) rfl rfl rfl rfl rfl rfl
end Go.Proofs.YtimlomobbnnehaaDoor

