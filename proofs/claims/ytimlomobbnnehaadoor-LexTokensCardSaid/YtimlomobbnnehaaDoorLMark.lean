import Derived.Test.YtimlomobbnnehaaDoorLMark0
namespace Go.Proofs.YtimlomobbnnehaaDoor
open Go.RowKit
set_option linter.unusedVariables false
set_option linter.unusedSimpArgs false
theorem markF_at {k : Nat} (hk : k < 11) (l : Bs) : markF (marksL.drop k) l = if Lib.hasPrefix l (txAt k) = true then (kdAt k, [], 0, (txAt k).length) else markF (marksL.drop (k + 1)) l := by
  have e : marksL.drop k = (kdAt k, txAt k) :: marksL.drop (k + 1) := by
    have hcase : k = 0 ∨ k = 1 ∨ k = 2 ∨ k = 3 ∨ k = 4 ∨ k = 5 ∨ k = 6 ∨ k = 7 ∨ k = 8 ∨ k = 9 ∨ k = 10 := by omega
    rcases hcase with rfl | rfl | rfl | rfl | rfl | rfl | rfl | rfl | rfl | rfl | rfl <;> rfl
  rw [e]
  rfl
set_option maxHeartbeats 8000000 in
set_option maxRecDepth 1000000 in
theorem cutMark_ok (s : ByteArray) (w : World) (hT : Tab w) : Calls Tryd.prog 27 #[.string s] w fun e w' => e = .returned (cv (markF marksL (lst s))) ∧ Bl w w' := by
  obtain ⟨MV, hMV⟩ : ∃ MV : Value, MV = .agg marksC.toArray := ⟨_, rfl⟩
  have hlv : ∀ o, (loadVar 64 ⟨0, 0, none⟩).run Tryd.prog (w.alloc o) = .ok MV (w.alloc o) := fun o => by rw [hMV]; exact load_marks (hT.mono (Bl.alloc w o))
  have hix : ∀ k : Nat, k < 11 → ∀ W, (Instr.index 64 MV (.int .i64 k)).run Tryd.prog W = .ok (.agg #[.int .i64 (kdAt k), .string (ba (txAt k))]) W := fun k hk W => by rw [hMV]; exact index_marks hk
  clear hMV hT
  go_enter Tryd.func27, Tryd.ntmps27
  go_wp2_with (refine wpList_loadV rfl 64 _ rfl ⟨0, 0, none⟩ rfl (hlv _) ?_)
  clear hlv
  go_loopw [7] (fun q wr => ∃ k : Nat, k ≤ 11 ∧ q = .int .i64 k ∧ Hid (markF marksL (lst s) = markF (marksL.drop k) (lst s) ∧ wr.heap[w.heap.size]? = some z4 ∧ Bl w wr)) (fun q _ => 11 - (intOf q).toNat)
  case atStart => exact ⟨0, by omega, rfl, rfl, heap_alloc_new w _, Bl.alloc w _⟩
  case round =>
    obtain ⟨k, hk, rfl, hH⟩ := hrel
    obtain ⟨r0, r1, r2, r3, y0, y1, y2, y3⟩ := resF hH.out.2.1
    have hlt := lt_of_heap hH.out.2.1
    by_cases hk11 : k < 11
    · have hx := hix k hk11
      have hki : (k : Int) < 11 := by omega
      clear hix
      by_cases hp : Lib.hasPrefix (lst s) (txAt k) = true
      · have hV : markF marksL (lst s) = (kdAt k, [], 0, (txAt k).length) := by rw [hH.out.1, markF_at hk11, if_pos hp]
        have hp' : Lib.hasPrefix s.data.toList (ba (txAt k)).data.toList = true := by
          rw [show (ba (txAt k)).data.toList = txAt k from lst_ba _]; exact hp
        have HV := mkHid hV
        clear hV hp
        generalize kdAt k = kd at *
        generalize txAt k = tx at *
        go_wp2_with (go_at_call 56; refine (prefix_b s _ true hp' _).mono ?_; rintro e w1 ⟨rfl, rfl⟩)
        go_region
        go_wp2
        rw [HV.out]
        exact ret4' (kd, [], 0, tx.length) Tryd.results27 ((Below.heap_alloc _ _ _ (lt_of_heap (set4_heap hH.out.2.1 _ _ _ _))).trans (set4_heap hH.out.2.1 _ _ _ _)) (((set4_bl hH.out.2.2 (Nat.le_refl _) _ _ _ _).trans (Bl.alloc _ _)).trans (Bl.drew _)) rfl (by show Value.int .i64 ((ba tx).size : Int) = _; rw [← lst_len, lst_ba])
      · have hV : markF marksL (lst s) = markF (marksL.drop (k + 1)) (lst s) := by rw [hH.out.1, markF_at hk11, if_neg hp]
        have hp' : Lib.hasPrefix s.data.toList (ba (txAt k)).data.toList = false := by
          rw [show (ba (txAt k)).data.toList = txAt k from lst_ba _]; simpa [lst] using hp
        have HV := mkHid hV
        clear hV hp
        generalize kdAt k = kd at *
        generalize txAt k = tx at *
        go_wp2_with (go_at_call 56; refine (prefix_b s _ false hp' _).mono ?_; rintro e w1 ⟨rfl, rfl⟩)
        go_roundw
        case rel => exact ⟨k + 1, by omega, by simp, HV.out, (Below.heap_alloc _ _ _ hlt).trans hH.out.2.1, hH.out.2.2.trans (Bl.alloc _ _)⟩
        case measure => simp [intOf]; omega
    · have hk' : k = 11 := by omega
      have hV : markF marksL (lst s) = (0, [], 0, 0) := by rw [hH.out.1, hk']; rfl
      have HV := mkHid hV
      clear hV hk hk11 hix
      subst hk'
      go_wp2_with (go_at_call 19; fail)
      go_wp2_with (go_at_call 19; refine (cutNothing_v s _).mono ?_; rintro e w2 ⟨rfl, rfl⟩)
      rw [HV.out]
      exact ret4' (0, [], 0, 0) Tryd.results27 ((Below.heap_alloc _ _ _ (lt_of_heap (set4_heap hH.out.2.1 _ _ _ _))).trans (set4_heap hH.out.2.1 _ _ _ _)) ((set4_bl hH.out.2.2 (Nat.le_refl _) _ _ _ _).trans (Bl.alloc _ _)) rfl rfl
/-- the marks, by the first bytes -/
theorem markF_is (l : Bs) : markF marksL l = if hd l = 35 ∧ hd (l.drop 1) = 40 then (7, [], 0, 2) else if hd l = 58 ∧ hd (l.drop 1) = 61 then (14, [], 0, 2) else if markK (hd l) = 0 then (0, [], 0, 0) else (markK (hd l), [], 0, 1) := by
  unfold marksL
  simp only [markF, pre1, pre2, decide_eq_true_eq]
  unfold markK
  simp only [show UInt8.toNat 35 = 35 from rfl, show UInt8.toNat 40 = 40 from rfl, show UInt8.toNat 58 = 58 from rfl, show UInt8.toNat 61 = 61 from rfl, show UInt8.toNat 41 = 41 from rfl, show UInt8.toNat 91 = 91 from rfl, show UInt8.toNat 93 = 93 from rfl, show UInt8.toNat 124 = 124 from rfl, show UInt8.toNat 94 = 94 from rfl, show UInt8.toNat 46 = 46 from rfl, show UInt8.toNat 59 = 59 from rfl]
  generalize hd l = n
  generalize hd (l.drop 1) = m
  by_cases h35 : n = 35
  · subst h35; simp
  by_cases h58 : n = 58
  · subst h58; simp
  by_cases h40 : n = 40
  · subst h40; simp
  by_cases h41 : n = 41
  · subst h41; simp
  by_cases h91 : n = 91
  · subst h91; simp
  by_cases h93 : n = 93
  · subst h93; simp
  by_cases h124 : n = 124
  · subst h124; simp
  by_cases h94 : n = 94
  · subst h94; simp
  by_cases h46 : n = 46
  · subst h46; simp
  by_cases h59 : n = 59
  · subst h59; simp
  simp [h35, h58, h40, h41, h91, h93, h124, h94, h46, h59]
end Go.Proofs.YtimlomobbnnehaaDoor

