import Derived.Test.YtimlomobbnnehaaDoorLRes
namespace Go.Proofs.YtimlomobbnnehaaDoor
open Go.RowKit
set_option linter.unusedVariables false
set_option linter.unusedSimpArgs false
theorem indexByte_b (s : ByteArray) (c : Int) (k : Int) (h : Lib.indexByte s.data.toList c.toNat.toUInt8 = k) (w : World) : Calls Tryd.prog 49 #[.string s, .int .u8 c] w fun e w' => e = .returned (.int .i64 k) ∧ w' = w := by
  subst h; exact Tryd.strings_IndexByte s c w
set_option maxHeartbeats 4000000 in
theorem cutNothing_v (s : ByteArray) (w : World) : Calls Tryd.prog 19 #[.string s] w fun e w' => e = .returned (.tuple #[.agg #[.int .i64 0, .string ⟨#[]⟩, .int .i64 0, .int .i64 0], .int .i64 0]) ∧ w' = w.alloc (.cells #[.int .i64 0, .string ⟨#[]⟩, .int .i64 0, .int .i64 0] 41) := by
  go_enter Tryd.func19, Tryd.ntmps19
  go_wp2
  refine bodyPost_ret (v := .tuple #[.agg #[.int .i64 0, .string ⟨#[]⟩, .int .i64 0, .int .i64 0], .int .i64 0]) (by simp [results, Tryd.results19, go_sem]) rfl ⟨rfl, rfl⟩
theorem Bl.alloc2 (w : World) (o o' : Obj) : Bl w ((w.alloc o).alloc o') := (Bl.alloc w o).trans (Bl.alloc _ o')
set_option maxHeartbeats 4000000 in
set_option maxRecDepth 1000000 in
theorem cutComment_ok (s : ByteArray) (w : World) (hs : s.size ≤ 140737488355328) (h : hd (lst s) = 34) : Calls Tryd.prog 21 #[.string s] w fun e w' => e = .returned (cv (cutQ (lst s))) ∧ Bl w w' := by
  have hq := cutQ_cmt h
  have hp := hd_lt h (by omega)
  rw [lst_len] at hp
  have hi := indexByte_cmt ((lst s).drop 1)
  cases hc : cmt ((lst s).drop 1) with
  | none =>
    rw [hc] at hq hi
    have hi' : Lib.indexByte (s.extract 1 s.size).data.toList (34 : Int).toNat.toUInt8 = -1 := by
      rw [show (s.extract 1 s.size).data.toList = (lst s).drop 1 from lst_from s 1]; exact hi
    simp only at hq
    rw [hq]
    clear hq hi hc h
    go_enter Tryd.func21, Tryd.ntmps21
    go_wp2_with (first | (go_at_call 49; refine (indexByte_b _ 34 (-1) hi' _).mono ?_; rintro e w1 ⟨rfl, rfl⟩) | (go_at_call 19; refine (cutNothing_v s _).mono ?_; rintro e w2 ⟨rfl, rfl⟩))
    refine bodyPost_ret (v := cv (0, [], 0, 0)) (by simp [results, Tryd.results21, go_sem, cv, ba]) rfl ⟨rfl, Bl.alloc2 _ _ _⟩
  | some n =>
    have hn := cmt_n _ _ hc
    rw [List.length_drop, lst_len] at hn
    rw [hc] at hq hi
    have hi' : Lib.indexByte (s.extract 1 s.size).data.toList (34 : Int).toNat.toUInt8 = (n : Int) - 1 := by
      rw [show (s.extract 1 s.size).data.toList = (lst s).drop 1 from lst_from s 1]; exact hi
    simp only at hq
    rw [hq]
    clear hq hi hc h
    go_enter Tryd.func21, Tryd.ntmps21
    go_wp2_with (first | (go_at_call 49; refine (indexByte_b _ 34 ((n : Int) - 1) hi' _).mono ?_; rintro e w1 ⟨rfl, rfl⟩) | (go_at_call 19; refine (cutNothing_v s _).mono ?_; rintro e w2 ⟨rfl, rfl⟩))
    refine bodyPost_ret (v := cv (0, [], 0, n + 1)) (by simp [results, Tryd.results21, go_sem, cv, ba]; omega) rfl ⟨rfl, Bl.alloc _ _⟩
set_option maxHeartbeats 4000000 in
set_option maxRecDepth 1000000 in
theorem cutWord_ok (s : ByteArray) (w : World) (hs : s.size ≤ 140737488355328) (h : isL (hd (lst s)) = true) : Calls Tryd.prog 22 #[.string s] w fun e w' => e = .returned (cv (cutQ (lst s))) ∧ Bl w w' := by
  have hq := cutQ_word h
  have hle := nameLen_le (lst s)
  rw [lst_len] at hle
  have hn := fun w => nameLength_ok s w hs
  have hk := fun w => kwLength_ok s w hs
  have ht := mkHid (ba_upto s (nameLen (lst s)))
  by_cases k0 : kwLen (lst s) = 0
  · rw [if_pos k0] at hq
    rw [hq]
    rw [k0] at hk
    clear hq h k0
    generalize nameLen (lst s) = n at *
    have hle' : (n : Int) ≤ s.size := by omega
    go_enter Tryd.func22, Tryd.ntmps22
    go_wp2_with (first
      | (go_at_call 50; refine (hn _).mono ?_; rintro e w1 ⟨rfl, b1⟩; obtain ⟨hr1, bb1, lt1⟩ := res_in b1)
      | (go_at_call 51; refine (hk _).mono ?_; rintro e w2 ⟨rfl, b2⟩; have hr2 := (b2.block _ lt1).trans hr1; have bb2 := bb1.trans b2; obtain ⟨r0, r1, r2, r3, y0, y1, y2, y3⟩ := resF hr2))
    exact ret4 (1, (lst s).take n, 0, n) Tryd.results22 hr2 bb2 (Nat.le_refl _) rfl rfl rfl (by rw [ht.out]) rfl rfl
  · rw [if_neg k0] at hq
    rw [hq]
    clear hq h
    generalize nameLen (lst s) = n at *
    generalize kwLen (lst s) = m at *
    have hle' : (n : Int) ≤ s.size := by omega
    have hm' : (0 : Int) < m := by omega
    go_enter Tryd.func22, Tryd.ntmps22
    go_wp2_with (first
      | (go_at_call 50; refine (hn _).mono ?_; rintro e w1 ⟨rfl, b1⟩; obtain ⟨hr1, bb1, lt1⟩ := res_in b1)
      | (go_at_call 51; refine (hk _).mono ?_; rintro e w2 ⟨rfl, b2⟩; have hr2 := (b2.block _ lt1).trans hr1; have bb2 := bb1.trans b2; obtain ⟨r0, r1, r2, r3, y0, y1, y2, y3⟩ := resF hr2))
    exact ret4 (2, (lst s).take n, 0, m) Tryd.results22 hr2 bb2 (Nat.le_refl _) rfl rfl rfl (by rw [ht.out]) rfl rfl
set_option maxHeartbeats 4000000 in
set_option maxRecDepth 1000000 in
theorem cutBinary_ok (s : ByteArray) (w : World) (hs : s.size ≤ 140737488355328) (h : isO (hd (lst s)) = true) : Calls Tryd.prog 25 #[.string s] w fun e w' => e = .returned (cv (cutQ (lst s))) ∧ Bl w w' := by
  have hq := cutQ_op h
  have hle := opLen_le (lst s)
  rw [lst_len] at hle
  have hn := fun w => opLength_ok s w hs
  have ht := mkHid (ba_upto s (opLen (lst s)))
  rw [hq]
  clear hq h
  generalize opLen (lst s) = n at *
  have hle' : (n : Int) ≤ s.size := by omega
  go_enter Tryd.func25, Tryd.ntmps25
  go_wp2_with (go_at_call 54; refine (hn _).mono ?_; rintro e w1 ⟨rfl, rfl⟩)
  refine bodyPost_ret (v := cv (3, (lst s).take n, 0, n)) (by simp [results, Tryd.results25, go_sem, cv, ht.out]) rfl ⟨rfl, Bl.alloc _ _⟩
end Go.Proofs.YtimlomobbnnehaaDoor

