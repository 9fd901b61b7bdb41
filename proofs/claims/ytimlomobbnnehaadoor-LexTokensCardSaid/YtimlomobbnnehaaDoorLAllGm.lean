import Derived.Test.YtimlomobbnnehaaDoorLAllF
import Derived.Test.YtimlomobbnnehaaDoorLTokC
namespace Go.Proofs.YtimlomobbnnehaaDoor
open Go.RowKit Go.Maps
set_option linter.unusedVariables false
set_option linter.unusedSimpArgs false
set_option maxHeartbeats 16000000 in
set_option maxRecDepth 1000000 in
theorem rToken_int (s : ByteArray) (a : Nat) (w : World) (ha : a < s.size) (hs : s.size ≤ 140737488355328) (hL : isD (hd ((lst s).drop a)) = true) : Calls Tryd.prog 18 #[.string s, .int .i64 a] w fun e w' =>
    e = .returned (tokR (cutQ ((lst s).drop a)) a) ∧ Bl w w' := by
  have hai : (a : Int) < s.size := by omega
  have hb := get_lst s a ha
  obtain ⟨W, hW⟩ : ∃ W, W = w.alloc (.cells #[.int .i64 0, .string ⟨#[]⟩, .int .i64 0, .int .i64 0] 41) := ⟨_, rfl⟩
  have HB : Hid (Bl w W) := by rw [hW]; exact Bl.alloc _ _
  have HR : Hid (W.heap[w.heap.size]? = some z4) := by rw [hW]; exact heap_alloc_new w _
  obtain ⟨r0, r1, r2, r3, y0, y1, y2, y3⟩ := resF HR.out
  have hq := cutQ_int hL
  have hn := fun w => rNumber_ok s a w (Nat.le_of_lt ha) hs
  have hp := digLen_pos hL
  have hle := digLen_le ((lst s).drop a)
  rw [List.length_drop, lst_len] at hle
  have hl := rLetter_ok (s[a]'ha).toNat
  have hd' := rDigit_ok (s[a]'ha).toNat
  rw [hb] at hL
  rw [hL] at hd'
  rw [(cls _ (toNat_lt8 _)).2.1 hL] at hl
  clear hL hb
  by_cases hN : numOf (((lst s).drop a).take (digLen ((lst s).drop a))) ≤ 1073741824
  · rw [if_pos hN] at hq
    rw [hq, tokR_yes a (by omega)]
    rw [numV_small hN] at hn
    clear hq
    generalize numOf (((lst s).drop a).take (digLen ((lst s).drop a))) = N at *
    generalize digLen ((lst s).drop a) = n0 at *
    have hNi : ¬ (N : Int) < 0 := by omega
    go_enter Tryd.func18, Tryd.ntmps18
    go_wp2_with (go_at_call 38; fail)
    rw [← hW]
    clear hW
    go_wp2_with (first | (go_at_call 38; refine (hl _).mono ?_; rintro e w1 ⟨rfl, h⟩; have h3 := h.symm; subst h3) | (go_at_call 41; refine (hd' _).mono ?_; rintro e w1 ⟨rfl, h⟩; have h3 := h.symm; subst h3) | (go_at_call 42; refine (hn _).mono ?_; rintro e w1 ⟨rfl, h⟩; have h3 := h.symm; subst h3))
    exact ret4b 4 [] N a (a + n0) Tryd.results18 HR.out HB.out (Nat.le_refl _) rfl (by show Value.int .i64 _ = Value.int .i64 _; congr 1 <;> omega) rfl rfl rfl rfl
  · rw [if_neg hN] at hq
    rw [hq, tokR_no]
    rw [numV_great hN] at hn
    clear hq
    generalize digLen ((lst s).drop a) = n0 at *
    go_enter Tryd.func18, Tryd.ntmps18
    go_wp2_with (go_at_call 38; fail)
    rw [← hW]
    clear hW
    go_wp2_with (first | (go_at_call 38; refine (hl _).mono ?_; rintro e w1 ⟨rfl, h⟩; have h3 := h.symm; subst h3) | (go_at_call 41; refine (hd' _).mono ?_; rintro e w1 ⟨rfl, h⟩; have h3 := h.symm; subst h3) | (go_at_call 42; refine (hn _).mono ?_; rintro e w1 ⟨rfl, h⟩; have h3 := h.symm; subst h3))
    exact ret4b 0 [] 0 0 a Tryd.results18 HR.out HB.out (Nat.le_refl _) rfl rfl rfl rfl rfl rfl
end Go.Proofs.YtimlomobbnnehaaDoor
namespace Go.Proofs.YtimlomobbnnehaaDoor
open Go.RowKit Go.Maps
set_option linter.unusedVariables false
set_option linter.unusedSimpArgs false
set_option maxHeartbeats 16000000 in
set_option maxRecDepth 1000000 in
theorem rToken_op (s : ByteArray) (a : Nat) (w : World) (ha : a < s.size) (hs : s.size ≤ 140737488355328) (hO : isO (hd ((lst s).drop a)) = true) : Calls Tryd.prog 18 #[.string s, .int .i64 a] w fun e w' =>
    e = .returned (tokR (cutQ ((lst s).drop a)) a) ∧ Bl w w' := by
  have hai : (a : Int) < s.size := by omega
  have hb := get_lst s a ha
  obtain ⟨W, hW⟩ : ∃ W, W = w.alloc (.cells #[.int .i64 0, .string ⟨#[]⟩, .int .i64 0, .int .i64 0] 41) := ⟨_, rfl⟩
  have HB : Hid (Bl w W) := by rw [hW]; exact Bl.alloc _ _
  have HR : Hid (W.heap[w.heap.size]? = some z4) := by rw [hW]; exact heap_alloc_new w _
  obtain ⟨r0, r1, r2, r3, y0, y1, y2, y3⟩ := resF HR.out
  have hq := cutQ_op hO
  have hn := fun w => rSigns_ok s a w (Nat.le_of_lt ha) hs
  have hp : 1 ≤ opLen ((lst s).drop a) := by unfold opLen; rw [if_pos hO]; split <;> omega
  have hle := opLen_le ((lst s).drop a)
  rw [List.length_drop, lst_len] at hle
  have hx := mkHid (ba_mid s a (a + opLen ((lst s).drop a)))
  rw [Nat.add_sub_cancel_left] at hx
  have hl := rLetter_ok (s[a]'ha).toNat
  have hd' := rDigit_ok (s[a]'ha).toNat
  have ho := rOp_ok (s[a]'ha).toNat (toNat_lt8 _)
  rw [hb] at hO
  obtain ⟨c1, c2, c3⟩ := (cls _ (toNat_lt8 _)).2.2.2.1 hO
  rw [hO] at ho
  rw [c1] at hl
  rw [c2] at hd'
  have c3i : ¬ ((s[a]'ha).toNat : Int) = 35 := by omega
  rw [hq, tokR_yes a (by omega)]
  clear hO hb c1 c2 c3 hq
  have hm : (a : Int) + opLen ((lst s).drop a) ≤ s.size := by omega
  generalize hg : ((lst s).drop a).take (opLen ((lst s).drop a)) = T at *
  generalize opLen ((lst s).drop a) = n0 at *
  have hn : ∀ w, Calls Tryd.prog 46 #[.string s, .int .i64 a] w fun e w' => e = .returned (.int .i64 ((a : Int) + n0)) ∧ w' = w := hn
  have hsl := slice_at s (a : Int) ((a : Int) + n0) a (a + n0) rfl (by omega) (by omega) (by omega)
  go_enter Tryd.func18, Tryd.ntmps18
  go_wp2_with (go_at_call 38; fail)
  rw [← hW]
  clear hW
  go_wp2_with (first | (go_at_call 38; refine (hl _).mono ?_; rintro e w1 ⟨rfl, h⟩; have h3 := h.symm; subst h3) | (go_at_call 41; refine (hd' _).mono ?_; rintro e w1 ⟨rfl, h⟩; have h3 := h.symm; subst h3) | (go_at_call 45; refine (ho _).mono ?_; rintro e w1 ⟨rfl, h⟩; have h3 := h.symm; subst h3) | (go_at_call 46; refine (hn _).mono ?_; rintro e w1 ⟨rfl, h⟩; have h3 := h.symm; subst h3))
  exact ret4b 3 T 0 a (a + n0) Tryd.results18 HR.out HB.out (Nat.le_refl _) rfl (by show Value.int .i64 _ = Value.int .i64 _; congr 1 <;> omega) rfl (by rw [hx.out]) rfl rfl
end Go.Proofs.YtimlomobbnnehaaDoor
namespace Go.Proofs.YtimlomobbnnehaaDoor
open Go.RowKit Go.Maps
set_option linter.unusedVariables false
set_option linter.unusedSimpArgs false
set_option maxHeartbeats 16000000 in
set_option maxRecDepth 1000000 in
theorem rToken_hash (s : ByteArray) (a : Nat) (w : World) (ha : a < s.size) (hs : s.size ≤ 140737488355328) (hH : hd ((lst s).drop a) = 35) : Calls Tryd.prog 18 #[.string s, .int .i64 a] w fun e w' =>
    e = .returned (tokR (cutQ ((lst s).drop a)) a) ∧ Bl w w' := by
  have hai : (a : Int) < s.size := by omega
  have hb := get_lst s a ha
  obtain ⟨W, hW⟩ : ∃ W, W = w.alloc (.cells #[.int .i64 0, .string ⟨#[]⟩, .int .i64 0, .int .i64 0] 41) := ⟨_, rfl⟩
  have HB : Hid (Bl w W) := by rw [hW]; exact Bl.alloc _ _
  have HR : Hid (W.heap[w.heap.size]? = some z4) := by rw [hW]; exact heap_alloc_new w _
  obtain ⟨r0, r1, r2, r3, y0, y1, y2, y3⟩ := resF HR.out
  have hq := cutQ_hash hH
  rw [List.drop_drop] at hq
  have hn := fun w => rSymbol_ok s (a + 1) w (by omega) hs
  have hi := fun w => rIs_ok s (a + 1) 40 w hs (by omega)
  have hle := symLen_le ((lst s).drop (a + 1))
  rw [List.length_drop, lst_len] at hle
  have hx := mkHid (ba_mid s (a + 1) (a + 1 + symLen ((lst s).drop (a + 1))))
  rw [Nat.add_sub_cancel_left] at hx
  have hl := rLetter_ok (s[a]'ha).toNat
  have hd' := rDigit_ok (s[a]'ha).toNat
  rw [hb] at hH
  obtain ⟨c1, c2, c3⟩ := (cls _ (toNat_lt8 _)).2.2.1 hH
  rw [c1, hH] at hl
  rw [c2, hH] at hd'
  have hl : ∀ w, Calls Tryd.prog 38 #[.int .u8 35] w fun e w' => e = .returned (.bool false) ∧ w' = w := hl
  have hd' : ∀ w, Calls Tryd.prog 41 #[.int .u8 35] w fun e w' => e = .returned (.bool false) ∧ w' = w := hd'
  have c3i : ((s[a]'ha).toNat : Int) = 35 := by omega
  clear hb c1 c2 c3 hH
  by_cases h40 : hd ((lst s).drop (a + 1)) = 40
  · have hz : symLen ((lst s).drop (a + 1)) = 0 := by
      have hnl : nameLen ((lst s).drop (a + 1)) = 0 := nameLen_zero (by rw [h40]; decide)
      unfold symLen
      rw [if_pos (kwsLen_zero (kwLen_zero (Or.inl hnl))), hnl]
      unfold opLen
      rw [h40, if_neg (by decide)]
      rfl
    rw [if_pos hz, if_pos h40] at hq
    rw [hq, tokR_yes a (by omega)]
    rw [decide_eq_true h40] at hi
    have hi : ∀ w, Calls Tryd.prog 43 #[.string s, .int .i64 ((a : Int) + 1), .int .u8 40] w fun e w' => e = .returned (.bool true) ∧ w' = w := hi
    clear hq h40 hx hn hz
    go_enter Tryd.func18, Tryd.ntmps18
    go_wp2_with (go_at_call 38; fail)
    rw [← hW]
    clear hW
    go_wp2_with (first | (go_at_call 38; refine (hl _).mono ?_; rintro e w1 ⟨rfl, h⟩; have h3 := h.symm; subst h3) | (go_at_call 41; refine (hd' _).mono ?_; rintro e w1 ⟨rfl, h⟩; have h3 := h.symm; subst h3) | (go_at_call 43; refine (hi _).mono ?_; rintro e w1 ⟨rfl, h⟩; have h3 := h.symm; subst h3))
    exact ret4b 7 [] 0 a (a + 2) Tryd.results18 HR.out HB.out (Nat.le_refl _) rfl (by show Value.int .i64 _ = Value.int .i64 _; congr 1 <;> omega) rfl rfl rfl rfl
  · rw [decide_eq_false h40] at hi
    have hi : ∀ w, Calls Tryd.prog 43 #[.string s, .int .i64 ((a : Int) + 1), .int .u8 40] w fun e w' => e = .returned (.bool false) ∧ w' = w := hi
    by_cases hz : symLen ((lst s).drop (a + 1)) = 0
    · rw [if_pos hz, if_neg h40] at hq
      rw [hq, tokR_no]
      rw [hz] at hn
      have hn : ∀ w, Calls Tryd.prog 44 #[.string s, .int .i64 ((a : Int) + 1)] w fun e w' => e = .returned (.int .i64 ((a : Int) + 1)) ∧ w' = w := hn
      clear hq h40 hx hz
      go_enter Tryd.func18, Tryd.ntmps18
      go_wp2_with (go_at_call 38; fail)
      rw [← hW]
      clear hW
      go_wp2_with (first | (go_at_call 38; refine (hl _).mono ?_; rintro e w1 ⟨rfl, h⟩; have h3 := h.symm; subst h3) | (go_at_call 41; refine (hd' _).mono ?_; rintro e w1 ⟨rfl, h⟩; have h3 := h.symm; subst h3) | (go_at_call 43; refine (hi _).mono ?_; rintro e w1 ⟨rfl, h⟩; have h3 := h.symm; subst h3) | (go_at_call 44; refine (hn _).mono ?_; rintro e w1 ⟨rfl, h⟩; have h3 := h.symm; subst h3))
      exact ret4b 0 [] 0 0 a Tryd.results18 HR.out HB.out (Nat.le_refl _) rfl rfl rfl rfl rfl rfl
    · rw [if_neg hz] at hq
      rw [hq, tokR_yes a (by omega)]
      clear hq h40
      have hm : (a : Int) + 1 + symLen ((lst s).drop (a + 1)) ≤ s.size := by omega
      generalize hg : ((lst s).drop (a + 1)).take (symLen ((lst s).drop (a + 1))) = T at *
      generalize symLen ((lst s).drop (a + 1)) = n0 at *
      have hne : ¬ ((a : Int) + 1 + n0 = (a : Int) + 1) := by omega
      have hn : ∀ w, Calls Tryd.prog 44 #[.string s, .int .i64 ((a : Int) + 1)] w fun e w' => e = .returned (.int .i64 ((a : Int) + 1 + n0)) ∧ w' = w := hn
      have hsl := slice_at s ((a : Int) + 1) ((a : Int) + 1 + n0) (a + 1) (a + 1 + n0) (by omega) (by omega) (by omega) (by omega)
      go_enter Tryd.func18, Tryd.ntmps18
      go_wp2_with (go_at_call 38; fail)
      rw [← hW]
      clear hW
      go_wp2_with (first | (go_at_call 38; refine (hl _).mono ?_; rintro e w1 ⟨rfl, h⟩; have h3 := h.symm; subst h3) | (go_at_call 41; refine (hd' _).mono ?_; rintro e w1 ⟨rfl, h⟩; have h3 := h.symm; subst h3) | (go_at_call 43; refine (hi _).mono ?_; rintro e w1 ⟨rfl, h⟩; have h3 := h.symm; subst h3) | (go_at_call 44; refine (hn _).mono ?_; rintro e w1 ⟨rfl, h⟩; have h3 := h.symm; subst h3))
      exact ret4b 5 T 0 a (a + (n0 + 1)) Tryd.results18 HR.out HB.out (Nat.le_refl _) rfl (by show Value.int .i64 _ = Value.int .i64 _; congr 1 <;> omega) rfl (by rw [hx.out]) rfl rfl
end Go.Proofs.YtimlomobbnnehaaDoor
namespace Go.Proofs.YtimlomobbnnehaaDoor
open Go.RowKit Go.Maps
set_option linter.unusedVariables false
set_option linter.unusedSimpArgs false
set_option maxHeartbeats 16000000 in
set_option maxRecDepth 1000000 in
theorem rToken_text (s : ByteArray) (a : Nat) (w : World) (ha : a < s.size) (hs : s.size ≤ 140737488355328) (hH : hd ((lst s).drop a) = 39) : Calls Tryd.prog 18 #[.string s, .int .i64 a] w fun e w' =>
    e = .returned (tokR (cutQ ((lst s).drop a)) a) ∧ Bl w w' := by
  have hai : (a : Int) < s.size := by omega
  have hb := get_lst s a ha
  obtain ⟨W, hW⟩ : ∃ W, W = w.alloc (.cells #[.int .i64 0, .string ⟨#[]⟩, .int .i64 0, .int .i64 0] 41) := ⟨_, rfl⟩
  have HB : Hid (Bl w W) := by rw [hW]; exact Bl.alloc _ _
  have HR : Hid (W.heap[w.heap.size]? = some z4) := by rw [hW]; exact heap_alloc_new w _
  have hq := cutQ_text hH
  rw [List.drop_drop] at hq
  have hn := fun w => rText_ok s a w ha hs
  have hl := rLetter_ok (s[a]'ha).toNat
  have hd' := rDigit_ok (s[a]'ha).toNat
  have ho := rOp_ok (s[a]'ha).toNat (toNat_lt8 _)
  rw [hb] at hH
  obtain ⟨c1, c2, c3⟩ := (cls _ (toNat_lt8 _)).2.2.2.2 hH
  rw [c1, hH] at hl
  rw [c2, hH] at hd'
  rw [c3, hH] at ho
  have hl : ∀ w, Calls Tryd.prog 38 #[.int .u8 39] w fun e w' => e = .returned (.bool false) ∧ w' = w := hl
  have hd' : ∀ w, Calls Tryd.prog 41 #[.int .u8 39] w fun e w' => e = .returned (.bool false) ∧ w' = w := hd'
  have ho : ∀ w, Calls Tryd.prog 45 #[.int .u8 39] w fun e w' => e = .returned (.bool false) ∧ w' = w := ho
  have c39 : ((s[a]'ha).toNat : Int) = 39 := by omega
  clear hb c1 c2 c3 hH
  have hbd := fun x (h : txt ((lst s).drop (a + 1)) = some x) => (txt_n _ x h).2
  rw [List.length_drop, lst_len] at hbd
  cases hx : txt ((lst s).drop (a + 1)) with
  | none =>
    rw [hx] at hq hn
    rw [hq]
    show Calls _ _ _ _ fun e w' => e = .returned (tokR (0, [], 0, 0) a) ∧ _
    rw [tokR_no]
    have hn : ∀ w, Calls Tryd.prog 47 #[.string s, .int .i64 a] w fun e w' => e = .returned (.tuple #[.string ⟨#[]⟩, .int .i64 0, .bool false]) ∧ Bl w w' := hn
    clear hq hx hbd
    go_enter Tryd.func18, Tryd.ntmps18
    go_wp2_with (go_at_call 38; fail)
    rw [← hW]
    clear hW
    go_wp2_with (first | (go_at_call 38; refine (hl _).mono ?_; rintro e w1 ⟨rfl, h⟩; have h3 := h.symm; subst h3) | (go_at_call 41; refine (hd' _).mono ?_; rintro e w1 ⟨rfl, h⟩; have h3 := h.symm; subst h3) | (go_at_call 45; refine (ho _).mono ?_; rintro e w1 ⟨rfl, h⟩; have h3 := h.symm; subst h3) | (go_at_call 47; refine (hn _).mono ?_; rintro e w3 ⟨rfl, b3⟩; have hr3 := (b3.block _ (lt_of_heap HR.out)).trans HR.out; have bb3 := HB.out.trans b3; obtain ⟨r0, r1, r2, r3, y0, y1, y2, y3⟩ := resF hr3))
    exact ret4b 0 [] 0 0 a Tryd.results18 hr3 bb3 (Nat.le_refl _) rfl rfl rfl rfl rfl rfl
  | some x =>
    have hbx := hbd x hx
    rw [hx] at hq hn
    obtain ⟨t, n0⟩ := x
    rw [hq]
    show Calls _ _ _ _ fun e w' => e = .returned (tokR (6, t, 0, n0 + 1) a) ∧ _
    rw [tokR_yes a (by omega)]
    have hn : ∀ w, Calls Tryd.prog 47 #[.string s, .int .i64 a] w fun e w' => e = .returned (.tuple #[.string (ba t), .int .i64 ((a + 1 + n0 : Nat) : Int), .bool true]) ∧ Bl w w' := hn
    clear hq hx hbd
    go_enter Tryd.func18, Tryd.ntmps18
    go_wp2_with (go_at_call 38; fail)
    rw [← hW]
    clear hW
    go_wp2_with (first | (go_at_call 38; refine (hl _).mono ?_; rintro e w1 ⟨rfl, h⟩; have h3 := h.symm; subst h3) | (go_at_call 41; refine (hd' _).mono ?_; rintro e w1 ⟨rfl, h⟩; have h3 := h.symm; subst h3) | (go_at_call 45; refine (ho _).mono ?_; rintro e w1 ⟨rfl, h⟩; have h3 := h.symm; subst h3) | (go_at_call 47; refine (hn _).mono ?_; rintro e w3 ⟨rfl, b3⟩; have hr3 := (b3.block _ (lt_of_heap HR.out)).trans HR.out; have bb3 := HB.out.trans b3; obtain ⟨r0, r1, r2, r3, y0, y1, y2, y3⟩ := resF hr3))
    exact ret4b 6 t 0 a (a + (n0 + 1)) Tryd.results18 hr3 bb3 (Nat.le_refl _) rfl (by show Value.int .i64 _ = Value.int .i64 _; congr 1 <;> omega) rfl rfl rfl rfl
end Go.Proofs.YtimlomobbnnehaaDoor
namespace Go.Proofs.YtimlomobbnnehaaDoor
open Go.RowKit Go.Maps
set_option linter.unusedVariables false
set_option linter.unusedSimpArgs false
set_option maxHeartbeats 16000000 in
set_option maxRecDepth 1000000 in
theorem rToken_mark (s : ByteArray) (a : Nat) (w : World) (ha : a < s.size) (hs : s.size ≤ 140737488355328) (hM : kindN (hd ((lst s).drop a)) = 8 ∨ kindN (hd ((lst s).drop a)) = 0) : Calls Tryd.prog 18 #[.string s, .int .i64 a] w fun e w' =>
    e = .returned (tokR (cutQ ((lst s).drop a)) a) ∧ Bl w w' := by
  have hai : (a : Int) < s.size := by omega
  have hb := get_lst s a ha
  obtain ⟨W, hW⟩ : ∃ W, W = w.alloc (.cells #[.int .i64 0, .string ⟨#[]⟩, .int .i64 0, .int .i64 0] 41) := ⟨_, rfl⟩
  have HB : Hid (Bl w W) := by rw [hW]; exact Bl.alloc _ _
  have HR : Hid (W.heap[w.heap.size]? = some z4) := by rw [hW]; exact heap_alloc_new w _
  have K : ∀ n, n < 256 → (kindN n = 8 ∨ kindN n = 0) → isL n = false ∧ isD n = false ∧ isO n = false ∧ n ≠ 35 ∧ n ≠ 39 ∧ (kindN n = 8 → markK n ≠ 0) ∧ (kindN n = 0 → markK n = 0 ∧ n ≠ 58) := by decide +kernel
  have hq : tokR (cutQ ((lst s).drop a)) a = markR ((lst s).drop a) a := by
    obtain ⟨_, _, _, _, _, g1, g2⟩ := K _ (by rw [hb]; exact toNat_lt8 _) hM
    unfold markR
    rcases hM with h | h
    · rw [cutQ_mark h]
      by_cases c : hd ((lst s).drop a) = 58 ∧ hd (((lst s).drop a).drop 1) = 61
      · rw [if_pos c, if_pos c]; rfl
      · rw [if_neg c, if_neg c, show mkV (markK (hd ((lst s).drop a))) a = _ from if_neg (g1 h)]; rfl
    · rw [cutQ_other h, if_neg (fun c => (g2 h).2 c.1), show mkV (markK (hd ((lst s).drop a))) a = _ from if_pos (g2 h).1]; rfl
  rw [hq]
  have hn := fun w => rMark_ok s a w ha hs
  have hl := rLetter_ok (s[a]'ha).toNat
  have hd' := rDigit_ok (s[a]'ha).toNat
  have ho := rOp_ok (s[a]'ha).toNat (toNat_lt8 _)
  rw [hb] at hM
  obtain ⟨c1, c2, c3, c4, c5, _⟩ := K _ (toNat_lt8 _) hM
  rw [c1] at hl
  rw [c2] at hd'
  rw [c3] at ho
  have c35 : ¬ ((s[a]'ha).toNat : Int) = 35 := by omega
  have c39 : ¬ ((s[a]'ha).toNat : Int) = 39 := by omega
  have hmr : ∃ k t n b m, markR ((lst s).drop a) a = tv k t n b m := by
    unfold markR
    split
    · exact ⟨_, _, _, _, _, rfl⟩
    · unfold mkV
      split
      · exact ⟨_, _, _, _, _, rfl⟩
      · exact ⟨_, _, _, _, _, rfl⟩
  obtain ⟨k, t, n, b, m, hmr⟩ := hmr
  rw [hmr] at hn ⊢
  have hn : ∀ w, Calls Tryd.prog 48 #[.string s, .int .i64 a] w fun e w' => e = .returned (.tuple #[.agg #[.int .i64 k, .string (ba t), .int .i64 n, .int .i64 b], .int .i64 m]) ∧ Bl w w' := hn
  clear hq hmr hb c1 c2 c3 c4 c5 hM K
  go_enter Tryd.func18, Tryd.ntmps18
  go_wp2_with (go_at_call 38; fail)
  rw [← hW]
  clear hW
  go_wp2_with (first | (go_at_call 38; refine (hl _).mono ?_; rintro e w1 ⟨rfl, h⟩; have h3 := h.symm; subst h3) | (go_at_call 41; refine (hd' _).mono ?_; rintro e w1 ⟨rfl, h⟩; have h3 := h.symm; subst h3) | (go_at_call 45; refine (ho _).mono ?_; rintro e w1 ⟨rfl, h⟩; have h3 := h.symm; subst h3) | (go_at_call 48; refine (hn _).mono ?_; rintro e w3 ⟨rfl, b3⟩; have hr3 := (b3.block _ (lt_of_heap HR.out)).trans HR.out; have bb3 := HB.out.trans b3; obtain ⟨r0, r1, r2, r3, y0, y1, y2, y3⟩ := resF hr3))
  exact ret4b k t n b m Tryd.results18 hr3 bb3 (Nat.le_refl _) rfl rfl rfl rfl rfl rfl
end Go.Proofs.YtimlomobbnnehaaDoor
