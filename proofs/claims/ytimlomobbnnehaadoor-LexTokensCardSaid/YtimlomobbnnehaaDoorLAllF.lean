import Derived.Test.YtimlomobbnnehaaDoorLAllE
import Derived.Test.YtimlomobbnnehaaDoorLTokB
namespace Go.Proofs.YtimlomobbnnehaaDoor
open Go.RowKit Go.Maps
set_option linter.unusedVariables false
set_option linter.unusedSimpArgs false
def tokR (x : Q4) (a : Nat) : Value := if x.2.2.2 = 0 then tv 0 [] 0 0 a else tv x.1 x.2.1 x.2.2.1 a (a + x.2.2.2)
theorem tokR_no (a : Nat) : tokR (0, [], 0, 0) a = tv 0 [] 0 0 a := rfl
theorem tokR_yes {k : Nat} {t : Bs} {n m : Nat} (a : Nat) (h : m ≠ 0) : tokR (k, t, n, m) a = tv k t n a (a + m) := by unfold tokR; rw [if_neg h]
theorem cls (n : Nat) (h : n < 256) : (isL n = true → isB n = false) ∧ (isD n = true → isL n = false) ∧ (n = 35 → isL n = false ∧ isD n = false ∧ isO n = false) ∧ (isO n = true → isL n = false ∧ isD n = false ∧ n ≠ 35) ∧ (n = 39 → isL n = false ∧ isD n = false ∧ isO n = false) := by
  refine ⟨fun h1 => ?_, fun h1 => ?_, fun h1 => ?_, fun h1 => ?_, fun h1 => ?_⟩
  · rw [Bool.eq_false_iff]; intro h2; rw [isL_iff] at h1; rw [isB_iff] at h2; omega
  · rw [Bool.eq_false_iff]; intro h2; rw [isD_iff] at h1; rw [isL_iff] at h2; omega
  · subst h1; decide
  · refine ⟨?_, ?_, ?_⟩
    · rw [Bool.eq_false_iff]; intro h2; rw [isO_iff] at h1; rw [isL_iff] at h2; omega
    · rw [Bool.eq_false_iff]; intro h2; rw [isO_iff] at h1; rw [isD_iff] at h2; omega
    · rw [isO_iff] at h1; omega
  · subst h1; decide
theorem slice_at (s : ByteArray) (x y : Int) (a b : Nat) (hx : x = a) (hy : y = b) (h1 : a ≤ b) (h2 : b ≤ s.size) (W : World) : (Instr.slice 9 (.string s) (some (.int .i64 x)) (some (.int .i64 y)) none).run Tryd.prog W = .ok (.string (s.extract a b)) W := by
  subst hx hy
  have h5 := run_slice_string (P := Tryd.prog) W 9 s .i64 .i64 (a : Int) (b : Int) Tryd.underlying9 (by omega) (by omega) (by omega)
  rw [h5]
  rfl
set_option maxHeartbeats 16000000 in
set_option maxRecDepth 1000000 in
theorem rToken_word (s : ByteArray) (a : Nat) (w : World) (ha : a < s.size) (hs : s.size ≤ 140737488355328) (hL : isL (hd ((lst s).drop a)) = true) : Calls Tryd.prog 18 #[.string s, .int .i64 a] w fun e w' =>
    e = .returned (tokR (cutQ ((lst s).drop a)) a) ∧ Bl w w' := by
  have hai : (a : Int) < s.size := by omega
  have hb := get_lst s a ha
  obtain ⟨W, hW⟩ : ∃ W, W = w.alloc (.cells #[.int .i64 0, .string ⟨#[]⟩, .int .i64 0, .int .i64 0] 41) := ⟨_, rfl⟩
  have HB : Hid (Bl w W) := by rw [hW]; exact Bl.alloc _ _
  have HR : Hid (W.heap[w.heap.size]? = some z4) := by rw [hW]; exact heap_alloc_new w _
  obtain ⟨r0, r1, r2, r3, y0, y1, y2, y3⟩ := resF HR.out
  have hq := cutQ_word hL
  have hn := fun w => rName_ok s a w (Nat.le_of_lt ha) hs
  have hp := nameLen_pos hL
  have hle := nameLen_le ((lst s).drop a)
  rw [List.length_drop, lst_len] at hle
  have hc := fun w => rColon_ok s (a + nameLen ((lst s).drop a)) w (by omega) hs
  rw [← List.drop_drop] at hc
  have hx := mkHid (ba_mid s a (a + nameLen ((lst s).drop a)))
  rw [Nat.add_sub_cancel_left] at hx
  have hl := rLetter_ok (s[a]'ha).toNat
  rw [hb] at hL
  rw [hL] at hl
  have hm : (a : Int) + nameLen ((lst s).drop a) ≤ s.size := by omega
  by_cases hC : colonAt (((lst s).drop a).drop (nameLen ((lst s).drop a))) = true
  · rw [if_neg (by rw [kwLen_yes (by omega) hC]; omega), kwLen_yes (by omega) hC] at hq
    rw [hq, tokR_yes a (by omega)]
    rw [hC] at hc
    clear hC hq hb hL
    generalize hg : ((lst s).drop a).take (nameLen ((lst s).drop a)) = T at *
    generalize nameLen ((lst s).drop a) = n0 at *
    have hn : ∀ w, Calls Tryd.prog 39 #[.string s, .int .i64 a] w fun e w' => e = .returned (.int .i64 ((a : Int) + n0)) ∧ w' = w := hn
    have hsl := slice_at s (a : Int) ((a : Int) + n0) a (a + n0) rfl (by omega) (by omega) (by omega)
    have hc : ∀ w, Calls Tryd.prog 40 #[.string s, .int .i64 ((a : Int) + n0)] w fun e w' => e = .returned (.bool true) ∧ w' = w := hc
    go_enter Tryd.func18, Tryd.ntmps18
    go_wp2_with (go_at_call 38; fail)
    rw [← hW]
    clear hW
    go_wp2_with (first | (go_at_call 38; refine (hl _).mono ?_; rintro e w1 ⟨rfl, h⟩; have h3 := h.symm; subst h3) | (go_at_call 39; refine (hn _).mono ?_; rintro e w1 ⟨rfl, h⟩; have h3 := h.symm; subst h3) | (go_at_call 40; refine (hc _).mono ?_; rintro e w1 ⟨rfl, h⟩; have h3 := h.symm; subst h3))
    exact ret4b 2 T 0 a (a + (n0 + 1)) Tryd.results18 HR.out HB.out (Nat.le_refl _) rfl (by show Value.int .i64 _ = Value.int .i64 _; congr 1 <;> omega) rfl (by rw [hx.out]) rfl rfl
  · have hC' : colonAt (((lst s).drop a).drop (nameLen ((lst s).drop a))) = false := by simpa using hC
    rw [if_pos (kwLen_zero (Or.inr hC'))] at hq
    rw [hq, tokR_yes a (by omega)]
    rw [hC'] at hc
    clear hC hC' hq hb hL
    generalize hg : ((lst s).drop a).take (nameLen ((lst s).drop a)) = T at *
    generalize nameLen ((lst s).drop a) = n0 at *
    have hn : ∀ w, Calls Tryd.prog 39 #[.string s, .int .i64 a] w fun e w' => e = .returned (.int .i64 ((a : Int) + n0)) ∧ w' = w := hn
    have hsl := slice_at s (a : Int) ((a : Int) + n0) a (a + n0) rfl (by omega) (by omega) (by omega)
    have hc : ∀ w, Calls Tryd.prog 40 #[.string s, .int .i64 ((a : Int) + n0)] w fun e w' => e = .returned (.bool false) ∧ w' = w := hc
    go_enter Tryd.func18, Tryd.ntmps18
    go_wp2_with (go_at_call 38; fail)
    rw [← hW]
    clear hW
    go_wp2_with (first | (go_at_call 38; refine (hl _).mono ?_; rintro e w1 ⟨rfl, h⟩; have h3 := h.symm; subst h3) | (go_at_call 39; refine (hn _).mono ?_; rintro e w1 ⟨rfl, h⟩; have h3 := h.symm; subst h3) | (go_at_call 40; refine (hc _).mono ?_; rintro e w1 ⟨rfl, h⟩; have h3 := h.symm; subst h3))
    exact ret4b 1 T 0 a (a + n0) Tryd.results18 HR.out HB.out (Nat.le_refl _) rfl (by show Value.int .i64 _ = Value.int .i64 _; congr 1 <;> omega) rfl (by rw [hx.out]) rfl rfl
end Go.Proofs.YtimlomobbnnehaaDoor
