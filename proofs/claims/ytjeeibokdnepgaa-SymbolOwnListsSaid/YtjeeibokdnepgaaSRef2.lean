import Derived.Test.YtjeeibokdnepgaaSRef
namespace Go.Proofs.Ytjeeibokdnepgaa
open Go.RowKit Go.Maps Go.WideMaps
set_option linter.unusedVariables false
set_option linter.unusedSimpArgs false
/-- a list of this call's own, that has the first i texts -/
structure Part (w0 w : World) (p : Option Addr) (i c : Nat) (ts : List ByteArray) : Prop where
  row : w.ownsRow w0.heap.size 9 1 (.slice p i c) i ((ts.take i).map Value.string)
  fr : Fr [] w0 w
theorem part_nil (w : World) (ts : List ByteArray) : Part w w none 0 0 ts := ⟨World.ownsRow_nil _ _ _ _, Fr.refl _ _⟩
theorem part_push {w0 w : World} {p : Option Addr} {i c : Nat} {ts : List ByteArray} (h : Part w0 w p i c ts) (hi : i < ts.length) (ht : ts.length ≤ 4398046511104) :
    ∃ p' c' w', (Builtin.append_ #[22, 22] 22 #[.slice p i c, .slice (some ⟨w.heap.size, 0, none⟩) 1 1]).run Try.prog (w.alloc (.cells #[.string (ts.getD i ⟨#[]⟩)] 9)) = .ok (.slice p' (i + 1) c') w' ∧ Part w0 w' p' (i + 1) c' ts := by
  have hl : (ts.take i).length = i := by simp; omega
  have hr := h.row
  rw [← hl] at hr
  rw [show ts.take (ts.take i).length = ts.take i from by rw [hl]] at hr
  obtain ⟨p', c', w', r1, r2, r3, r4⟩ := run_push w p c w0.heap.size (ts.take i) (ts.getD i ⟨#[]⟩) hr (by omega) h.fr.size
  rw [hl] at r1 r2
  refine ⟨p', c', w', r1, ?_, h.fr.trans r3 (fun g hg => Or.inr (own_lt h.row g ((blk_own _ _ _ _).2 hg)).1)⟩
  have e : ts.take (i + 1) = ts.take i ++ [ts.getD i ⟨#[]⟩] := by
    rw [List.take_succ_eq_append_getElem hi, List.getD_eq_getElem?_getD, List.getElem?_eq_getElem hi]; rfl
  rw [e]
  exact r2
set_option maxRecDepth 20000 in
set_option maxHeartbeats 1000000 in
theorem rAll_ok (r : Nat) (p : Option Addr) (cap most : Nat) (ts : List ByteArray) (w : World) (h : RT w r p cap most ts) :
    Calls Try.prog 24 #[.pointer (some ⟨r, 0, none⟩)] w fun e w' => ∃ p' c', e = .returned (.slice p' ts.length c') ∧ w'.ownsRow w.heap.size 9 1 (.slice p' ts.length c') ts.length (ts.map Value.string) ∧ Fr [] w w' := by
  have HT := mkHid h
  have s1 := h.len
  have s2 := h.most
  clear h
  go_enter Try.func24, Try.ntmps24
  go_wp2_with fail
  go_loopw [3, 4] (fun u q wr => ∃ (i : Nat) (p' : Option Addr) (c' : Nat), i ≤ ts.length ∧ q = .int .i64 i ∧ u = .slice p' i c' ∧ Hid (Part w wr p' i c' ts)) (fun _ q _ => ts.length - (intOf q).toNat)
  case atStart => exact ⟨0, none, 0, Nat.zero_le _, rfl, rfl, part_nil w ts⟩
  case round =>
    obtain ⟨i, p', c', hi, rfl, rfl, hst⟩ := hrel
    have i1 : (0 : Int) ≤ (i : Int) := by omega
    have hrt := HT.out.idle hst.out.fr
    have c1 := hrt.c1
    by_cases hlt : i < ts.length
    · have i2 : (i : Int) < (ts.length : Int) := by omega
      obtain ⟨_, g, rfl, x2, _, _⟩ := row_cell hrt.row (by omega)
      have k1 := x2 i hlt
      obtain ⟨p5, c5, w5, r5, h5⟩ := part_push hst.out hlt (by omega)
      have HR5 := mkHid r5
      have HS5 := mkHid h5
      clear x2 r5 h5 hrt HT
      generalize ts.getD i ⟨#[]⟩ = x at *
      go_wp2_with (at_builtin; refine Lib.wpList_append_run _ rfl (.tmp 18) (.tmp 26) 22 22 rfl _ _ rfl rfl _ _ HR5.out ?_)
      go_roundw
      case rel => exact ⟨i + 1, p5, c5, by omega, by go_num, rfl, HS5⟩
      case measure => simp [intOf]; omega
    · have hie : i = ts.length := by omega
      subst hie
      have hr := hst.out.row
      rw [List.take_length] at hr
      have HR := mkHid hr
      clear hr hrt HT
      go_wp2_with fail
      go_ret
      exact ⟨p', c', rfl, HR.out, hst.out.fr⟩
set_option maxHeartbeats 400000 in
theorem rAll_nil (w : World) : Calls Try.prog 24 #[.pointer none] w fun e w' => e = .returned (.slice none 0 0) ∧ w' = w := by
  go_enter Try.func24, Try.ntmps24
  go_wp2_with fail
  go_loopw [3, 4] (fun u q wr => wr = w ∧ q = .int .i64 0 ∧ u = .slice none 0 0) (fun _ q _ => 0)
  case atStart => exact ⟨rfl, rfl, rfl⟩
  case round =>
    obtain ⟨rfl, rfl, rfl⟩ := hrel
    go_wp2_with fail
    go_ret
    exact ⟨rfl, rfl⟩
set_option maxRecDepth 20000 in
set_option maxHeartbeats 1000000 in
theorem rBack_no (n : Int) (r : Nat) (p : Option Addr) (cap most : Nat) (ts : List ByteArray) (w : World) (h : RT w r p cap most ts) (hn : n < 0 ∨ (ts.length : Int) < n) :
    Calls Try.prog 41 #[.pointer (some ⟨r, 0, none⟩), .int .i64 n] w fun e w' => e = .returned (.int .i64 1) ∧ w' = w := by
  have c1 := h.c1
  clear h
  by_cases h0 : n < 0
  · clear hn
    go_enter Try.func41, Try.ntmps41
    go_wp2
    go_ret
    exact ⟨rfl, rfl⟩
  · have h1 : (ts.length : Int) < n := by omega
    have h2 : 0 ≤ n := by omega
    clear hn h0
    go_enter Try.func41, Try.ntmps41
    go_wp2
    go_ret
    exact ⟨rfl, rfl⟩
set_option maxRecDepth 20000 in
set_option maxHeartbeats 1000000 in
theorem rBack_in (n : Nat) (r : Nat) (p : Option Addr) (cap most : Nat) (ts : List ByteArray) (w : World) (h : RT w r p cap most ts) (hn : n ≤ ts.length) :
    Calls Try.prog 41 #[.pointer (some ⟨r, 0, none⟩), .int .i64 (n : Int)] w fun e w' => e = .returned (.int .i64 0) ∧ ∃ p' cap', RT w' r p' cap' most (ts.take n) ∧ Nr r p p' w w' := by
  have HT := mkHid h
  have s1 := h.len
  have s2 := h.most
  have c1 := h.c1
  have n1 : (0 : Int) ≤ (n : Int) := by omega
  have n2 : (n : Int) ≤ (ts.length : Int) := by omega
  have hd1 : decide (ts.length < n) = false := decide_eq_false (by omega)
  have hd2 : decide ((n : Int) < 0) = false := decide_eq_false (by omega)
  have hrl := h.lt r (by simp [foot2])
  clear h
  go_enter Try.func41, Try.ntmps41
  go_wp2_with fail
  go_loopw [5, 6] (fun u q wr => ∃ (i : Nat) (p' : Option Addr) (c' : Nat), i ≤ n ∧ q = .int .i64 i ∧ u = .slice p' i c' ∧ Hid (Part w wr p' i c' ts)) (fun _ q _ => n - (intOf q).toNat)
  case atStart => exact ⟨0, none, 0, Nat.zero_le _, rfl, rfl, part_nil w ts⟩
  case round =>
    obtain ⟨i, p', c', hi, rfl, rfl, hst⟩ := hrel
    have i1 : (0 : Int) ≤ (i : Int) := by omega
    have hrt := HT.out.idle hst.out.fr
    have k1 := hrt.c1
    by_cases hlt : i < n
    · have i2 : (i : Int) < (n : Int) := by omega
      have i3 : (i : Int) < (ts.length : Int) := by omega
      obtain ⟨_, g, e, x2, _, _⟩ := row_cell hrt.row (by omega)
      rw [e] at k1
      have k2 := x2 i (by omega)
      obtain ⟨p5, c5, w5, r5, h5⟩ := part_push hst.out (by omega) (by omega)
      have HR5 := mkHid r5
      have HS5 := mkHid h5
      clear x2 r5 h5 hrt HT e
      generalize ts.getD i ⟨#[]⟩ = x at *
      go_wp2_with (at_builtin; refine Lib.wpList_append_run _ rfl (.tmp 25) (.tmp 33) 22 22 rfl _ _ rfl rfl _ _ HR5.out ?_)
      go_roundw
      case rel => exact ⟨i + 1, p5, c5, by omega, by go_num, rfl, HS5⟩
      case measure => simp [intOf]; omega
    · have hie : i = n := by omega
      subst hie
      have fz := hrt.frozen 1
      have hl : (ts.take i).length = i := by simp; omega
      have hne : r ∉ blk p' := fun hm => by
        have := (own_lt hst.out.row r ((blk_own _ _ _ _).2 hm)).1
        omega
      have HE : Hid (RT (wr.setCell ⟨r, 1, none⟩ (.slice p' i c')) r p' c' most (ts.take i) ∧ Nr r p p' w (wr.setCell ⟨r, 1, none⟩ (.slice p' i c'))) := by
        refine ⟨⟨?_, ?_, by omega, s2⟩, ?_, ?_⟩
        · rw [set_in hrt.top 1, hl]; simp [rcells]
        · rw [hl]
          refine own_congr (base := 0) ⟨hst.out.row.1, ?_⟩ (fun g hg => Below.heap_setCell _ _ _ _ (fun e => hne (by rw [← show g = r from e]; exact (blk_own _ _ _ _).1 hg)))
          rcases hst.out.row.2 with h2 | ⟨g, cap', cur, h2, h3, h4⟩
          · exact Or.inl h2
          · exact Or.inr ⟨g, cap', cur, h2, Nat.zero_le _, h4⟩
        · exact (hst.out.fr.mono (by simp)).trans (Fr.setCell (S := [r]) _ _ _ (by simp)) (by simp [foot2])
        · intro g hg
          simp only [foot2, List.mem_cons] at hg ⊢
          rcases hg with h1 | h1
          · exact Or.inl (Or.inl h1)
          · exact Or.inr (own_lt hst.out.row g ((blk_own _ _ _ _).2 h1)).1
      clear hrt HT
      go_wp2_with fail
      go_ret
      exact ⟨rfl, p', c', HE.out.1, HE.out.2⟩
end Go.Proofs.Ytjeeibokdnepgaa
