import Derived.Test.YtjeeibokdnepgaaSFirst
namespace Go.Proofs.Ytjeeibokdnepgaa
open Go.RowKit Go.Maps Go.WideMaps
set_option linter.unusedVariables false
set_option linter.unusedSimpArgs false
def foot2 (r : Nat) (p : Option Addr) : List Nat := r :: blk p
def rcells (most n : Nat) (p : Option Addr) (cap : Nat) : Array Value := #[.int .i64 (most : Int), .slice p n cap]
/-- the document's table at block r -/
structure RT (w : World) (r : Nat) (p : Option Addr) (cap : Nat) (most : Nat) (ts : List ByteArray) : Prop where
  top : w.heap[r]? = some (.cells (rcells most ts.length p cap) 76 (0, 0))
  row : w.ownsRow 0 9 1 (.slice p ts.length cap) ts.length (ts.map Value.string)
  len : ts.length ≤ most
  most : most ≤ 4096
theorem RT.lt {w : World} {r : Nat} {p : Option Addr} {cap most : Nat} {ts : List ByteArray} (h : RT w r p cap most ts) : ∀ g ∈ foot2 r p, g < w.heap.size := by
  intro g hg
  simp only [foot2, List.mem_cons] at hg
  rcases hg with rfl | hg
  · exact lt_of_heap h.top
  · obtain ⟨c, hc⟩ := own_blk h.row g hg; exact lt_of_heap hc
theorem RT.congr {w w' : World} {r : Nat} {p : Option Addr} {cap most : Nat} {ts : List ByteArray} (h : RT w r p cap most ts) (hb : ∀ g ∈ foot2 r p, w'.heap[g]? = w.heap[g]?) : RT w' r p cap most ts :=
  ⟨(hb r (by simp [foot2])).trans h.top, own_congr h.row fun g hg => hb g (by simp [foot2, (blk_own _ _ _ _).1 hg]), h.len, h.most⟩
theorem RT.keep {w w' : World} {r : Nat} {p : Option Addr} {cap most : Nat} {ts : List ByteArray} {S : List Nat} (h : RT w r p cap most ts) (hf : Fr S w w') (hd : ∀ g ∈ foot2 r p, g ∉ S) : RT w' r p cap most ts :=
  h.congr fun g hg => hf.block g (h.lt g hg) (hd g hg)
theorem RT.idle {w w' : World} {r : Nat} {p : Option Addr} {cap most : Nat} {ts : List ByteArray} (h : RT w r p cap most ts) (hf : Fr [] w w') : RT w' r p cap most ts := h.keep hf (by simp)
theorem RT.c0 {w : World} {r : Nat} {p : Option Addr} {cap most : Nat} {ts : List ByteArray} (h : RT w r p cap most ts) : w.cell? ⟨r, 0, none⟩ = some (.int .i64 (most : Int)) := by rw [cell_in h.top]; rfl
theorem RT.c1 {w : World} {r : Nat} {p : Option Addr} {cap most : Nat} {ts : List ByteArray} (h : RT w r p cap most ts) : w.cell? ⟨r, 1, none⟩ = some (.slice p ts.length cap) := by rw [cell_in h.top]; rfl
theorem RT.frozen {w : World} {r : Nat} {p : Option Addr} {cap most : Nat} {ts : List ByteArray} (h : RT w r p cap most ts) (i : Nat) : w.frozen? ⟨r, i, none⟩ = false := frozen_in h.top i
theorem RT.apart {w : World} {r : Nat} {p : Option Addr} {cap most : Nat} {ts : List ByteArray} (h : RT w r p cap most ts) : r ∉ blk p := fun hm => by
  obtain ⟨c, hc⟩ := own_blk h.row r hm
  have ht := h.top
  rw [hc] at ht
  simp at ht
structure Nr (r : Nat) (p p' : Option Addr) (w w' : World) : Prop where
  fr : Fr (foot2 r p) w w'
  foot : ∀ g ∈ foot2 r p', g ∈ foot2 r p ∨ w.heap.size ≤ g
theorem Nr.refl (r : Nat) (p : Option Addr) (w : World) : Nr r p p w w := ⟨Fr.refl _ _, fun g h => Or.inl h⟩
theorem Nr.of {r : Nat} {p : Option Addr} {w w' : World} (h : Fr [] w w') : Nr r p p w w' := ⟨h.mono (by simp), fun g h => Or.inl h⟩
theorem Nr.trans {r : Nat} {p p' p'' : Option Addr} {w w' w'' : World} (h : Nr r p p' w w') (k : Nr r p' p'' w' w'') : Nr r p p'' w w'' :=
  ⟨h.fr.trans k.fr h.foot, fun g hg => by
    rcases k.foot g hg with h1 | h1
    · exact h.foot g h1
    · exact Or.inr (Nat.le_trans h.fr.size h1)⟩
set_option maxHeartbeats 400000 in
theorem rNew_no (n : Int) (w : World) (h : n < 0 ∨ 4096 < n) :
    Calls Try.prog 35 #[.int .i64 n] w fun e w' => e = .returned (.tuple #[.pointer none, .int .i64 1]) ∧ w' = w := by
  by_cases h0 : n < 0
  · go_enter Try.func35, Try.ntmps35
    go_wp2
    go_ret2
    exact ⟨rfl, rfl⟩
  · have h1 : 4096 < n := by omega
    have h2 : 0 ≤ n := by omega
    clear h h0
    go_enter Try.func35, Try.ntmps35
    go_wp2
    go_ret2
    exact ⟨rfl, rfl⟩
set_option maxHeartbeats 1000000 in
theorem rNew_in (most : Nat) (w : World) (h : most ≤ 4096) :
    Calls Try.prog 35 #[.int .i64 (most : Int)] w fun e w' => ∃ r, e = .returned (.tuple #[.pointer (some ⟨r, 0, none⟩), .int .i64 0]) ∧ RT w' r none 0 most [] ∧ Fr [] w w' ∧ w.heap.size ≤ r := by
  have g1 : (0 : Int) ≤ (most : Int) := by omega
  have g2 : (most : Int) ≤ 4096 := by omega
  have HM := mkHid h
  clear h
  go_enter Try.func35, Try.ntmps35
  go_wp2
  go_ret2
  exact ⟨w.heap.size, rfl, ⟨heap_alloc_new w _, World.ownsRow_nil _ _ _ _, by simp, HM.out⟩, Fr.alloc [] w _, Nat.le_refl _⟩
set_option maxHeartbeats 1000000 in
theorem right_ok (s : ByteArray) (w : World) :
    Calls Try.prog 36 #[.string s] w fun e w' => e = .returned (.bool (decide (1 ≤ s.size ∧ s.size ≤ 96))) ∧ w' = w := by
  by_cases h1 : 1 ≤ s.size
  · by_cases h2 : s.size ≤ 96
    · rw [decide_eq_true (⟨h1, h2⟩ : 1 ≤ s.size ∧ s.size ≤ 96)]
      have q1 : (1 : Int) ≤ (s.size : Int) := by omega
      have q2 : (s.size : Int) ≤ 96 := by omega
      go_enter Try.func36, Try.ntmps36
      go_wp2
      go_ret
      exact ⟨rfl, rfl⟩
    · rw [decide_eq_false (fun h => h2 h.2)]
      have q1 : (1 : Int) ≤ (s.size : Int) := by omega
      have q2 : decide ((s.size : Int) ≤ 96) = false := decide_eq_false (by omega)
      go_enter Try.func36, Try.ntmps36
      go_wp2
      go_ret
      exact ⟨rfl, rfl⟩
  · rw [decide_eq_false (fun h => h1 h.1)]
    have q1 : (s.size : Int) < 1 := by omega
    go_enter Try.func36, Try.ntmps36
    go_wp2
    go_ret
    exact ⟨rfl, rfl⟩
set_option maxRecDepth 20000 in
set_option maxHeartbeats 1000000 in
theorem at_ok (s : ByteArray) (r : Nat) (p : Option Addr) (cap most : Nat) (ss : List ByteArray) (w : World) (h : RT w r p cap most ss) :
    Calls Try.prog 37 #[.pointer (some ⟨r, 0, none⟩), .string s] w fun e w' => e = .returned (.int .i64 (firstZ ss s)) ∧ w' = w := by
  have c1 := h.c1
  have H1 := mkHid h.row
  have s1 := h.len
  have s2 := h.most
  obtain ⟨Z, hZ⟩ : ∃ Z, Z = firstZ ss s := ⟨_, rfl⟩
  have HZ := mkHid hZ
  rw [← hZ]
  clear h hZ
  go_enter Try.func37, Try.ntmps37
  go_wp2_with fail
  go_loopw [5] (fun q wr => ∃ i : Nat, i ≤ ss.length ∧ q = .int .i64 i ∧ Hid (s ∉ ss.take i) ∧ wr = w) (fun q _ => ss.length - (intOf q).toNat)
  case atStart => exact ⟨0, Nat.zero_le _, rfl, mkHid (by simp), rfl⟩
  case round =>
    obtain ⟨i, hi, rfl, hst, rfl⟩ := hrel
    have i1 : (0 : Int) ≤ (i : Int) := by omega
    by_cases hlt : i < ss.length
    · have i2 : (i : Int) < (ss.length : Int) := by omega
      obtain ⟨_, g, rfl, x2, _, _⟩ := row_cell H1.out (by omega)
      have k1 := x2 i hlt
      have hg : ss[i]? = some (ss.getD i ⟨#[]⟩) := by rw [List.getD_eq_getElem?_getD, List.getElem?_eq_getElem hlt]; rfl
      have HB : Hid (ss.getD i ⟨#[]⟩ = s → Z = (i : Int)) := fun e => by
        rw [HZ.out]
        unfold firstZ
        rw [pos_at (hg.trans (by rw [e])) hst.out]
      have HN : Hid (ss.getD i ⟨#[]⟩ ≠ s → s ∉ ss.take (i + 1)) := fun e hm => by
        rw [List.take_succ_eq_append_getElem hlt] at hm
        rcases List.mem_append.1 hm with h1 | h1
        · exact hst.out h1
        · simp at h1
          rw [List.getD_eq_getElem?_getD, List.getElem?_eq_getElem hlt] at e
          exact e h1.symm
      generalize ss.getD i ⟨#[]⟩ = x at *
      clear x2 hg
      by_cases he : x = s
      · have hb : (x.toList == s.toList) = true := by rw [tl_eq]; exact decide_eq_true he
        have HB2 := mkHid (HB.out he)
        clear HB HN he
        go_wp2_with fail
        go_ret
        exact ⟨by rw [HB2.out]; rfl, rfl⟩
      · have hb : (x.toList == s.toList) = false := by rw [tl_eq]; exact decide_eq_false he
        have HN2 := mkHid (HN.out he)
        clear HB HN he
        go_wp2_with fail
        go_roundw
        case rel => exact ⟨i + 1, by omega, by go_num, HN2, trivial⟩
        case measure => simp [intOf]; omega
    · have hie : i = ss.length := by omega
      subst hie
      have HE : Hid (Z = -1) := by
        show Z = -1
        rw [HZ.out]
        unfold firstZ
        have := hst.out
        rw [List.take_length] at this
        rw [pos_none.2 this]
      clear H1
      go_wp2_with fail
      go_ret
      exact ⟨by rw [HE.out]; rfl, rfl⟩
set_option maxHeartbeats 400000 in
theorem rCount_any (r : Nat) (p : Option Addr) (cap most : Nat) (ts : List ByteArray) (w : World) (h : RT w r p cap most ts) :
    Calls Try.prog 26 #[.pointer (some ⟨r, 0, none⟩)] w fun e w' => e = .returned (.int .i64 (ts.length : Int)) ∧ w' = w := by
  have c1 := h.c1
  clear h
  go_enter Try.func26, Try.ntmps26
  go_wp2
  go_ret
  exact ⟨rfl, rfl⟩
set_option maxRecDepth 20000 in
set_option maxHeartbeats 1000000 in
theorem rFind_any (s : ByteArray) (r : Nat) (p : Option Addr) (cap most : Nat) (ts : List ByteArray) (w : World) (h : RT w r p cap most ts) :
    Calls Try.prog 39 #[.pointer (some ⟨r, 0, none⟩), .string s] w fun e w' => e = .returned (.tuple #[.int .i64 (lookN (pos ts s)), .bool (pos ts s).isSome]) ∧ w' = w := by
  have HC := mkHid (at_ok s r p cap most ts w h)
  unfold firstZ at HC
  clear h
  cases hp : pos ts s with
  | some k =>
    rw [hp] at HC
    have k0 : (0 : Int) ≤ (k : Int) := by omega
    have HC2 : Hid (Calls Try.prog 37 #[.pointer (some ⟨r, 0, none⟩), .string s] w fun e w' => e = .returned (.int .i64 (k : Int)) ∧ w' = w) := HC
    clear hp HC
    go_enter Try.func39, Try.ntmps39
    go_wp2_with (go_at_call 37; refine HC2.out.mono ?_; rintro e w1 ⟨rfl, rfl⟩)
    go_ret2
    exact ⟨rfl, rfl⟩
  | none =>
    rw [hp] at HC
    have HC2 : Hid (Calls Try.prog 37 #[.pointer (some ⟨r, 0, none⟩), .string s] w fun e w' => e = .returned (.int .i64 (-1)) ∧ w' = w) := HC
    clear hp HC
    go_enter Try.func39, Try.ntmps39
    go_wp2_with (go_at_call 37; refine HC2.out.mono ?_; rintro e w1 ⟨rfl, rfl⟩)
    go_ret2
    exact ⟨rfl, rfl⟩
set_option maxRecDepth 20000 in
set_option maxHeartbeats 1000000 in
theorem rText_no (n : Int) (r : Nat) (p : Option Addr) (cap most : Nat) (ts : List ByteArray) (w : World) (h : RT w r p cap most ts) (hn : n < 0 ∨ (ts.length : Int) ≤ n) :
    Calls Try.prog 40 #[.pointer (some ⟨r, 0, none⟩), .int .i64 n] w fun e w' => e = .returned (.tuple #[.string ⟨#[]⟩, .int .i64 61]) ∧ w' = w := by
  have c1 := h.c1
  clear h
  by_cases h0 : n < 0
  · clear hn
    go_enter Try.func40, Try.ntmps40
    go_wp2
    go_ret2
    exact ⟨rfl, rfl⟩
  · have h1 : (ts.length : Int) ≤ n := by omega
    have h2 : 0 ≤ n := by omega
    clear hn h0
    go_enter Try.func40, Try.ntmps40
    go_wp2
    go_ret2
    exact ⟨rfl, rfl⟩
set_option maxRecDepth 20000 in
set_option maxHeartbeats 1000000 in
theorem rText_in (n : Nat) (r : Nat) (p : Option Addr) (cap most : Nat) (ts : List ByteArray) (w : World) (h : RT w r p cap most ts) (hn : n < ts.length) :
    Calls Try.prog 40 #[.pointer (some ⟨r, 0, none⟩), .int .i64 (n : Int)] w fun e w' => e = .returned (.tuple #[.string (ts.getD n ⟨#[]⟩), .int .i64 0]) ∧ w' = w := by
  have c1 := h.c1
  obtain ⟨_, g, hg, hc, _, _⟩ := row_cell h.row (by omega)
  have cn := hc n hn
  rw [hg] at c1
  have hlen := Nat.le_trans h.len h.most
  have h1 : (n : Int) < (ts.length : Int) := by omega
  have h2 : (0 : Int) ≤ (n : Int) := by omega
  clear h hg hc hn
  go_enter Try.func40, Try.ntmps40
  go_wp2
  go_ret2
  exact ⟨rfl, rfl⟩
theorem RT.push {w : World} {r : Nat} {p : Option Addr} {cap most : Nat} {ts : List ByteArray} (s : ByteArray) (h : RT w r p cap most ts) (hm : ts.length < most) :
    ∃ p' cap' w2, (Builtin.append_ #[22, 22] 22 #[.slice p ts.length cap, .slice (some ⟨w.heap.size, 0, none⟩) 1 1]).run Try.prog (w.alloc (.cells #[.string s] 9)) = .ok (.slice p' (ts.length + 1) cap') w2 ∧
      w2.cell? ⟨r, 1, none⟩ = some (.slice p ts.length cap) ∧ w2.frozen? ⟨r, 1, none⟩ = false ∧
      (w2.setCell ⟨r, 1, none⟩ (.slice p' (ts.length + 1) cap')).cell? ⟨r, 1, none⟩ = some (.slice p' (ts.length + 1) cap') ∧
      RT (w2.setCell ⟨r, 1, none⟩ (.slice p' (ts.length + 1) cap')) r p' cap' most (ts ++ [s]) ∧ Nr r p p' w (w2.setCell ⟨r, 1, none⟩ (.slice p' (ts.length + 1) cap')) := by
  have x2 := h.apart
  have hal := h.lt r (by simp [foot2])
  have hmm := h.most
  obtain ⟨p', cap', w2, hr2, ho2, f2, hg2⟩ := run_push w p cap 0 ts s h.row (by omega) (Nat.zero_le _)
  have ht2 : w2.heap[r]? = w.heap[r]? := f2.block r hal x2
  have hap' : r ∉ blk p' := fun hm => by
    rcases hg2 r hm with h1 | h1
    · exact x2 h1
    · omega
  refine ⟨p', cap', w2, hr2, (f2.cell (p := ⟨r, 1, none⟩) hal x2).trans h.c1, (f2.frozen (p := ⟨r, 1, none⟩) hal x2).trans (h.frozen 1), ?_, ⟨?_, ?_, by simp; omega, h.most⟩, ?_, ?_⟩
  · rw [cell_in (set_in (ht2.trans h.top) 1 _)]; simp [rcells]
  · rw [set_in (ht2.trans h.top) 1, List.length_append]; simp [rcells]
  · rw [List.length_append]
    refine own_congr ho2 (fun g hg => ?_)
    have hg' := (blk_own _ _ _ _).1 hg
    exact Below.heap_setCell _ _ _ _ (fun e => hap' (by rw [show g = r from e] at hg'; exact hg'))
  · exact (f2.mono (S' := foot2 r p) (fun b hb => Or.inl (by simp [foot2, hb]))).trans (Fr.setCell (S := [r]) _ _ _ (by simp)) (by simp [foot2])
  · intro g hg
    simp only [foot2, List.mem_cons] at hg ⊢
    rcases hg with h1 | h1
    · exact Or.inl (Or.inl h1)
    · rcases hg2 g h1 with h2 | h2
      · exact Or.inl (Or.inr h2)
      · exact Or.inr h2
set_option maxRecDepth 20000 in
set_option maxHeartbeats 2000000 in
theorem rAdd_ok (s : ByteArray) (r : Nat) (p : Option Addr) (cap most : Nat) (ts : List ByteArray) (w : World) (h : RT w r p cap most ts) :
    Calls Try.prog 25 #[.pointer (some ⟨r, 0, none⟩), .string s] w fun e w' => e = .returned (.tuple #[.int .i64 (addN most ts s), .int .i64 (addE most ts s)]) ∧ ∃ p' cap', RT w' r p' cap' most (addT most ts s) ∧ Nr r p p' w w' := by
  have HR := mkHid h
  have HFt := mkHid (right_ok s w)
  by_cases hf : 1 ≤ s.size ∧ s.size ≤ 96
  rotate_left
  · have hx : s.size = 0 ∨ 96 < s.size := by omega
    have e1 : addN most ts s = 0 := by unfold addN; rw [if_pos hx]
    have e2 : addE most ts s = 61 := by unfold addE; rw [if_pos hx]
    have e3 : addT most ts s = ts := by unfold addT; rw [if_pos hx]
    rw [e1, e2, e3]
    rw [decide_eq_false hf] at HFt
    clear h e1 e2 e3 hx hf
    go_enter Try.func25, Try.ntmps25
    go_wp2_with (go_at_call 36; refine HFt.out.mono ?_; rintro e w' ⟨rfl, rfl⟩)
    go_ret2
    exact ⟨rfl, p, cap, HR.out, Nr.refl _ _ _⟩
  rw [decide_eq_true hf] at HFt
  have hnf : ¬ (s.size = 0 ∨ 96 < s.size) := by omega
  have HC := mkHid (at_ok s r p cap most ts w h)
  unfold firstZ at HC
  cases hp : pos ts s with
  | some k =>
    rw [hp] at HC
    have k0 : (0 : Int) ≤ (k : Int) := by omega
    have HC2 : Hid (Calls Try.prog 37 #[.pointer (some ⟨r, 0, none⟩), .string s] w fun e w' => e = .returned (.int .i64 (k : Int)) ∧ w' = w) := HC
    have e1 : addN most ts s = (k : Int) := by unfold addN; rw [if_neg hnf, hp]
    have e2 : addE most ts s = 0 := by unfold addE; rw [if_neg hnf, hp]
    have e3 : addT most ts s = ts := by unfold addT; rw [if_neg hnf, hp]
    rw [e1, e2, e3]
    clear h e1 e2 e3 hnf hf hp HC
    go_enter Try.func25, Try.ntmps25
    go_wp2_with (first | (go_at_call 36; refine HFt.out.mono ?_; rintro e w' ⟨rfl, rfl⟩) | (go_at_call 37; refine HC2.out.mono ?_; rintro e w1 ⟨rfl, rfl⟩))
    go_ret2
    exact ⟨rfl, p, cap, HR.out, Nr.refl _ _ _⟩
  | none =>
    rw [hp] at HC
    have HC2 : Hid (Calls Try.prog 37 #[.pointer (some ⟨r, 0, none⟩), .string s] w fun e w' => e = .returned (.int .i64 (-1)) ∧ w' = w) := HC
    have c0 := h.c0
    have c1 := h.c1
    by_cases hm : most ≤ ts.length
    · have e1 : addN most ts s = 0 := by unfold addN; rw [if_neg hnf, hp]; show (if most ≤ ts.length then (0 : Int) else _) = 0; rw [if_pos hm]
      have e2 : addE most ts s = 60 := by unfold addE; rw [if_neg hnf, hp]; show (if most ≤ ts.length then (60 : Int) else _) = 60; rw [if_pos hm]
      have e3 : addT most ts s = ts := by unfold addT; rw [if_neg hnf, hp]; show (if most ≤ ts.length then ts else _) = ts; rw [if_pos hm]
      rw [e1, e2, e3]
      have q2 : (most : Int) ≤ (ts.length : Int) := by omega
      clear h e1 e2 e3 hnf hf hp HC hm
      go_enter Try.func25, Try.ntmps25
      go_wp2_with (first | (go_at_call 36; refine HFt.out.mono ?_; rintro e w2 ⟨rfl, rfl⟩) | (go_at_call 37; refine HC2.out.mono ?_; rintro e w1 ⟨rfl, rfl⟩))
      go_quiet (fail)
      go_wp2_with fail
      go_ret2
      exact ⟨rfl, p, cap, HR.out.idle (Fr.drewN [] _ _), Nr.of (Fr.drewN [] _ _)⟩
    · have e1 : addN most ts s = (ts.length : Int) := by unfold addN; rw [if_neg hnf, hp]; show (if most ≤ ts.length then (0 : Int) else _) = _; rw [if_neg hm]
      have e2 : addE most ts s = 0 := by unfold addE; rw [if_neg hnf, hp]; show (if most ≤ ts.length then (60 : Int) else _) = 0; rw [if_neg hm]
      have e3 : addT most ts s = ts ++ [s] := by unfold addT; rw [if_neg hnf, hp]; show (if most ≤ ts.length then ts else _) = _; rw [if_neg hm]
      rw [e1, e2, e3]
      have q2 : (ts.length : Int) < (most : Int) := by omega
      have q3 : ts.length < 4096 := by have := h.most; omega
      have HPu : Hid (∀ n, _) := mkHid (fun n => RT.push (w := w.drewN n) s (h.idle (Fr.drewN [] w n)) (by omega))
      clear h e1 e2 e3 hnf hf hp HC hm
      go_enter Try.func25, Try.ntmps25
      go_wp2_with (first | (go_at_call 36; refine HFt.out.mono ?_; rintro e w2 ⟨rfl, rfl⟩) | (go_at_call 37; refine HC2.out.mono ?_; rintro e w1 ⟨rfl, rfl⟩))
      go_quiet (fail)
      obtain ⟨p', cap', w5, hr5, k5, k6, k7, r5, n5⟩ := HPu.out nq
      have HR5 := mkHid hr5
      have HT5 := mkHid r5
      have HN5 := mkHid n5
      clear hr5 r5 n5 HPu
      have hsub : (ts.length : Int) + 1 - 1 = (ts.length : Int) := by omega
      go_wp2_with (at_builtin; refine Lib.wpList_append_run _ rfl (.tmp 32) (.tmp 34) 22 22 rfl _ _ rfl rfl _ _ HR5.out ?_)
      go_ret2
      refine ⟨?_, p', cap', HT5.out, (Nr.of (Fr.drewN [] _ _)).trans HN5.out⟩
      rfl
end Go.Proofs.Ytjeeibokdnepgaa
