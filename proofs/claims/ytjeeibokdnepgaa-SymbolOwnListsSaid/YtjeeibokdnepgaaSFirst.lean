import Derived.Test.YtjeeibokdnepgaaSPair
namespace Go.Proofs.Ytjeeibokdnepgaa
open Go.RowKit Go.Maps Go.WideMaps
set_option linter.unusedVariables false
set_option linter.unusedSimpArgs false
/-- where a text stands in a list; -1: nowhere -/
def firstZ (l : List ByteArray) (s : ByteArray) : Int := match pos l s with | some k => (k : Int) | none => -1
set_option maxRecDepth 20000 in
set_option maxHeartbeats 1000000 in
theorem first_ok (ss : List ByteArray) (s : ByteArray) (v : Value) (w : World) (h : RdS w v ss) :
    Calls Try.prog 17 #[v, .string s] w fun e w' => e = .returned (.int .i64 (firstZ ss s)) ∧ w' = w := by
  obtain ⟨p, c, rfl, h1⟩ := h.at_
  have s1 := h.short
  have H1 := mkHid h1
  obtain ⟨Z, hZ⟩ : ∃ Z, Z = firstZ ss s := ⟨_, rfl⟩
  have HZ := mkHid hZ
  rw [← hZ]
  clear h h1 hZ
  go_enter Try.func17, Try.ntmps17
  go_wp2_with fail
  go_loopw [5] (fun q wr => ∃ i : Nat, i ≤ ss.length ∧ q = .int .i64 i ∧ Hid (s ∉ ss.take i) ∧ wr = w) (fun q _ => ss.length - (intOf q).toNat)
  case atStart => exact ⟨0, Nat.zero_le _, rfl, mkHid (by simp), rfl⟩
  case round =>
    obtain ⟨i, hi, rfl, hst, rfl⟩ := hrel
    have i1 : (0 : Int) ≤ (i : Int) := by omega
    by_cases hlt : i < ss.length
    · have i2 : (i : Int) < (ss.length : Int) := by omega
      obtain ⟨g, off, rfl, x1, x2⟩ := H1.out (by omega)
      have k1 := x2 i hlt
      have hg : ss[i]? = some (ss.getD i ⟨#[]⟩) := by rw [List.getD_eq_getElem?_getD, List.getElem?_eq_getElem hlt]; rfl
      have HB : Hid (ss.getD i ⟨#[]⟩ = s → Z = (i : Int)) := fun e => by
        rw [HZ.out]
        unfold firstZ
        rw [pos_at (hg.trans (by rw [e])) hst.out]
      have HN : Hid (ss.getD i ⟨#[]⟩ ≠ s → s ∉ ss.take (i + 1)) := fun e hm => by
        rw [List.take_succ_eq_append_getElem hlt] at hm
        rcases List.mem_append.1 hm with h1 | h1
        · exact hst.out h1
        · simp at h1
          rw [List.getD_eq_getElem?_getD, List.getElem?_eq_getElem hlt] at e
          exact e h1.symm
      generalize ss.getD i ⟨#[]⟩ = x at *
      clear x2 x1 hg
      by_cases he : x = s
      · have hb : (x.toList == s.toList) = true := by rw [tl_eq]; exact decide_eq_true he
        have HB2 := mkHid (HB.out he)
        clear HB HN he
        go_wp2_with fail
        go_ret
        exact ⟨by rw [HB2.out]; rfl, rfl⟩
      · have hb : (x.toList == s.toList) = false := by rw [tl_eq]; exact decide_eq_false he
        have HN2 := mkHid (HN.out he)
        clear HB HN he
        go_wp2_with fail
        go_roundw
        case rel => exact ⟨i + 1, by omega, by go_num, HN2, trivial⟩
        case measure => simp [intOf]; omega
    · have hie : i = ss.length := by omega
      subst hie
      have HE : Hid (Z = -1) := by
        show Z = -1
        rw [HZ.out]
        unfold firstZ
        have := hst.out
        rw [List.take_length] at this
        rw [pos_none.2 this]
      clear H1
      go_wp2_with fail
      go_ret
      exact ⟨by rw [HE.out]; rfl, rfl⟩
set_option maxHeartbeats 1000000 in
theorem fits_ok (s : ByteArray) (w : World) :
    Calls Try.prog 18 #[.string s] w fun e w' => e = .returned (.bool (decide (1 ≤ s.size ∧ s.size ≤ 96))) ∧ w' = w := by
  by_cases h1 : 1 ≤ s.size
  · by_cases h2 : s.size ≤ 96
    · rw [decide_eq_true (⟨h1, h2⟩ : 1 ≤ s.size ∧ s.size ≤ 96)]
      have q1 : (1 : Int) ≤ (s.size : Int) := by omega
      have q2 : (s.size : Int) ≤ 96 := by omega
      go_enter Try.func18, Try.ntmps18
      go_wp2
      go_ret
      exact ⟨rfl, rfl⟩
    · rw [decide_eq_false (fun h => h2 h.2)]
      have q1 : (1 : Int) ≤ (s.size : Int) := by omega
      have q2 : decide ((s.size : Int) ≤ 96) = false := decide_eq_false (by omega)
      go_enter Try.func18, Try.ntmps18
      go_wp2
      go_ret
      exact ⟨rfl, rfl⟩
  · rw [decide_eq_false (fun h => h1 h.1)]
    have q1 : (s.size : Int) < 1 := by omega
    go_enter Try.func18, Try.ntmps18
    go_wp2
    go_ret
    exact ⟨rfl, rfl⟩
/-- the table, and the list beside it -/
structure FS (w0 w : World) (a : Nat) (T U : List ByteArray) (p : Option Addr) (c : Nat) : Prop where
  at_ : ∃ l, TRep w a l 4096 T ∧ (∀ g ∈ foot a l, w0.heap.size ≤ g) ∧ (∀ g ∈ foot a l, g ∉ blk p)
  row : w.ownsRow w0.heap.size 9 1 (.slice p U.length c) U.length (U.map Value.string)
  fr : Fr [] w0 w
theorem FS.own {w0 w : World} {a : Nat} {T U : List ByteArray} {p : Option Addr} {c : Nat} (h : FS w0 w a T U p c) (hU : U.length ≤ 4096) : RdS w (.slice p U.length c) U := own_rd h.row (by omega)
theorem fs_add {w0 w : World} {a : Nat} {T U : List ByteArray} {p : Option Addr} {c : Nat} (h : FS w0 w a T U p c) (s : ByteArray) (hs : s.size ≤ 140737488355328) :
    Calls Try.prog 10 #[.pointer (some ⟨a, 0, none⟩), .string s] w fun e w' => e = .returned (.tuple #[.int .i64 (addN 4096 T s), .int .i64 (addE 4096 T s)]) ∧ FS w0 w' a (addT 4096 T s) U p c := by
  obtain ⟨l, h1, h2, h3⟩ := h.at_
  refine (Add_ok s a l 4096 T w h1 hs).mono ?_
  rintro e w' ⟨rfl, l', r, n⟩
  refine ⟨rfl, ⟨l', r, fun g hg => ?_, fun g hg hm => ?_⟩, own_congr h.row (fun g hg => ?_), h.fr.trans n.fr (fun g hg => Or.inr (h2 g hg))⟩
  · rcases n.foot g hg with h4 | h4
    · exact h2 g h4
    · exact Nat.le_trans h.fr.size h4
  · rcases n.foot g hg with h4 | h4
    · exact h3 g h4 hm
    · have := (own_lt h.row g ((blk_own _ _ _ _).2 hm)).2; omega
  · exact n.fr.block g (own_lt h.row g hg).2 (fun hm => h3 g hm ((blk_own _ _ _ _).1 hg))
theorem fs_push {w0 w : World} {a : Nat} {T U : List ByteArray} {p : Option Addr} {c : Nat} (h : FS w0 w a T U p c) (s : ByteArray) (hU : U.length ≤ 4096) :
    ∃ p' c' w', (Builtin.append_ #[22, 22] 22 #[.slice p U.length c, .slice (some ⟨w.heap.size, 0, none⟩) 1 1]).run Try.prog (w.alloc (.cells #[.string s] 9)) = .ok (.slice p' (U.length + 1) c') w' ∧ FS w0 w' a T (U ++ [s]) p' c' := by
  obtain ⟨l, h1, h2, h3⟩ := h.at_
  obtain ⟨p', c', w', r1, r2, r3, r4⟩ := run_push w p c w0.heap.size U s h.row (by omega) h.fr.size
  refine ⟨p', c', w', r1, ⟨l, h1.keep r3 h3, h2, fun g hg hm => ?_⟩, by rw [List.length_append]; exact r2, h.fr.trans r3 (fun g hg => Or.inr (own_lt h.row g ((blk_own _ _ _ _).2 hg)).1)⟩
  rcases r4 g hm with h4 | h4
  · exact h3 g hg h4
  · have := h1.lt g hg; omega
theorem fs_find {w0 w : World} {a : Nat} {T U : List ByteArray} {p : Option Addr} {c : Nat} (h : FS w0 w a T U p c) (s : ByteArray) (hs : s.size ≤ 140737488355328) :
    Calls Try.prog 15 #[.pointer (some ⟨a, 0, none⟩), .string s] w fun e w' => e = .returned (.tuple #[.int .i64 (lookN (pos T s)), .bool (pos T s).isSome]) ∧ w' = w := by
  obtain ⟨l, h1, h2, h3⟩ := h.at_
  exact Find_any s a l 4096 T w h1 hs
theorem fs_first {w0 w : World} {a : Nat} {T U : List ByteArray} {p : Option Addr} {c : Nat} (h : FS w0 w a T U p c) (hU : U.length ≤ 4096) (s : ByteArray) :
    Calls Try.prog 17 #[.slice p U.length c, .string s] w fun e w' => e = .returned (.int .i64 (firstZ U s)) ∧ w' = w := first_ok U s _ w (h.own hU)
theorem FS.len {w0 w : World} {a : Nat} {T U : List ByteArray} {p : Option Addr} {c : Nat} (h : FS w0 w a T U p c) : T.length ≤ 4096 := by
  obtain ⟨l, h1, h2, h3⟩ := h.at_
  exact h1.len
theorem FS.fit {w0 w : World} {a : Nat} {T U : List ByteArray} {p : Option Addr} {c : Nat} (h : FS w0 w a T U p c) : ∀ s ∈ T, 1 ≤ s.size ∧ s.size ≤ 96 := by
  obtain ⟨l, h1, h2, h3⟩ := h.at_
  exact h1.fit
theorem fs_text {w0 w : World} {a : Nat} {T U : List ByteArray} {p : Option Addr} {c : Nat} (h : FS w0 w a T U p c) (n : Nat) (hn : n < T.length) :
    Calls Try.prog 19 #[.pointer (some ⟨a, 0, none⟩), .int .i64 (n : Int)] w fun e w' => e = .returned (.tuple #[.string (T.getD n ⟨#[]⟩), .int .i64 0]) ∧ w' = w := by
  obtain ⟨l, h1, h2, h3⟩ := h.at_
  exact Text_in n a l 4096 T w h1 hn
theorem fs_text_no {w0 w : World} {a : Nat} {T U : List ByteArray} {p : Option Addr} {c : Nat} (h : FS w0 w a T U p c) :
    Calls Try.prog 19 #[.pointer (some ⟨a, 0, none⟩), .int .i64 (T.length : Int)] w fun e w' => e = .returned (.tuple #[.string ⟨#[]⟩, .int .i64 61]) ∧ w' = w := by
  obtain ⟨l, h1, h2, h3⟩ := h.at_
  exact Text_no _ a l 4096 T w h1 (Or.inr (by omega))
theorem fs_count {w0 w : World} {a : Nat} {T U : List ByteArray} {p : Option Addr} {c : Nat} (h : FS w0 w a T U p c) :
    Calls Try.prog 9 #[.pointer (some ⟨a, 0, none⟩)] w fun e w' => e = .returned (.int .i64 (T.length : Int)) ∧ w' = w := by
  obtain ⟨l, h1, h2, h3⟩ := h.at_
  exact Count_any a l 4096 T w h1
theorem FS.idle {w0 w w' : World} {a : Nat} {T U : List ByteArray} {p : Option Addr} {c : Nat} (h : FS w0 w a T U p c) (hf : Fr [] w w') : FS w0 w' a T U p c := by
  obtain ⟨l, h1, h2, h3⟩ := h.at_
  exact ⟨⟨l, h1.idle hf, h2, h3⟩, own_congr h.row (fun g hg => hf.block g (own_lt h.row g hg).2 (by simp)), h.fr.trans hf (by simp)⟩
theorem fs_all {w0 w : World} {a : Nat} {T U : List ByteArray} {p : Option Addr} {c : Nat} (h : FS w0 w a T U p c) :
    Calls Try.prog 14 #[.pointer (some ⟨a, 0, none⟩)] w fun e w' => ∃ p' c', e = .returned (.slice p' T.length c') ∧ RdS w' (.slice p' T.length c') T ∧ FS w0 w' a T U p c := by
  obtain ⟨l, h1, h2, h3⟩ := h.at_
  refine (All_ok a l 4096 T w h1).mono ?_
  rintro e w' ⟨v', rfl, r, hf⟩
  have hr := own_rd r (by have := h1.len; omega)
  obtain ⟨p', c', rfl, _⟩ := hr.at_
  exact ⟨p', c', rfl, hr, h.idle hf⟩
theorem fs_new {w0 w : World} {a : Nat} {l : Lay} (h : TRep w a l 4096 []) (hf : Fr [] w0 w) (hg : ∀ g ∈ foot a l, w0.heap.size ≤ g) : FS w0 w a [] [] none 0 :=
  ⟨⟨l, h, hg, by simp [blk]⟩, World.ownsRow_nil _ _ _ _, hf⟩
set_option maxRecDepth 20000 in
set_option maxHeartbeats 2000000 in
theorem symFirst_any (ls : List ByteArray) (vl : Value) (w : World) (hl : ArgS w vl ls) :
    Calls Try.prog 4 #[vl] w fun e w' => e = .returned (.bool true) ∧ Fr [] w w' := by
  obtain ⟨pl, cl, rfl, hl1⟩ := hl.rd.at_
  have HL1 := mkHid hl1
  have HL := mkHid hl
  have s1 := hl.rd.short
  clear hl hl1
  go_enter Try.func4, Try.ntmps4
  go_wp2_with (first | (go_at_call 16; refine (New_in 4096 _ (Nat.le_refl _)).mono ?_; rintro e w1 ⟨a, l, rfl, R1, F1, G1⟩; have HF0 := mkHid (fs_new R1 F1 G1); clear R1 F1 G1) | (go_at_call 12; refine (num_any _ _ (by omega) (by omega)).mono ?_; rintro e w2 ⟨rfl, rfl⟩))
  go_loopw [5, 6] (fun u q wr => ∃ (i : Nat) (T : List ByteArray) (p : Option Addr) (c : Nat), i ≤ ls.length ∧ q = .int .i64 i ∧ u = .slice p T.length c ∧ Hid (FS w wr a T T p c)) (fun _ q _ => ls.length - (intOf q).toNat)
  case atStart => exact ⟨0, [], none, 0, Nat.zero_le _, rfl, rfl, HF0⟩
  case round =>
    obtain ⟨i, T, p, c, hi, rfl, rfl, hst⟩ := hrel
    have i1 : (0 : Int) ≤ (i : Int) := by omega
    by_cases hlt : i < ls.length
    · have i2 : (i : Int) < (ls.length : Int) := by omega
      obtain ⟨g, off, rfl, x1, x2⟩ := HL1.out (by omega)
      have HK : Hid (∀ W, Fr [] w W → W.cell? ⟨g, off + i, none⟩ = some (.string (ls.getD i ⟨#[]⟩))) := fun W hW => (hW.cell (p := ⟨g, off + i, none⟩) x1 (by simp)).trans (x2 i hlt)
      have k1 := HK.out wr hst.out.fr
      have hsz := HL.out.get hlt
      have hlen := hst.out.len
      generalize ls.getD i ⟨#[]⟩ = x at *
      have HAdd := mkHid (fs_add hst.out x hsz)
      by_cases hf : 1 ≤ x.size ∧ x.size ≤ 96
      rotate_left
      · have hx : x.size = 0 ∨ 96 < x.size := by omega
        have e1 : addN 4096 T x = 0 := by unfold addN; rw [if_pos hx]
        have e2 : addE 4096 T x = 61 := by unfold addE; rw [if_pos hx]
        have e3 : addT 4096 T x = T := by unfold addT; rw [if_pos hx]
        have hp : pos T x = none := pos_none.2 (fun hm => hf (hst.out.fit x hm))
        have hz : firstZ T x = -1 := by unfold firstZ; rw [hp]
        rw [e1, e2, e3] at HAdd
        have HFi : Hid (∀ W, FS w W a T T p c → Calls Try.prog 17 #[.slice p T.length c, .string x] W fun e w' => e = .returned (.int .i64 (-1)) ∧ w' = W) := fun W hW => by
          have := fs_first hW hlen x
          rwa [hz] at this
        have HFd : Hid (∀ W, FS w W a T T p c → Calls Try.prog 15 #[.pointer (some ⟨a, 0, none⟩), .string x] W fun e w' => e = .returned (.tuple #[.int .i64 0, .bool false]) ∧ w' = W) := fun W hW => by
          have := fs_find hW x hsz
          rwa [hp] at this
        have HFt := mkHid (fits_ok x)
        rw [decide_eq_false hf] at HFt
        clear e1 e2 e3 hp hz hf hx x1 x2 HF0 HL HL1
        go_wp2_with (first
          | (go_at_call 10; refine HAdd.out.mono ?_; rintro e w3 ⟨rfl, h3⟩; have k2 := HK.out w3 h3.fr; have HS3 := mkHid h3; clear h3)
          | (go_at_call 17; refine (HFi.out _ HS3.out).mono ?_; rintro e w4 ⟨rfl, rfl⟩)
          | (go_at_call 18; refine (HFt.out _).mono ?_; rintro e w5 ⟨rfl, rfl⟩)
          | (go_at_call 12; refine (num_any _ _ (by omega) (by omega)).mono ?_; rintro e w6 ⟨rfl, rfl⟩)
          | (go_at_call 15; refine (HFd.out _ HS3.out).mono ?_; rintro e w7 ⟨rfl, rfl⟩))
        go_roundw
        case rel => exact ⟨i + 1, T, p, c, by omega, by go_num, rfl, HS3⟩
        case measure => simp [intOf]; omega
      · have hx : ¬ (x.size = 0 ∨ 96 < x.size) := by omega
        have HFt := mkHid (fits_ok x)
        rw [decide_eq_true hf] at HFt
        clear hf x1 x2 HF0 HL HL1
        cases hp : pos T x with
        | some k =>
          have e1 : addN 4096 T x = (k : Int) := by unfold addN; rw [if_neg hx, hp]
          have e2 : addE 4096 T x = 0 := by unfold addE; rw [if_neg hx, hp]
          have e3 : addT 4096 T x = T := by unfold addT; rw [if_neg hx, hp]
          have hz : firstZ T x = (k : Int) := by unfold firstZ; rw [hp]
          have hk := (pos_some hp).1
          rw [e1, e2, e3] at HAdd
          have HFi : Hid (∀ W, FS w W a T T p c → Calls Try.prog 17 #[.slice p T.length c, .string x] W fun e w' => e = .returned (.int .i64 (k : Int)) ∧ w' = W) := fun W hW => by
            have := fs_first hW hlen x
            rwa [hz] at this
          have HFd : Hid (∀ W, FS w W a T T p c → Calls Try.prog 15 #[.pointer (some ⟨a, 0, none⟩), .string x] W fun e w' => e = .returned (.tuple #[.int .i64 (k : Int), .bool true]) ∧ w' = W) := fun W hW => by
            have := fs_find hW x hsz
            rwa [hp] at this
          have n1 := neq_self_i (k : Int)
          have k0 : (0 : Int) ≤ (k : Int) := by omega
          clear e1 e2 e3 hp hz hx
          go_wp2_with (first
            | (go_at_call 10; refine HAdd.out.mono ?_; rintro e w3 ⟨rfl, h3⟩; have k2 := HK.out w3 h3.fr; have HS3 := mkHid h3; clear h3)
            | (go_at_call 17; refine (HFi.out _ HS3.out).mono ?_; rintro e w4 ⟨rfl, rfl⟩)
            | (go_at_call 18; refine (HFt.out _).mono ?_; rintro e w5 ⟨rfl, rfl⟩)
            | (go_at_call 12; refine (num_any _ _ (by omega) (by omega)).mono ?_; rintro e w6 ⟨rfl, rfl⟩)
            | (go_at_call 15; refine (HFd.out _ HS3.out).mono ?_; rintro e w7 ⟨rfl, rfl⟩))
          go_roundw
          case rel => exact ⟨i + 1, T, p, c, by omega, by go_num, rfl, HS3⟩
          case measure => simp [intOf]; omega
        | none =>
          have hz : firstZ T x = -1 := by unfold firstZ; rw [hp]
          by_cases hfull : T.length = 4096
          · have hm : 4096 ≤ T.length := by omega
            have e1 : addN 4096 T x = 0 := by unfold addN; rw [if_neg hx, hp]; show (if 4096 ≤ T.length then (0 : Int) else _) = 0; rw [if_pos hm]
            have e2 : addE 4096 T x = 60 := by unfold addE; rw [if_neg hx, hp]; show (if 4096 ≤ T.length then (60 : Int) else _) = 60; rw [if_pos hm]
            have e3 : addT 4096 T x = T := by unfold addT; rw [if_neg hx, hp]; show (if 4096 ≤ T.length then T else _) = T; rw [if_pos hm]
            rw [e1, e2, e3] at HAdd
            have HFi : Hid (∀ W, FS w W a T T p c → Calls Try.prog 17 #[.slice p T.length c, .string x] W fun e w' => e = .returned (.int .i64 (-1)) ∧ w' = W) := fun W hW => by
              have := fs_first hW hlen x
              rwa [hz] at this
            have HFd : Hid (∀ W, FS w W a T T p c → Calls Try.prog 15 #[.pointer (some ⟨a, 0, none⟩), .string x] W fun e w' => e = .returned (.tuple #[.int .i64 0, .bool false]) ∧ w' = W) := fun W hW => by
              have := fs_find hW x hsz
              rwa [hp] at this
            have hl4 : (T.length : Int) = 4096 := by omega
            clear e1 e2 e3 hp hz hx hm hfull
            go_wp2_with (first
              | (go_at_call 10; refine HAdd.out.mono ?_; rintro e w3 ⟨rfl, h3⟩; have k2 := HK.out w3 h3.fr; have HS3 := mkHid h3; clear h3)
              | (go_at_call 17; refine (HFi.out _ HS3.out).mono ?_; rintro e w4 ⟨rfl, rfl⟩)
              | (go_at_call 18; refine (HFt.out _).mono ?_; rintro e w5 ⟨rfl, rfl⟩)
              | (go_at_call 12; refine (num_any _ _ (by omega) (by omega)).mono ?_; rintro e w6 ⟨rfl, rfl⟩)
              | (go_at_call 15; refine (HFd.out _ HS3.out).mono ?_; rintro e w7 ⟨rfl, rfl⟩))
            go_roundw
            case rel => exact ⟨i + 1, T, p, c, by omega, by go_num, rfl, HS3⟩
            case measure => simp [intOf]; omega
          · have hm : ¬ 4096 ≤ T.length := by omega
            have e1 : addN 4096 T x = (T.length : Int) := by unfold addN; rw [if_neg hx, hp]; show (if 4096 ≤ T.length then (0 : Int) else _) = _; rw [if_neg hm]
            have e2 : addE 4096 T x = 0 := by unfold addE; rw [if_neg hx, hp]; show (if 4096 ≤ T.length then (60 : Int) else _) = 0; rw [if_neg hm]
            have e3 : addT 4096 T x = T ++ [x] := by unfold addT; rw [if_neg hx, hp]; show (if 4096 ≤ T.length then T else _) = _; rw [if_neg hm]
            have hp2 : pos (T ++ [x]) x = some T.length := by rw [pos_new hp, if_pos rfl]
            have hz2 : firstZ (T ++ [x]) x = (T.length : Int) := by unfold firstZ; rw [hp2]
            rw [e1, e2, e3] at HAdd
            have HFi : Hid (∀ W, FS w W a (T ++ [x]) T p c → Calls Try.prog 17 #[.slice p T.length c, .string x] W fun e w' => e = .returned (.int .i64 (-1)) ∧ w' = W) := fun W hW => by
              have := fs_first hW hlen x
              rwa [hz] at this
            have HFi2 : Hid (∀ W p' c', FS w W a (T ++ [x]) (T ++ [x]) p' c' → Calls Try.prog 17 #[.slice p' (T.length + 1) c', .string x] W fun e w' => e = .returned (.int .i64 (T.length : Int)) ∧ w' = W) := fun W p' c' hW => by
              have := fs_first hW (by simp; omega) x
              rwa [hz2, List.length_append] at this
            have HFd : Hid (∀ W p' c', FS w W a (T ++ [x]) (T ++ [x]) p' c' → Calls Try.prog 15 #[.pointer (some ⟨a, 0, none⟩), .string x] W fun e w' => e = .returned (.tuple #[.int .i64 (T.length : Int), .bool true]) ∧ w' = W) := fun W p' c' hW => by
              have := fs_find hW x hsz
              rwa [hp2] at this
            have HPu : Hid (∀ W, FS w W a (T ++ [x]) T p c → _) := mkHid (fun W hW => fs_push hW x hlen)
            have hl4 : ((T.length : Int) == 4096) = false := beq_eq_false_iff_ne.2 (by omega)
            have n1 := neq_self_i (T.length : Int)
            have t0 : (0 : Int) ≤ (T.length : Int) := by omega
            clear e1 e2 e3 hp hp2 hz hz2 hx hm hfull
            go_wp2_with (first
              | (go_at_call 10; refine HAdd.out.mono ?_; rintro e w3 ⟨rfl, h3⟩; have k2 := HK.out w3 h3.fr; obtain ⟨p5, c5, w8, r8, h8⟩ := HPu.out w3 h3; have k3 := HK.out w8 h8.fr; have HR8 := mkHid r8; have HS8 := mkHid h8; have HS3 := mkHid h3; clear h3 r8 h8)
              | (go_at_call 17; first | (have hh := K17; refine (HFi2.out _ _ _ HS8.out).mono ?_; rintro e w9 ⟨rfl, rfl⟩) | (refine (HFi.out _ HS3.out).mono ?_; rintro e w4 ⟨rfl, rfl⟩; have K17 := trivial))
              | (go_at_call 18; refine (HFt.out _).mono ?_; rintro e w5 ⟨rfl, rfl⟩)
              | (go_at_call 12; refine (num_any _ _ (by omega) (by omega)).mono ?_; rintro e w6 ⟨rfl, rfl⟩)
              | (at_builtin; refine Lib.wpList_append_run _ rfl (.tmp 58) (.tmp 63) 22 22 rfl _ _ rfl rfl _ _ HR8.out ?_)
              | (go_at_call 15; refine (HFd.out _ _ _ HS8.out).mono ?_; rintro e w7 ⟨rfl, rfl⟩))
            go_roundw
            case rel => exact ⟨i + 1, T ++ [x], p5, c5, by omega, by go_num, by simp, HS8⟩
            case measure => simp [intOf]; omega
    · have hie : i = ls.length := by omega
      subst hie
      clear HF0 HL HL1
      have hlen := hst.out.len
      have hrd := (hst.out.own hlen).at_
      obtain ⟨p1, c1, e1, hc⟩ := hrd
      injection e1 with e1 _ e2
      subst e1
      subst e2
      have HC := mkHid hc
      clear hc
      go_wp2_with fail
      go_loopw [12] (fun q wq => ∃ i : Nat, i ≤ T.length ∧ q = .int .i64 i ∧ wq = wr) (fun q _ => T.length - (intOf q).toNat)
      case atStart => exact ⟨0, Nat.zero_le _, rfl, rfl⟩
      case round =>
        obtain ⟨i, hi, rfl, rfl⟩ := hrel
        have i1 : (0 : Int) ≤ (i : Int) := by omega
        by_cases hlt : i < T.length
        · have i2 : (i : Int) < (T.length : Int) := by omega
          obtain ⟨g, off, rfl, x1, x2⟩ := HC.out (by omega)
          have k1 := x2 i hlt
          have HT := mkHid (fs_text hst.out i hlt)
          generalize T.getD i ⟨#[]⟩ = x at *
          have hb : (x.toList == x.toList) = true := by simp
          clear x2 x1 HC hst
          go_wp2_with (first
            | (go_at_call 19; refine HT.out.mono ?_; rintro e w3 ⟨rfl, rfl⟩)
            | (go_at_call 12; refine (num_any _ _ (by omega) (by omega)).mono ?_; rintro e w6 ⟨rfl, rfl⟩))
          go_roundw
          case rel => exact ⟨i + 1, by omega, by go_num, trivial⟩
          case measure => simp [intOf]; omega
        · have hie : i = T.length := by omega
          subst hie
          have HT := mkHid (fs_text_no hst.out)
          have HA := mkHid (fs_all hst.out)
          have b1 : ((T.length : Int) == (T.length : Int)) = true := by simp
          clear HC
          go_wp2_with (first
            | (go_at_call 19; refine HT.out.mono ?_; rintro e w3 ⟨rfl, rfl⟩)
            | (go_at_call 12; refine (num_any _ _ (by omega) (by omega)).mono ?_; rintro e w6 ⟨rfl, rfl⟩)
            | (go_at_call 14; refine HA.out.mono ?_; rintro e w7 ⟨p7, c7, rfl, rd7, h7⟩; have HD7 := mkHid rd7; have HU7 := mkHid (h7.own hlen); have HS7 := mkHid h7; clear rd7 h7)
            | (go_at_call 13; refine (sameTexts_yes _ _ _ _ HD7.out HU7.out).mono ?_; rintro e w8 ⟨rfl, f8⟩; have HS8 := mkHid (HS7.out.idle f8); clear f8)
            | (go_at_call 9; refine (fs_count HS8.out).mono ?_; rintro e w9 ⟨rfl, rfl⟩))
          go_ret
          exact ⟨rfl, HS8.out.fr⟩
end Go.Proofs.Ytjeeibokdnepgaa
