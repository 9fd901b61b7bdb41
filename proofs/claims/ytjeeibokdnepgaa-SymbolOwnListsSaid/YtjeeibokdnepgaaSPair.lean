import Derived.Test.YtjeeibokdnepgaaSBack
namespace Go.Proofs.Ytjeeibokdnepgaa
open Go.RowKit Go.Maps Go.WideMaps
set_option linter.unusedVariables false
set_option linter.unusedSimpArgs false
/-- the texts of a list are put into a table, one behind the other -/
def adds (most : Nat) (ts ss : List ByteArray) : List ByteArray := ss.foldl (addT most) ts
theorem adds_step (most : Nat) (ts ss : List ByteArray) (i : Nat) (h : i < ss.length) : adds most ts (ss.take (i + 1)) = addT most (adds most ts (ss.take i)) (ss.getD i ⟨#[]⟩) := by
  unfold adds
  rw [List.take_succ_eq_append_getElem h, List.foldl_append, List.getD_eq_getElem?_getD, List.getElem?_eq_getElem h]
  rfl
theorem addT_grows (most : Nat) (ts : List ByteArray) (s : ByteArray) : ∃ x, addT most ts s = ts ++ x := by
  unfold addT
  by_cases c : s.size = 0 ∨ 96 < s.size
  · exact ⟨[], by rw [if_pos c]; simp⟩
  · rw [if_neg c]
    cases pos ts s with
    | some k => exact ⟨[], by simp⟩
    | none =>
      show ∃ x, (if most ≤ ts.length then ts else ts ++ [s]) = ts ++ x
      by_cases c2 : most ≤ ts.length
      · exact ⟨[], by rw [if_pos c2]; simp⟩
      · exact ⟨[s], by rw [if_neg c2]⟩
theorem adds_grows (most : Nat) (ss : List ByteArray) : ∀ ts, ∃ x, adds most ts ss = ts ++ x := by
  induction ss with
  | nil => intro ts; exact ⟨[], by simp [adds]⟩
  | cons s ss ih =>
    intro ts
    obtain ⟨x, hx⟩ := addT_grows most ts s
    obtain ⟨y, hy⟩ := ih (addT most ts s)
    refine ⟨x ++ y, ?_⟩
    show adds most (addT most ts s) ss = _
    rw [hy, hx, List.append_assoc]
theorem addE_range (most : Nat) (ts : List ByteArray) (s : ByteArray) : 0 ≤ addE most ts s ∧ addE most ts s ≤ 61 := by
  unfold addE
  by_cases c : s.size = 0 ∨ 96 < s.size
  · rw [if_pos c]; omega
  · rw [if_neg c]
    cases pos ts s with
    | some k => show (0 : Int) ≤ 0 ∧ (0 : Int) ≤ 61; omega
    | none =>
      show 0 ≤ (if most ≤ ts.length then (60 : Int) else 0) ∧ (if most ≤ ts.length then (60 : Int) else 0) ≤ 61
      by_cases c2 : most ≤ ts.length
      · rw [if_pos c2]; omega
      · rw [if_neg c2]; omega
/-- the list of an argument, its texts of a size that is -/
structure ArgS (w : World) (v : Value) (ss : List ByteArray) : Prop where
  rd : RdS w v ss
  sz : ∀ s ∈ ss, s.size ≤ 140737488355328
theorem ArgS.idle {w w' : World} {v : Value} {ss : List ByteArray} (h : ArgS w v ss) (hf : Fr [] w w') : ArgS w' v ss := ⟨h.rd.idle hf, h.sz⟩
theorem ArgS.get {w : World} {v : Value} {ss : List ByteArray} (h : ArgS w v ss) {i : Nat} (hi : i < ss.length) : (ss.getD i ⟨#[]⟩).size ≤ 140737488355328 := by
  refine h.sz _ ?_
  rw [List.getD_eq_getElem?_getD, List.getElem?_eq_getElem hi]
  exact List.getElem_mem hi
/-- two tables of this law's own, beside one another -/
structure Pair (w0 w : World) (a b : Nat) (ts us : List ByteArray) : Prop where
  at_ : ∃ l m, TRep w a l 4096 ts ∧ TRep w b m 4096 us ∧ (∀ g ∈ foot b m, g ∉ foot a l) ∧ (∀ g ∈ foot a l, w0.heap.size ≤ g) ∧ (∀ g ∈ foot b m, w0.heap.size ≤ g)
  fr : Fr [] w0 w
theorem Pair.swap {w0 w : World} {a b : Nat} {ts us : List ByteArray} (h : Pair w0 w a b ts us) : Pair w0 w b a us ts := by
  obtain ⟨l, m, h1, h2, h3, h4, h5⟩ := h.at_
  exact ⟨⟨m, l, h2, h1, fun g hg hm => h3 g hm hg, h5, h4⟩, h.fr⟩
theorem Pair.idle {w0 w w' : World} {a b : Nat} {ts us : List ByteArray} (h : Pair w0 w a b ts us) (hf : Fr [] w w') : Pair w0 w' a b ts us := by
  obtain ⟨l, m, h1, h2, h3, h4, h5⟩ := h.at_
  exact ⟨⟨l, m, h1.idle hf, h2.idle hf, h3, h4, h5⟩, h.fr.trans hf (by simp)⟩
theorem Pair.next {w0 w w' : World} {a b : Nat} {l l' m : Lay} {ts ts' us : List ByteArray} (h1 : TRep w a l 4096 ts) (h2 : TRep w b m 4096 us) (h3 : ∀ g ∈ foot b m, g ∉ foot a l) (h4 : ∀ g ∈ foot a l, w0.heap.size ≤ g) (h5 : ∀ g ∈ foot b m, w0.heap.size ≤ g) (hf : Fr [] w0 w)
    (r : TRep w' a l' 4096 ts') (n : Nx a l l' w w') : Pair w0 w' a b ts' us := by
  obtain ⟨k1, k2⟩ := n.other h2 h3
  refine ⟨⟨l', m, r, k1, k2, fun g hg => ?_, h5⟩, hf.trans n.fr (fun g hg => Or.inr (h4 g hg))⟩
  rcases n.foot g hg with h | h
  · exact h4 g h
  · exact Nat.le_trans hf.size h
theorem pair_add {w0 w : World} {a b : Nat} {ts us : List ByteArray} (h : Pair w0 w a b ts us) (s : ByteArray) (hs : s.size ≤ 140737488355328) :
    Calls Try.prog 10 #[.pointer (some ⟨a, 0, none⟩), .string s] w fun e w' => e = .returned (.tuple #[.int .i64 (addN 4096 ts s), .int .i64 (addE 4096 ts s)]) ∧ Pair w0 w' a b (addT 4096 ts s) us := by
  obtain ⟨l, m, h1, h2, h3, h4, h5⟩ := h.at_
  refine (Add_ok s a l 4096 ts w h1 hs).mono ?_
  rintro e w' ⟨rfl, l', r, n⟩
  exact ⟨rfl, Pair.next h1 h2 h3 h4 h5 h.fr r n⟩
theorem pair_addB {w0 w : World} {a b : Nat} {ts us : List ByteArray} (h : Pair w0 w a b ts us) (s : ByteArray) (hs : s.size ≤ 140737488355328) :
    Calls Try.prog 10 #[.pointer (some ⟨b, 0, none⟩), .string s] w fun e w' => e = .returned (.tuple #[.int .i64 (addN 4096 us s), .int .i64 (addE 4096 us s)]) ∧ Pair w0 w' a b ts (addT 4096 us s) := by
  refine (pair_add h.swap s hs).mono ?_
  rintro e w' ⟨rfl, r⟩
  exact ⟨rfl, r.swap⟩
theorem pair_count {w0 w : World} {a b : Nat} {ts us : List ByteArray} (h : Pair w0 w a b ts us) :
    Calls Try.prog 9 #[.pointer (some ⟨a, 0, none⟩)] w fun e w' => e = .returned (.int .i64 (ts.length : Int)) ∧ w' = w := by
  obtain ⟨l, m, h1, h2, h3, h4, h5⟩ := h.at_
  exact Count_any a l 4096 ts w h1
theorem pair_find {w0 w : World} {a b : Nat} {ts us : List ByteArray} (h : Pair w0 w a b ts us) (s : ByteArray) (hs : s.size ≤ 140737488355328) :
    Calls Try.prog 15 #[.pointer (some ⟨a, 0, none⟩), .string s] w fun e w' => e = .returned (.tuple #[.int .i64 (lookN (pos ts s)), .bool (pos ts s).isSome]) ∧ w' = w := by
  obtain ⟨l, m, h1, h2, h3, h4, h5⟩ := h.at_
  exact Find_any s a l 4096 ts w h1 hs
theorem pair_all {w0 w : World} {a b : Nat} {ts us : List ByteArray} (h : Pair w0 w a b ts us) :
    Calls Try.prog 14 #[.pointer (some ⟨a, 0, none⟩)] w fun e w' => ∃ p c, e = .returned (.slice p ts.length c) ∧ RdS w' (.slice p ts.length c) ts ∧ Fr [] w w' ∧ Pair w0 w' a b ts us := by
  obtain ⟨l, m, h1, h2, h3, h4, h5⟩ := h.at_
  refine (All_ok a l 4096 ts w h1).mono ?_
  rintro e w' ⟨v', rfl, r, hf⟩
  have hr := own_rd r (by have := h1.len; omega)
  obtain ⟨p, c, rfl, _⟩ := hr.at_
  exact ⟨p, c, rfl, hr, hf, h.idle hf⟩
theorem pair_back {w0 w : World} {a b : Nat} {ts us : List ByteArray} (h : Pair w0 w a b ts us) (n : Nat) (hn : n ≤ ts.length) :
    Calls Try.prog 11 #[.pointer (some ⟨a, 0, none⟩), .int .i64 (n : Int)] w fun e w' => e = .returned (.int .i64 0) ∧ Pair w0 w' a b (ts.take n) us := by
  obtain ⟨l, m, h1, h2, h3, h4, h5⟩ := h.at_
  refine (Back_in n a l 4096 ts w h1 hn).mono ?_
  rintro e w' ⟨rfl, r, n⟩
  exact ⟨rfl, Pair.next h1 h2 h3 h4 h5 h.fr r ⟨n, fun g hg => Or.inl hg⟩⟩
theorem pair_back_no {w0 w : World} {a b : Nat} {ts us : List ByteArray} (h : Pair w0 w a b ts us) (n : Int) (hn : n < 0 ∨ (ts.length : Int) < n) :
    Calls Try.prog 11 #[.pointer (some ⟨a, 0, none⟩), .int .i64 n] w fun e w' => e = .returned (.int .i64 1) ∧ w' = w := by
  obtain ⟨l, m, h1, h2, h3, h4, h5⟩ := h.at_
  exact Back_no n a l 4096 ts w h1 hn
theorem Pair.len {w0 w : World} {a b : Nat} {ts us : List ByteArray} (h : Pair w0 w a b ts us) : ts.length ≤ 4096 := by
  obtain ⟨l, m, h1, h2, h3, h4, h5⟩ := h.at_
  exact h1.len
theorem pair_of_full {w0 w1 w2 : World} {a b : Nat} {l m : Lay} {ts : List ByteArray} (h1 : TRep w1 a l 4096 ts) (f1 : Fr [] w0 w1) (g1 : ∀ g ∈ foot a l, w0.heap.size ≤ g) (h2 : TRep w2 b m 4096 ts) (f2 : Fr [] w1 w2) (g2 : ∀ g ∈ foot b m, w1.heap.size ≤ g) : Pair w0 w2 a b ts ts :=
  ⟨⟨l, m, h1.idle f2, h2, fun g hg hm => by have := g2 g hg; have := h1.lt g hm; omega, g1, fun g hg => Nat.le_trans f1.size (g2 g hg)⟩, f1.trans f2 (by simp)⟩
theorem sameTexts_yes (ss : List ByteArray) (v u : Value) (w : World) (hs : RdS w v ss) (ht : RdS w u ss) :
    Calls Try.prog 13 #[v, u] w fun e w' => e = .returned (.bool true) ∧ Fr [] w w' := by
  have h := sameTexts_ok ss ss v u w hs ht
  rw [decide_eq_true (rfl : ss = ss)] at h
  exact h
theorem neq_self_i (x : Int) : (x != x) = false := by simp
theorem neq_self_b (x : Bool) : (x != x) = false := by simp
set_option maxRecDepth 20000 in
set_option maxHeartbeats 1000000 in
/-- a table of the greatest most, with these texts added -/
theorem full_ok (ss : List ByteArray) (v : Value) (w : World) (h : ArgS w v ss) :
    Calls Try.prog 8 #[v] w fun e w' => ∃ a l, e = .returned (.pointer (some ⟨a, 0, none⟩)) ∧ TRep w' a l 4096 (adds 4096 [] ss) ∧ Fr [] w w' ∧ (∀ g ∈ foot a l, w.heap.size ≤ g) := by
  obtain ⟨p, c, rfl, h1⟩ := h.rd.at_
  have H1 := mkHid h1
  have HA := mkHid h
  have s1 := h.rd.short
  clear h h1
  go_enter Try.func8, Try.ntmps8
  go_wp2_with (first | (go_at_call 16; refine (New_in 4096 _ (Nat.le_refl _)).mono ?_; rintro e w1 ⟨a, l, rfl, R1, F1, G1⟩; have HR := mkHid R1; have HF := mkHid F1; have HG := mkHid G1; clear R1 F1 G1) | (go_at_call 12; refine (num_any _ _ (by omega) (by omega)).mono ?_; rintro e w2 ⟨rfl, rfl⟩))
  go_loopw [5] (fun q wr => ∃ i : Nat, i ≤ ss.length ∧ q = .int .i64 i ∧ Hid (∃ l', TRep wr a l' 4096 (adds 4096 [] (ss.take i)) ∧ (∀ g ∈ foot a l', w.heap.size ≤ g)) ∧ Hid (Fr [] w wr)) (fun q _ => ss.length - (intOf q).toNat)
  case atStart => exact ⟨0, Nat.zero_le _, rfl, mkHid ⟨l, HR.out, HG.out⟩, HF⟩
  case round =>
    obtain ⟨i, hi, rfl, hst, hfr⟩ := hrel
    have i1 : (0 : Int) ≤ (i : Int) := by omega
    by_cases hlt : i < ss.length
    · have i2 : (i : Int) < (ss.length : Int) := by omega
      obtain ⟨g, off, rfl, x1, x2⟩ := H1.out (by omega)
      have k1 := (hfr.out.cell (p := ⟨g, off + i, none⟩) x1 (by simp)).trans (x2 i hlt)
      obtain ⟨l', r1, r2⟩ := hst.out
      have HC := mkHid (Add_ok (ss.getD i ⟨#[]⟩) a l' 4096 _ wr r1 (HA.out.get hlt))
      have HR2 := mkHid r2
      have HE := mkHid (adds_step 4096 [] ss i hlt)
      generalize ss.getD i ⟨#[]⟩ = x at *
      clear x1 x2 r1 r2 hst HA H1
      go_wp2_with (go_at_call 10; refine HC.out.mono ?_; rintro e w3 ⟨rfl, l3, r3, n3⟩; have HN := mkHid n3; have HT := mkHid r3; clear n3 r3)
      go_roundw
      case rel =>
        refine ⟨i + 1, by omega, by go_num, mkHid ⟨l3, ?_, fun g hg => ?_⟩, mkHid (hfr.out.trans HN.out.fr (fun g hg => Or.inr (HR2.out g hg)))⟩
        · rw [HE.out]; exact HT.out
        · rcases HN.out.foot g hg with h | h
          · exact HR2.out g h
          · exact Nat.le_trans hfr.out.size h
      case measure => simp [intOf]; omega
    · have hie : i = ss.length := by omega
      subst hie
      obtain ⟨l', r1, r2⟩ := hst.out
      rw [List.take_length] at r1
      have HR1 := mkHid r1
      have HR2 := mkHid r2
      clear r1 r2 hst H1
      go_wp2_with fail
      go_ret
      exact ⟨a, l', rfl, HR1.out, hfr.out, HR2.out⟩
end Go.Proofs.Ytjeeibokdnepgaa
