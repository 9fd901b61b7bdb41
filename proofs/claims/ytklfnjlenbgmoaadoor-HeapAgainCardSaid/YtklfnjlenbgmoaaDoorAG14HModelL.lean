import Derived.Test.YtklfnjlenbgmoaaDoorAG13HKeepNo
namespace Go.Proofs.YtklfnjlenbgmoaaDoor
open Go.RowKit
set_option linter.unusedVariables false
attribute [local go_sem ↓] Go.wp_at_zero Go.wp_at_succ
/-- a thing of the model: what it must be, and where its slots lie -/
structure Th where
  there : Bool
  cls : Int
  fmt : Nat
  place : Nat
  slots : List Int
  p : Option Addr
  c : Nat
/-- the model, and where its things lie -/
structure MS where
  words : Nat
  oops : Nat
  mark : Nat
  things : List Th
  pt : Option Addr
  ct : Nat
def noTh : Th := ⟨false, 0, 0, 0, [], none, 0⟩
def thCells (l : List Th) : List Value := l.flatMap fun t => [.bool t.there, .int .i64 t.cls, I t.fmt, I t.place, .slice t.p t.slots.length t.c]
def mcells (M : MS) : Array Value := #[I M.words, I M.oops, I M.mark, .slice M.pt M.things.length M.ct]
structure MRep (w : World) (m : Nat) (M : MS) : Prop where
  top : w.heap[m]? = some (.cells (mcells M) 55 (0, 0))
  row : w.ownsRow 0 119 5 (.slice M.pt M.things.length M.ct) M.things.length (thCells M.things)
  slots : ∀ t ∈ M.things, w.ownsRow 0 33 1 (.slice t.p t.slots.length t.c) t.slots.length (t.slots.map (Value.int .i64))
  apart : ∀ i j, i < M.things.length → j < M.things.length → i ≠ j → ∀ g ∈ blk (M.things.getD i noTh).p, g ∉ blk (M.things.getD j noTh).p
def mslots (M : MS) : List Nat := M.things.flatMap fun t => blk t.p
def mfoot (m : Nat) (M : MS) : List Nat := m :: (blk M.pt ++ mslots M)
theorem mslots_mem {M : MS} {t : Th} (ht : t ∈ M.things) {g : Nat} (hg : g ∈ blk t.p) : g ∈ mslots M := List.mem_flatMap.2 ⟨t, ht, hg⟩
theorem MRep.congr {w w' : World} {m : Nat} {M : MS} (h : MRep w m M) (hb : ∀ g ∈ mfoot m M, w'.heap[g]? = w.heap[g]?) : MRep w' m M :=
  ⟨(hb m (by simp [mfoot])).trans h.top, own_congr h.row fun g hg => hb g (by simp [mfoot, (blk_own _ _ _ _).1 hg]),
    fun t ht => own_congr (h.slots t ht) fun g hg => hb g (by simp [mfoot, mslots_mem ht ((blk_own _ _ _ _).1 hg)]), h.apart⟩
theorem MRep.lt {w : World} {m : Nat} {M : MS} (h : MRep w m M) : ∀ g ∈ mfoot m M, g < w.heap.size := by
  intro g hg
  simp only [mfoot, List.mem_cons, List.mem_append] at hg
  rcases hg with rfl | hg | hg
  · exact lt_of_heap h.top
  · obtain ⟨c, hc⟩ := own_blk h.row g hg; exact lt_of_heap hc
  · obtain ⟨t, ht, hg⟩ := List.mem_flatMap.1 hg
    obtain ⟨c, hc⟩ := own_blk (h.slots t ht) g hg; exact lt_of_heap hc
theorem MRep.keep {w w' : World} {m : Nat} {M : MS} {S : List Nat} (h : MRep w m M) (hf : Fr S w w') (hd : ∀ g ∈ mfoot m M, g ∉ S) : MRep w' m M :=
  h.congr fun g hg => hf.block g (h.lt g hg) (hd g hg)
theorem MRep.alloc {w : World} {m : Nat} {M : MS} (h : MRep w m M) (o : Obj) : MRep (w.alloc o) m M := h.congr fun g hg => Below.heap_alloc _ _ _ (h.lt g hg)
theorem MRep.c0 {w : World} {m : Nat} {M : MS} (h : MRep w m M) : w.cell? ⟨m, 0, none⟩ = some (.int .i64 M.words) := by rw [cell_in h.top]; rfl
theorem MRep.c1 {w : World} {m : Nat} {M : MS} (h : MRep w m M) : w.cell? ⟨m, 1, none⟩ = some (.int .i64 M.oops) := by rw [cell_in h.top]; rfl
theorem MRep.c2 {w : World} {m : Nat} {M : MS} (h : MRep w m M) : w.cell? ⟨m, 2, none⟩ = some (.int .i64 M.mark) := by rw [cell_in h.top]; rfl
theorem MRep.c3 {w : World} {m : Nat} {M : MS} (h : MRep w m M) : w.cell? ⟨m, 3, none⟩ = some (.slice M.pt M.things.length M.ct) := by rw [cell_in h.top]; rfl
theorem thCells_len (S : List Th) : (thCells S).length = S.length * 5 := by
  induction S with
  | nil => rfl
  | cons s S ih =>
    have e : thCells (s :: S) = [.bool s.there, .int .i64 s.cls, I s.fmt, I s.place, .slice s.p s.slots.length s.c] ++ thCells S := by simp [thCells]
    rw [e, List.length_append, ih]; simp; omega
theorem thCells_at (S : List Th) : ∀ k, k < S.length → (thCells S)[k * 5]? = some (.bool (S.getD k noTh).there) ∧ (thCells S)[k * 5 + 1]? = some (.int .i64 (S.getD k noTh).cls) ∧ (thCells S)[k * 5 + 2]? = some (I (S.getD k noTh).fmt) ∧
    (thCells S)[k * 5 + 3]? = some (I (S.getD k noTh).place) ∧ (thCells S)[k * 5 + 4]? = some (.slice (S.getD k noTh).p (S.getD k noTh).slots.length (S.getD k noTh).c) := by
  induction S with
  | nil => intro k hk; simp at hk
  | cons s S ih =>
    intro k hk
    have e : thCells (s :: S) = [.bool s.there, .int .i64 s.cls, I s.fmt, I s.place, .slice s.p s.slots.length s.c] ++ thCells S := by simp [thCells]
    cases k with
    | zero => rw [e]; exact ⟨rfl, rfl, rfl, rfl, rfl⟩
    | succ k =>
      have := ih k (by simpa using hk)
      have ea : ∀ j, ([Value.bool s.there, .int .i64 s.cls, I s.fmt, I s.place, .slice s.p s.slots.length s.c] ++ thCells S)[(k + 1) * 5 + j]? = (thCells S)[k * 5 + j]? := fun j => by
        rw [List.getElem?_append_right (by simp; omega)]
        congr 1
        simp
        omega
      rw [e]
      exact ⟨(ea 0).trans this.1, (ea 1).trans this.2.1, (ea 2).trans this.2.2.1, (ea 3).trans this.2.2.2.1, (ea 4).trans this.2.2.2.2⟩
/-- the things' block -/
theorem MRep.thAt {w : World} {m : Nat} {M : MS} (h : MRep w m M) (hk : 0 < M.things.length) :
    ∃ g, M.pt = some ⟨g, 0, none⟩ ∧ (∀ k, k < M.things.length → w.cell? ⟨g, k * 5, none⟩ = some (.bool (M.things.getD k noTh).there) ∧ w.cell? ⟨g, k * 5 + 1, none⟩ = some (.int .i64 (M.things.getD k noTh).cls) ∧ w.cell? ⟨g, k * 5 + 2, none⟩ = some (I (M.things.getD k noTh).fmt) ∧
      w.cell? ⟨g, k * 5 + 3, none⟩ = some (I (M.things.getD k noTh).place) ∧ w.cell? ⟨g, k * 5 + 4, none⟩ = some (.slice (M.things.getD k noTh).p (M.things.getD k noTh).slots.length (M.things.getD k noTh).c)) ∧ (∀ i, w.frozen? ⟨g, i, none⟩ = false) ∧ g < w.heap.size := by
  have hs := h.row
  obtain ⟨g, c, hv, _, hgl⟩ := hs.form (by omega)
  injection hv with hv1 hv2 hv3
  have hg : M.pt = some ⟨g, 0, none⟩ := hv1
  rw [hg] at hs
  refine ⟨g, hg, fun k hk => ?_, fun i => hs.frozenAt i, hgl⟩
  have := thCells_at M.things k hk
  exact ⟨(hs.cellAt _ (by omega)).trans this.1, (hs.cellAt _ (by omega)).trans this.2.1, (hs.cellAt _ (by omega)).trans this.2.2.1, (hs.cellAt _ (by omega)).trans this.2.2.2.1, (hs.cellAt _ (by omega)).trans this.2.2.2.2⟩
set_option maxHeartbeats 400000 in
theorem refLen_any (n f : Nat) (w : World) (hn : (n : Int) ≤ 1048576) :
    Calls Tryd.prog 59 #[.int .i64 n, .int .i64 f] w fun e w' => e = .returned (.int .i64 (lenN n f : Nat)) ∧ w' = w := by
  by_cases hf : f = 1
  · subst hf
    go_enter Tryd.func59, Tryd.ntmps59
    go_wp2
    go_ret
    refine ⟨ret_int ?_, rfl⟩
    simp only [lenN, if_true]
    push_cast
    first | rfl | omega | (simp; omega)
  · have hf' : ((f : Int) == 1) = false := by simpa using (by omega : ¬ (f : Int) = 1)
    go_enter Tryd.func59, Tryd.ntmps59
    go_wp2
    go_ret
    refine ⟨ret_int ?_, rfl⟩
    simp only [lenN, if_neg hf]
    push_cast
    first | rfl | omega | (simp; omega)
def thereTo (S : List Th) (k : Nat) : Nat := ((S.take k).filter (·.there)).length
theorem thereTo_succ (S : List Th) (k : Nat) (hk : k < S.length) : thereTo S (k + 1) = thereTo S k + (if (S.getD k noTh).there then 1 else 0) := by
  unfold thereTo
  rw [List.take_add_one, List.filter_append, List.length_append, List.getD_eq_getElem?_getD, List.getElem?_eq_getElem hk]
  simp only [Option.toList_some, Option.getD_some]
  by_cases h : S[k].there = true
  · simp [h]
  · simp [h]
theorem thereTo_le (S : List Th) (k : Nat) : thereTo S k ≤ k := Nat.le_trans (List.length_filter_le _ _) (by simp; omega)
set_option maxRecDepth 20000 in
set_option maxHeartbeats 1000000 in
theorem there_ok (m : Nat) (M : MS) (w : World) (h : MRep w m M) (hs : (M.things.length : Int) ≤ 65538) :
    Calls Tryd.prog 33 #[.pointer (some ⟨m, 0, none⟩)] w fun e w' => e = .returned (I (thereTo M.things M.things.length)) ∧ w' = w := by
  have c3 := h.c3
  have HM := mkHid h
  clear h
  go_enter Tryd.func33, Tryd.ntmps33
  go_wp2
  go_loopw [3, 4] (fun v q wr => ∃ k : Nat, k ≤ M.things.length ∧ q = .int .i64 k ∧ v = .int .i64 (thereTo M.things k : Nat) ∧ wr = w) (fun _ q _ => M.things.length - (intOf q).toNat)
  case atStart => exact ⟨0, Nat.zero_le _, rfl, rfl, rfl⟩
  case round =>
    obtain ⟨k, hkn, rfl, rfl, rfl⟩ := hrel
    by_cases hlt : k < M.things.length
    · obtain ⟨g, hg, hc, hf, hgl⟩ := HM.out.thAt (by omega)
      obtain ⟨q0, _, _, _, _⟩ := hc k hlt
      have hsu := thereTo_succ M.things k hlt
      have hle := thereTo_le M.things k
      rw [hg] at c3
      have k1 : (0 : Int) ≤ (k : Int) := by omega
      have k2 : (k : Int) < (M.things.length : Int) := by omega
      have HSU := mkHid hsu
      clear hsu hc hf
      generalize thereTo M.things k = X at *
      cases hb : (M.things.getD k noTh).there with
      | true =>
        rw [hb] at q0 HSU
        have HS2 := HSU.out
        rw [if_pos rfl] at HS2
        have HS3 := mkHid HS2
        clear HS2 HSU
        go_wp2
        go_roundw
        case rel => exact ⟨k + 1, by omega, by go_num, by rw [HS3.out]; go_num, trivial⟩
        case measure => simp [intOf]; omega
      | false =>
        rw [hb] at q0 HSU
        have HS2 := HSU.out
        rw [if_neg (by simp)] at HS2
        have HS3 := mkHid HS2
        clear HS2 HSU
        go_wp2
        go_roundw
        case rel => exact ⟨k + 1, by omega, by go_num, by rw [HS3.out]; go_num, trivial⟩
        case measure => simp [intOf]; omega
    · have hke : k = M.things.length := by omega
      subst hke
      go_wp2
      go_ret
      exact ⟨rfl, rfl⟩
def endTo (S : List Th) : Nat → Nat
  | 0 => 0
  | k + 1 => if (S.getD k noTh).there ∧ endTo S k < (S.getD k noTh).place + lenN (S.getD k noTh).slots.length (S.getD k noTh).fmt then (S.getD k noTh).place + lenN (S.getD k noTh).slots.length (S.getD k noTh).fmt else endTo S k
theorem endTo_succ (S : List Th) (k : Nat) : endTo S (k + 1) = if (S.getD k noTh).there ∧ endTo S k < (S.getD k noTh).place + lenN (S.getD k noTh).slots.length (S.getD k noTh).fmt then (S.getD k noTh).place + lenN (S.getD k noTh).slots.length (S.getD k noTh).fmt else endTo S k := rfl
theorem endTo_le (S : List Th) (B : Nat) (k : Nat) (h : ∀ j, j < k → (S.getD j noTh).place + lenN (S.getD j noTh).slots.length (S.getD j noTh).fmt ≤ B) : endTo S k ≤ B := by
  induction k with
  | zero => exact Nat.zero_le _
  | succ k ih =>
    have := h k (by omega)
    have := ih fun j hj => h j (by omega)
    rw [endTo_succ]
    split <;> omega
theorem lenN_le (n f : Nat) : lenN n f ≤ 2 + n := by unfold lenN; split <;> omega
/-- bounds of the model's numbers -/
structure MOk (M : MS) : Prop where
  len : (M.things.length : Int) ≤ 65538
  slots : ∀ k, k < M.things.length → ((M.things.getD k noTh).slots.length : Int) ≤ 8192
  place : ∀ k, k < M.things.length → ((M.things.getD k noTh).place : Int) ≤ 1048576
set_option maxRecDepth 20000 in
set_option maxHeartbeats 2000000 in
theorem end_ok (m : Nat) (M : MS) (w : World) (h : MRep w m M) (ho : MOk M) :
    Calls Tryd.prog 32 #[.pointer (some ⟨m, 0, none⟩)] w fun e w' => e = .returned (I (endTo M.things M.things.length)) ∧ Fr [] w w' := by
  have c3 := h.c3
  have hml := h.lt m (by simp [mfoot])
  have hlen := ho.len
  have HM := mkHid h
  have HO := mkHid ho
  clear h ho
  go_enter Tryd.func32, Tryd.ntmps32
  go_wp2
  go_loopw [3, 4] (fun v q wr => ∃ k : Nat, k ≤ M.things.length ∧ q = .int .i64 k ∧ v = .int .i64 (endTo M.things k : Nat) ∧ Hid (Fr [] w wr)) (fun _ q _ => M.things.length - (intOf q).toNat)
  case atStart => exact ⟨0, Nat.zero_le _, rfl, rfl, Fr.refl _ _⟩
  case round =>
    obtain ⟨k, hkn, rfl, rfl, hfr⟩ := hrel
    have c3 := (hfr.out.cell (p := ⟨m, 3, none⟩) hml (by simp)).trans c3
    by_cases hlt : k < M.things.length
    · obtain ⟨g, hg, hc, hf, hgl⟩ := (HM.out.keep hfr.out (by simp)).thAt (by omega)
      obtain ⟨q0, q1, q2, q3, q4⟩ := hc k hlt
      have hsu := endTo_succ M.things k
      have hXb : endTo M.things k ≤ 2000000 := endTo_le _ _ _ fun j hj => by
        have := HO.out.slots j (by omega)
        have := HO.out.place j (by omega)
        have := lenN_le (M.things.getD j noTh).slots.length (M.things.getD j noTh).fmt
        omega
      have o1 := HO.out.slots k hlt
      have o2 := HO.out.place k hlt
      have l1 := lenN_le (M.things.getD k noTh).slots.length (M.things.getD k noTh).fmt
      have hLW := refLen_any (M.things.getD k noTh).slots.length (M.things.getD k noTh).fmt
      rw [hg] at c3
      simp only [I] at q2 q3
      have k1 : (0 : Int) ≤ (k : Int) := by omega
      have k2 : (k : Int) < (M.things.length : Int) := by omega
      have HSU := mkHid hsu
      have HL := mkHid hLW
      clear hsu hc hf hg hLW
      generalize endTo M.things k = X at *
      generalize hT : M.things.getD k noTh = t at *
      clear hT
      obtain ⟨th, cl, fm, pl, sl, tp, tc⟩ := t
      dsimp only at *
      generalize sl.length = sn at *
      have HFA : Hid (∀ nq, Fr [] w ((wr.alloc (.cells #[.bool th, .int .i64 cl, .int .i64 fm, .int .i64 pl, .slice tp sn tc] 119)).drewN nq)) := fun nq => (hfr.out.trans (Fr.alloc [] _ _) (by simp)).trans (Fr.drewN [] _ _) (by simp)
      generalize lenN sn fm = L at *
      cases th with
      | true =>
        by_cases hx : X < pl + L
        · have hx' : (X : Int) < (pl : Int) + (L : Int) := by omega
          have HS2 := HSU.out
          rw [if_pos ⟨rfl, hx⟩] at HS2
          have HS3 := mkHid HS2
          clear HS2 HSU
          go_wp2
          go_quiet ((go_at_call 59; exact Calls.quiet_of_same (HL.out _ (by omega))))
          go_wp2
          go_roundw
          case rel => exact ⟨k + 1, by omega, by go_num, by rw [HS3.out]; go_num, HFA.out _⟩
          case measure => simp [intOf]; omega
        · have hx' : (pl : Int) + (L : Int) ≤ (X : Int) := by omega
          have HS2 := HSU.out
          rw [if_neg (by simp; omega)] at HS2
          have HS3 := mkHid HS2
          clear HS2 HSU
          go_wp2
          go_quiet ((go_at_call 59; exact Calls.quiet_of_same (HL.out _ (by omega))))
          go_wp2
          go_roundw
          case rel => exact ⟨k + 1, by omega, by go_num, by rw [HS3.out], HFA.out _⟩
          case measure => simp [intOf]; omega
      | false =>
        have HS2 := HSU.out
        rw [if_neg (by simp)] at HS2
        have HS3 := mkHid HS2
        clear HS2 HSU
        go_wp2
        go_quiet ((go_at_call 59; exact Calls.quiet_of_same (HL.out _ (by omega))))
        go_wp2
        go_roundw
        case rel => exact ⟨k + 1, by omega, by go_num, by rw [HS3.out], HFA.out _⟩
        case measure => simp [intOf]; omega
    · have hke : k = M.things.length := by omega
      subst hke
      go_wp2
      go_ret
      exact ⟨rfl, hfr.out⟩
end Go.Proofs.YtklfnjlenbgmoaaDoor
namespace Go.Proofs.YtklfnjlenbgmoaaDoor
open Go.RowKit
set_option linter.unusedVariables false
attribute [local go_sem ↓] Go.wp_at_zero Go.wp_at_succ
/-- the lowest oop that is free -/
def lowTo (S : List Th) : Nat := (S.takeWhile (·.there)).length + 1
theorem lowTo_at (S : List Th) (k : Nat) (hk : k < S.length) (h1 : ∀ j, j < k → (S.getD j noTh).there = true) (h2 : (S.getD k noTh).there = false) : lowTo S = k + 1 := by
  unfold lowTo
  congr 1
  induction S generalizing k with
  | nil => simp at hk
  | cons s S ih =>
    cases k with
    | zero => simp only [List.getD_cons_zero] at h2; rw [List.takeWhile_cons_of_neg (by simpa using h2)]; rfl
    | succ k =>
      have h0 := h1 0 (by omega)
      simp only [List.getD_cons_zero] at h0
      rw [List.takeWhile_cons_of_pos h0, List.length_cons]
      congr 1
      exact ih k (by simpa using hk) (fun j hj => by simpa using h1 (j + 1) (by omega)) (by simpa using h2)
theorem lowTo_full (S : List Th) (h1 : ∀ j, j < S.length → (S.getD j noTh).there = true) : lowTo S = S.length + 1 := by
  unfold lowTo
  congr 1
  induction S with
  | nil => rfl
  | cons s S ih =>
    have h0 := h1 0 (by simp)
    simp only [List.getD_cons_zero] at h0
    rw [List.takeWhile_cons_of_pos h0, List.length_cons, List.length_cons]
    congr 1
    exact ih fun j hj => by simpa using h1 (j + 1) (by simpa using hj)
set_option maxRecDepth 20000 in
set_option maxHeartbeats 1000000 in
theorem lowest_ok (m : Nat) (M : MS) (w : World) (h : MRep w m M) (hs : (M.things.length : Int) ≤ 65538) :
    Calls Tryd.prog 28 #[.pointer (some ⟨m, 0, none⟩)] w fun e w' => e = .returned (I (lowTo M.things)) ∧ w' = w := by
  have c3 := h.c3
  have HM := mkHid h
  clear h
  go_enter Tryd.func28, Tryd.ntmps28
  go_wp2
  go_loopw [3] (fun q wr => ∃ k : Nat, k ≤ M.things.length ∧ q = .int .i64 k ∧ wr = w ∧ Hid (∀ j, j < k → (M.things.getD j noTh).there = true)) (fun q _ => M.things.length - (intOf q).toNat)
  case atStart => exact ⟨0, Nat.zero_le _, rfl, rfl, fun j hj => by omega⟩
  case round =>
    obtain ⟨k, hkn, rfl, rfl, hup⟩ := hrel
    by_cases hlt : k < M.things.length
    · obtain ⟨g, hg, hc, hf, hgl⟩ := HM.out.thAt (by omega)
      obtain ⟨q0, _, _, _, _⟩ := hc k hlt
      rw [hg] at c3
      have k1 : (0 : Int) ≤ (k : Int) := by omega
      have k2 : (k : Int) < (M.things.length : Int) := by omega
      clear hc hf
      cases hb : (M.things.getD k noTh).there with
      | true =>
        rw [hb] at q0
        have HU : Hid (∀ j, j < k + 1 → (M.things.getD j noTh).there = true) := fun j hj => by
          by_cases e : j = k
          · rw [e]; exact hb
          · exact hup.out j (by omega)
        clear hb hup
        go_wp2
        go_roundw
        case rel => exact ⟨k + 1, by omega, by go_num, trivial, HU⟩
        case measure => simp [intOf]; omega
      | false =>
        rw [hb] at q0
        have HU := mkHid (lowTo_at M.things k hlt hup.out hb)
        clear hb hup
        go_wp2
        go_ret
        exact ⟨by rw [HU.out]; exact ret_int (by first | rfl | (push_cast; rfl) | (push_cast; omega)), rfl⟩
    · have hke : k = M.things.length := by omega
      subst hke
      have HU := mkHid (lowTo_full M.things hup.out)
      clear hup
      go_wp2
      go_ret
      exact ⟨by rw [HU.out]; exact ret_int (by first | rfl | (push_cast; rfl) | (push_cast; omega)), rfl⟩
def mhas (M : MS) (oop : Int) : Bool := decide (1 ≤ oop ∧ oop ≤ M.things.length ∧ (M.things.getD (oop.toNat - 1) noTh).there = true)
theorem mhas_yes {M : MS} {oop : Int} (h : mhas M oop = true) : ∃ k : Nat, oop = (k : Int) + 1 ∧ k < M.things.length ∧ (M.things.getD k noTh).there = true := by
  have h1 := of_decide_eq_true h
  exact ⟨oop.toNat - 1, by omega, by omega, h1.2.2⟩
theorem mhas_of {M : MS} (k : Nat) (hk : k < M.things.length) (h : (M.things.getD k noTh).there = true) : mhas M ((k : Int) + 1) = true :=
  decide_eq_true ⟨by omega, by omega, by rw [show ((k : Int) + 1).toNat - 1 = k from by omega]; exact h⟩
set_option maxRecDepth 20000 in
set_option maxHeartbeats 1000000 in
theorem has_ok (oop : Int) (m : Nat) (M : MS) (w : World) (h : MRep w m M) (hs : (M.things.length : Int) ≤ 65538) :
    Calls Tryd.prog 65 #[.pointer (some ⟨m, 0, none⟩), .int .i64 oop] w fun e w' => e = .returned (.bool (mhas M oop)) ∧ w' = w := by
  have c3 := h.c3
  by_cases h1 : oop < 1
  · have hm : mhas M oop = false := decide_eq_false (by omega)
    have hd : decide (1 ≤ oop) = false := by simpa using h1
    rw [hm]
    clear h hm
    go_enter Tryd.func65, Tryd.ntmps65
    go_wp2
    go_ret
    exact ⟨rfl, rfl⟩
  · by_cases h2 : (M.things.length : Int) < oop
    · have hm : mhas M oop = false := decide_eq_false (by omega)
      have hd : decide (oop ≤ (M.things.length : Int)) = false := by simpa using h2
      have h1' : 1 ≤ oop := by omega
      rw [hm]
      clear h hm
      go_enter Tryd.func65, Tryd.ntmps65
      go_wp2
      go_ret
      exact ⟨rfl, rfl⟩
    · obtain ⟨k, rfl⟩ : ∃ k : Nat, oop = (k : Int) + 1 := ⟨oop.toNat - 1, by omega⟩
      have hk : k < M.things.length := by omega
      obtain ⟨g, hg, hc, hf, hgl⟩ := h.thAt (by omega)
      obtain ⟨q0, _, _, _, _⟩ := hc k hk
      have hm : mhas M ((k : Int) + 1) = (M.things.getD k noTh).there := by
        cases hb : (M.things.getD k noTh).there with
        | true => exact mhas_of k hk hb
        | false => exact decide_eq_false (by rw [show ((k : Int) + 1).toNat - 1 = k from by omega, hb]; simp)
      rw [hm]
      rw [hg] at c3
      have k0 : (1 : Int) ≤ (k : Int) + 1 := by omega
      have k3 : (k : Int) + 1 ≤ (M.things.length : Int) := by omega
      have k1 : (0 : Int) ≤ (k : Int) := by omega
      have k2 : (k : Int) < (M.things.length : Int) := by omega
      have ks : (k : Int) + 1 - 1 = k := by omega
      clear h hm hc hf
      generalize (M.things.getD k noTh).there = b at *
      go_enter Tryd.func65, Tryd.ntmps65
      go_wp2
      go_ret
      exact ⟨rfl, rfl⟩
end Go.Proofs.YtklfnjlenbgmoaaDoor
