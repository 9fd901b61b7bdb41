import Derived.Test.YtcodfojgilneaaaDoorHAliveW
namespace Go.Proofs.YtcodfojgilneaaaDoor
open Go.RowKit
set_option linter.unusedVariables false
def bitsOf (m : Nat) : List Nat := if m = 0 then [] else [2 ^ m - 1]
theorem bitsOf_all : ∀ m : Fin 60, oopN (bitsOf m.val) 0 = m.val + 1 ∧ addBits (bitsOf m.val) (m.val + 1) = bitsOf (m.val + 1) := by decide +kernel
theorem bitsOf_oop (m : Nat) (h : m < 60) : oopN (bitsOf m) 0 = m + 1 := (bitsOf_all ⟨m, h⟩).1
theorem bitsOf_add (m : Nat) (h : m < 60) : addBits (bitsOf m) (m + 1) = bitsOf (m + 1) := (bitsOf_all ⟨m, h⟩).2
theorem bitsOf_lt (m : Nat) (h : m ≤ 60) : ∀ k, (bitsOf m).getD k 0 < full := by
  have hp : 2 ^ m ≤ 2 ^ 60 := Nat.pow_le_pow_right (by omega) h
  intro k
  unfold bitsOf
  split
  · simp [full]
  · match k with
    | 0 => simp [full]; omega
    | k + 1 => simp [full]
theorem bitsOf_len (m : Nat) : (bitsOf m).length ≤ 1 := by unfold bitsOf; split <;> simp
structure MarkInv (H : HS) (gd md us K : Nat) : Prop where
  words : H.words = 200
  oops : H.oops = 60
  mem : H.mem.length = us
  count : H.count = md
  md60 : md ≤ 60
  us200 : us ≤ 200
  mark : H.mark = K - gd
  low : H.low = 0
  bits : H.bits = bitsOf md
  seats : H.seats.length ≤ 61
  order : H.order.length = md
theorem MarkInv.small {H : HS} {gd md us K : Nat} (h : MarkInv H gd md us K) (hK : K ≤ 40) : Small H :=
  ⟨by rw [h.words]; omega, by rw [h.oops]; omega, by rw [h.mem, h.words]; have := h.us200; omega, by rw [h.count, h.oops]; have := h.md60; omega, by rw [h.mark]; omega⟩
theorem MarkInv.safe {H : HS} {gd md us K : Nat} (h : MarkInv H gd md us K) (hK : K ≤ 40) : Safe H :=
  ⟨h.small hK, by rw [h.low]; omega, by rw [h.bits]; have := bitsOf_len md; omega, fun k => by rw [h.bits]; exact Nat.le_of_lt (bitsOf_lt md h.md60 k), by have := h.seats; omega, by rw [h.order]; have := h.md60; omega⟩
theorem objCells_len (cl : Int) (n f : Nat) (hf : f ≤ 1) : (objCells cl n f).length = lenN n f := by
  unfold objCells lenN
  by_cases h : f = 0
  · subst h; simp; omega
  · have : f = 1 := by omega
    subst this; simp; omega
theorem MarkInv.alloc {H : HS} {gd md us K n : Nat} (h : MarkInv H gd md us K) (h1 : md < 60) (h2 : us + (2 + n) ≤ 200) : MarkInv (layH { H with mark := H.mark - 1, low := 0 } (md + 1) 8 n 0) (gd + 1) (md + 1) (us + n + 2) K := by
  have hl : lenN n 0 = 2 + n := by unfold lenN; simp
  refine ⟨h.words, h.oops, ?_, ?_, by omega, by omega, ?_, rfl, ?_, ?_, ?_⟩
  · show (H.mem ++ objCells 8 n 0).length = _
    rw [List.length_append, objCells_len _ _ _ (by omega), hl, h.mem]; omega
  · show H.count + 1 = _
    rw [h.count]
  · show H.mark - 1 = _
    rw [h.mark]; omega
  · show addBits H.bits (md + 1) = _
    rw [h.bits, bitsOf_add md h1]
  · show ((padSeats H.seats (md + 1 + 1)).set _ _).length ≤ _
    have := h.seats
    unfold padSeats
    simp
    omega
  · show (H.order ++ [md + 1]).length = _
    rw [List.length_append, h.order]; rfl
/-- what an allocation of the law answers -/
theorem markAlloc (w W : World) (a : Nat) (l : Lay) (H : HS) (gd md us K n : Nat) (h : St w a W l H) (hi : MarkInv H gd md us K) (hT : Tab w) (hT2 : Tab64 w) (h2 : 2 ≤ w.heap.size) (hK : K ≤ 40) (hn : n ≤ 2047) :
    Calls Tryd.prog 14 #[.pointer (some ⟨a, 0, none⟩), .int .i64 8, .int .i64 n, .int .i64 0] W fun e w' =>
      ((md = 60 ∨ 200 < us + (2 + n)) ∧ e = .returned (.tuple #[.int .i64 0, .int .i64 23]) ∧ ∃ l' H', St w a w' l' H' ∧ MarkInv H' gd md us K) ∨
      ((md < 60 ∧ us + (2 + n) ≤ 200) ∧ K - gd = 1 ∧ e = .returned (.tuple #[.int .i64 0, .int .i64 24]) ∧ ∃ l' H', St w a w' l' H' ∧ MarkInv H' (gd + 1) md us K ∧ H'.mark = 0) ∨
      ((md < 60 ∧ us + (2 + n) ≤ 200) ∧ K - gd ≠ 1 ∧ e = .returned (.tuple #[.int .i64 ((md + 1 : Nat) : Int), .int .i64 0]) ∧ ∃ l' H', St w a w' l' H' ∧ MarkInv H' (gd + 1) (md + 1) (us + n + 2) K) := by
  have ha : 2 ≤ a := Nat.le_trans h2 (h.ge a (by simp [foot]))
  have hl : lenN n 0 = 2 + n := by unfold lenN; simp
  by_cases hf : md = 60 ∨ 200 < us + (2 + n)
  · refine (Alloc_full 8 n 0 a l H W h.rep (hi.small hK) (h.tab hT h2) (by decide) (by decide) (by omega) ?_).mono ?_
    · rw [hi.oops, hi.count, hi.words, hi.mem, hl]; omega
    · rintro e w' ⟨rfl, k, rfl⟩
      exact .inl ⟨hf, rfl, l, H, h.more (Fr.drewN _ _ _), hi⟩
  · have h1 : md < 60 := by have := hi.md60; omega
    have h3 : us + (2 + n) ≤ 200 := by omega
    by_cases hm : K - gd = 1
    · refine (Alloc_marked 8 n 0 a l H W h.rep (hi.small hK) (h.tab hT h2) (by decide) (by decide) (by omega) (by rw [hi.count, hi.oops]; exact h1) (by rw [hi.mem, hi.words, hl]; exact h3) (by rw [hi.mark]; exact hm)).mono ?_
      rintro e w' ⟨rfl, q1, q2⟩
      refine .inr (.inl ⟨⟨h1, h3⟩, hm, rfl, l, _, h.next q1 q2, ?_, rfl⟩)
      exact ⟨hi.words, hi.oops, hi.mem, hi.count, hi.md60, hi.us200, by show 0 = _; omega, hi.low, hi.bits, hi.seats, hi.order⟩
    · refine (Alloc_ok 8 n 0 a l H W h.rep (hi.safe hK) (h.tab hT h2) (h.tab64 hT2 h2) ha (by decide) (by decide) (by omega) (by rw [hi.count, hi.oops]; exact h1) (by rw [hi.mem, hi.words, hl]; exact h3) (by rw [hi.mark]; exact hm)).mono ?_
      rintro e w' ⟨k, q1, q2, rfl, l', q3, q4⟩
      have hk : k = 0 := by
        rcases Nat.eq_zero_or_pos k with h5 | h5
        · exact h5
        · have := q1.ful 0 (by rw [hi.low]; omega) h5
          rw [hi.bits] at this
          have := bitsOf_lt md hi.md60 0
          omega
      subst hk
      have e2 : oopN H.bits 0 = md + 1 := by rw [hi.bits, bitsOf_oop md h1]
      rw [e2] at q3 ⊢
      exact .inr (.inr ⟨⟨h1, h3⟩, hm, rfl, l', _, h.next q3 q4, hi.alloc h1 h3⟩)
end Go.Proofs.YtcodfojgilneaaaDoor
