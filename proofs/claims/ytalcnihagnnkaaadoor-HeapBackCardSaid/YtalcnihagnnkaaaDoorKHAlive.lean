import Derived.Test.YtalcnihagnnkaaaDoorKHKeep
namespace Go.Proofs.YtalcnihagnnkaaaDoor
open Go.RowKit
set_option linter.unusedVariables false
/-- a heap made since w -/
structure St (w : World) (a : Nat) (W : World) (l : Lay) (H : HS) : Prop where
  rep : Rep W a l H
  fr : Fr [] w W
  ge : ∀ b ∈ foot a l, w.heap.size ≤ b
theorem St.next {w W W' : World} {a : Nat} {l l' : Lay} {H H' : HS} (h : St w a W l H) (hr : Rep W' a l' H') (hx : Nx a l l' W W') : St w a W' l' H' :=
  ⟨hr, h.fr.trans hx.1 (fun b hb => .inr (h.ge b hb)), fun b hb => by
    rcases hx.2 b hb with h1 | h1
    · exact h.ge b h1
    · exact Nat.le_trans h.fr.size h1⟩
theorem St.more {w W W' : World} {a : Nat} {l : Lay} {H : HS} (h : St w a W l H) (hf : Fr [] W W') : St w a W' l H :=
  ⟨h.rep.keep hf (by simp), h.fr.trans hf (by simp), h.ge⟩
theorem St.tab {w W : World} {a : Nat} {l : Lay} {H : HS} (h : St w a W l H) (hT : Tab w) (h2 : 2 ≤ w.heap.size) : Tab W := hT.keep h.fr (by omega) (by simp)
theorem St.tab64 {w W : World} {a : Nat} {l : Lay} {H : HS} (h : St w a W l H) (hT : Tab64 w) (h2 : 2 ≤ w.heap.size) : Tab64 W := hT.keep h.fr (by omega) (by simp)
def A0 : HS := emptyH 40 3
def A1 : HS := ⟨40, 3, 0, [8, 6, 4, 4, 4], [(0, 0, 0), (0, 5, 0)], [1], [1], 0, 1, 0⟩
def A2 : HS := ⟨40, 3, 0, [8, 6, 4, 4, 4, 12, 11, 0, 0], [(0, 0, 0), (0, 5, 0), (5, 4, 1)], [1, 2], [3], 0, 2, 0⟩
def A3 : HS := { A2 with mem := [8, 6, 4, 4, 77, 12, 11, 0, 0] }
def A4 : HS := { A2 with mem := [8, 6, 4, 4, 77, 12, 11, 0, 200] }
def A5 : HS := { A4 with seats := [(0, 0, 0), (5, 4, 1), (0, 5, 0)], order := [2, 1], age := 1 }
def A6 : HS := ⟨40, 3, 0, [12, 11, 0, 200], [(0, 0, 0), (0, 4, 0), (0, 0, 0)], [1], [1], 0, 1, 2⟩
theorem lay1 : layH { A0 with mark := 0 - 1, low := 0 } 1 8 3 0 = A1 := by rfl
theorem lay2 : layH { A1 with mark := 0 - 1, low := 0 } 2 12 5 1 = A2 := by rfl
theorem put3 : { A2 with mem := A2.mem.set (0 + 2 + 2) 77 } = A3 := by rfl
theorem put4 : { A3 with mem := A3.mem.set (5 + 2 + 4 / 4) ((0 / 256 * 256 + 200 : Nat) : Int) } = A4 := by rfl
theorem exch5 : exchH A4 1 2 = A5 := by rfl
theorem keep6 : keepH A5 [1] = A6 := by rfl
theorem oop1 : oopN [] 0 = 1 := by rfl
theorem oop2 : oopN [1] 0 = 2 := by decide +kernel
theorem getD_one (x : Nat) (h : x ≤ full) : ∀ k, [x].getD k 0 ≤ full := by
  intro k
  match k with
  | 0 => exact h
  | k + 1 => simp [full]
theorem safe0 : Safe A0 := ⟨⟨by decide, by decide, by decide, by decide, by decide⟩, by decide, by decide, fun k => by simp [A0, emptyH, full], by decide, by decide⟩
theorem safe1 : Safe A1 := ⟨⟨by decide, by decide, by decide, by decide, by decide⟩, by decide, by decide, getD_one 1 (by decide), by decide, by decide⟩
theorem alloc1 (w W : World) (a : Nat) (l : Lay) (h : St w a W l A0) (hT : Tab w) (hT2 : Tab64 w) (h2 : 2 ≤ w.heap.size) :
    Calls Tryd.prog 14 #[.pointer (some ⟨a, 0, none⟩), .int .i64 8, .int .i64 3, .int .i64 0] W fun e w' => e = .returned (.tuple #[.int .i64 1, .int .i64 0]) ∧ ∃ l', St w a w' l' A1 := by
  have ha : 2 ≤ a := Nat.le_trans h2 (h.ge a (by simp [foot]))
  refine (Alloc_ok 8 3 0 a l A0 W h.rep safe0 (h.tab hT h2) (h.tab64 hT2 h2) ha (by decide) (by decide) (by decide) (by decide) (by decide) (by decide)).mono ?_
  rintro e w' ⟨k, q1, q2, rfl, l', q3, q4⟩
  have hk : k = 0 := by have := q1.le; simp [A0, emptyH] at this; exact this
  subst hk
  refine ⟨rfl, l', h.next (H' := A1) ?_ q4⟩
  have e : layH { A0 with mark := A0.mark - 1, low := 0 } (oopN A0.bits 0) 8 3 0 = A1 := by rfl
  rw [← e]
  exact q3
theorem alloc2 (w W : World) (a : Nat) (l : Lay) (h : St w a W l A1) (hT : Tab w) (hT2 : Tab64 w) (h2 : 2 ≤ w.heap.size) :
    Calls Tryd.prog 14 #[.pointer (some ⟨a, 0, none⟩), .int .i64 12, .int .i64 5, .int .i64 1] W fun e w' => e = .returned (.tuple #[.int .i64 2, .int .i64 0]) ∧ ∃ l', St w a w' l' A2 := by
  have ha : 2 ≤ a := Nat.le_trans h2 (h.ge a (by simp [foot]))
  refine (Alloc_ok 12 5 1 a l A1 W h.rep safe1 (h.tab hT h2) (h.tab64 hT2 h2) ha (by decide) (by decide) (by decide) (by decide) (by decide) (by decide)).mono ?_
  rintro e w' ⟨k, q1, q2, rfl, l', q3, q4⟩
  have hk : k = 0 := by
    have h1 := q1.le
    have h3 := q1.ful 0 (by decide)
    have h4 : k ≤ 1 := h1
    rcases Nat.eq_zero_or_pos k with h5 | h5
    · exact h5
    · exact absurd (h3 h5) (by decide)
  subst hk
  have e2 : oopN A1.bits 0 = 2 := oop2
  rw [e2] at q3 ⊢
  refine ⟨rfl, l', h.next (H' := A2) ?_ q4⟩
  have e : layH { A1 with mark := A1.mark - 1, low := 0 } 2 12 5 1 = A2 := by rfl
  rw [← e]
  exact q3
theorem put1 (w W : World) (a : Nat) (l : Lay) (h : St w a W l A2) (hT : Tab w) (h2 : 2 ≤ w.heap.size) :
    Calls Tryd.prog 29 #[.pointer (some ⟨a, 0, none⟩), .int .i64 1, .int .i64 2, .int .i64 77] W fun e w' => e = .returned (.int .i64 0) ∧ St w a w' l A3 := by
  refine (Put_ok 1 2 3 0 77 a l A2 A3 W h.rep (by decide) (by decide) (by decide) (by decide) (by decide) (by decide) (by decide) (by decide) (by decide) (by decide) (h.tab hT h2) ?_).mono ?_
  · intro W' hW'
    exact setSlot_w (0, 5, 0) 2 77 a l A2 W' hW' (by decide) (by decide)
  · rintro e w' ⟨rfl, q1, q2⟩
    exact ⟨rfl, h.next q1 q2⟩
theorem put2 (w W : World) (a : Nat) (l : Lay) (h : St w a W l A3) (hT : Tab w) (h2 : 2 ≤ w.heap.size) :
    Calls Tryd.prog 29 #[.pointer (some ⟨a, 0, none⟩), .int .i64 2, .int .i64 4, .int .i64 200] W fun e w' => e = .returned (.int .i64 0) ∧ St w a w' l A4 := by
  refine (Put_ok 2 4 5 1 200 a l A3 A4 W h.rep (by decide) (by decide) (by decide) (by decide) (by decide) (by decide) (by decide) (by decide) (by decide) (by decide) (h.tab hT h2) ?_).mono ?_
  · intro W' hW'
    exact setSlot_b0 (5, 4, 1) 4 200 0 a l A3 W' hW' (by decide) (by decide) (by decide) (by decide) (by decide) (by decide) (by decide)
  · rintro e w' ⟨rfl, q1, q2⟩
    exact ⟨rfl, h.next q1 q2⟩
theorem exch1 (w W : World) (a : Nat) (l : Lay) (h : St w a W l A4) :
    Calls Tryd.prog 46 #[.pointer (some ⟨a, 0, none⟩), .int .i64 1, .int .i64 2] W fun e w' => e = .returned (.int .i64 0) ∧ St w a w' l A5 := by
  refine (Exchange_ok 1 2 a l A4 W h.rep (by decide) (by decide) (by decide) (by decide) (by decide) (by decide) (by decide) (by decide) (by decide) (by decide) (by decide) (by decide) (by decide)).mono ?_
  rintro e w' ⟨rfl, q1, q2⟩
  exact ⟨rfl, h.next q1 q2⟩
theorem at1 (w W : World) (a : Nat) (l : Lay) (h : St w a W l A6) :
    Calls Tryd.prog 47 #[.pointer (some ⟨a, 0, none⟩), .int .i64 1, .int .i64 4] W fun e w' => e = .returned (.tuple #[.int .i64 200, .int .i64 0]) ∧ St w a w' l A6 := by
  refine (At_ok 1 4 5 1 200 a l A6 W h.rep (by decide) (by decide) (by decide) (by decide) (by decide) (by decide) (by decide) (by decide) (by decide) ?_).mono ?_
  · intro W' hW'
    exact slot_b0 (0, 4, 0) 4 200 a l A6 W' hW' (by decide) (by decide) (by decide) (by decide) (by decide)
  · rintro e w' ⟨rfl, q1⟩
    exact ⟨rfl, h.more q1⟩
theorem vac5 : VacOk A5 2 := ⟨by decide, by decide, by decide, by decide, by decide, by decide, by decide, getD_one 3 (by decide), by decide, by decide, by decide, by decide, by decide, by decide⟩
def A5v : HS := ⟨40, 3, 0, [0, 0, 0, 0, 0, 12, 11, 0, 200], [(0, 0, 0), (5, 4, 1), (0, 0, 0)], [0, 1], [1], 0, 1, 1⟩
theorem v1 : vacTo A5 [1] 1 = A5v := by rfl
theorem v2 : vacTo A5 [1] 2 = A5v := by rfl
theorem slide5 : SlideOk A5v := by
  refine ⟨fun k hk => ?_, by decide, by decide, by decide⟩
  have hk2 : k < 2 := hk
  match k, hk2 with
  | 0, _ => intro h; exact absurd rfl h
  | 1, _ => intro _; exact ⟨by decide, by decide, by decide, by decide⟩
theorem keepOk5 : KeepOk A5 [1] := by
  refine ⟨fun j hj => ?_, fun k hk => ?_, ?_, by decide, by decide, by decide, by decide, by decide⟩
  · simp at hj; subst hj; decide
  · have hk2 : k < 2 := hk
    match k, hk2 with
    | 0, _ => intro _; exact ⟨by decide, fun _ => vac5⟩
    | 1, _ =>
      rw [v1]
      intro _
      exact ⟨by decide, fun h => absurd (by decide) h⟩
  · exact slide5
theorem keep1 (w W : World) (a b : Nat) (l : Lay) (h : St w a W l A5) (hb : W.heap[b]? = some (.cells #[.int .i64 1] 3 (0, 0))) (hbn : b ∉ foot a l) :
    Calls Tryd.prog 34 #[.pointer (some ⟨a, 0, none⟩), .slice (some ⟨b, 0, none⟩) 1 1] W fun e w' => e = .returned (.tuple #[.int .i64 1, .int .i64 5, .int .i64 0]) ∧ St w a w' l A6 := by
  refine (Keep_ok [1] b 1 a l A5 W h.rep keepOk5 (lt_of_heap hb) hbn (fun j hj => ?_) (by decide)).mono ?_
  · have hj0 : j = 0 := by simp at hj; exact hj
    subst hj0
    rw [cell_in hb]
    rfl
  · rintro e w' ⟨rfl, q1, q2⟩
    exact ⟨rfl, h.next q1 q2⟩
end Go.Proofs.YtalcnihagnnkaaaDoor
