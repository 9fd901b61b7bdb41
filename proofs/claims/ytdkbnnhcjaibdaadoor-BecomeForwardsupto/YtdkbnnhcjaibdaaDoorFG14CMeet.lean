import Derived.Test.YtdkbnnhcjaibdaaDoorFG13HTakesM
import Derived.Test.YtdkbnnhcjaibdaaDoorFG08HMSet
import Derived.BigQuiet
import Derived.Deep.RegionHeld3
import Derived.Test.YtdkbnnhcjaibdaaDoorFG02HKey
import Derived.Test.YtdkbnnhcjaibdaaDoorFG05HAll
namespace Go.Proofs.YtdkbnnhcjaibdaaDoor
open Go.RowKit
/-- Whether an object may lie in a heap, beside those that do. -/
def takesB (H : HS) (oop cls fmt : Int) (ss : List Int) : Bool :=
  !has H oop && decide (1 ≤ oop) && decide (oop ≤ (H.oops : Int)) && isW cls && isF fmt && decide ((ss.length : Int) ≤ 8192) && decide (lenOf (ss.length : Int) fmt ≤ (H.words : Int) - (H.mem.length : Int)) && ss.all fun x => mayB x fmt
theorem all_bad (f : Int → Bool) : ∀ ss : List Int, (ss.all f) = false → ∃ j, j < ss.length ∧ (∀ i, i < j → f (ss.getD i 0) = true) ∧ f (ss.getD j 0) = false
  | [], h => by simp at h
  | x :: t, h => by
    by_cases hx : f x = true
    · have ht : t.all f = false := by simpa [hx] using h
      obtain ⟨j, hj, hg, hb⟩ := all_bad f t ht
      refine ⟨j + 1, by simpa using hj, fun i hi => ?_, by simpa using hb⟩
      rcases i with _ | i
      · simpa using hx
      · simpa using hg i (by omega)
    · exact ⟨0, by simp, fun i hi => absurd hi (by omega), by simpa using hx⟩
theorem takes_any (oop cls fmt : Int) (ss : List Int) (v : Value) (a : Nat) (l : Lay) (H : HS) (w : World) (h : Rep w a l H) (hs : Small H) (hT : Tab w) (hT0 : 0 < w.heap.size) (ho : Rd w v ss) :
    Calls Tryd.prog 69 #[.pointer (some ⟨a, 0, none⟩), .agg #[.int .i64 oop, .int .i64 cls, .int .i64 fmt, v]] w fun e w' => e = .returned (.bool (takesB H oop cls fmt ss)) ∧ Fr [] w w' := by
  obtain ⟨p, c, rfl, hrow⟩ := ho.at_
  by_cases hh : has H oop = true
  · have e : takesB H oop cls fmt ss = false := by simp [takesB, hh]
    rw [e]
    obtain ⟨m, rfl⟩ : ∃ m : Nat, oop = (m : Int) := ⟨oop.toNat, by have := (of_decide_eq_true hh).1; omega⟩
    exact takes_has m cls fmt p _ c a l H w h hh
  have hh : has H oop = false := by simpa using hh
  by_cases k1 : (1 : Int) ≤ oop
  rotate_left
  · have e : takesB H oop cls fmt ss = false := by simp [takesB, k1]
    rw [e]
    exact takes_oop oop cls fmt p _ c a l H w h hh (Or.inl (by omega))
  by_cases k2 : oop ≤ (H.oops : Int)
  rotate_left
  · have e : takesB H oop cls fmt ss = false := by simp [takesB, k2]
    rw [e]
    exact takes_oop oop cls fmt p _ c a l H w h hh (Or.inr (by omega))
  by_cases hb : isW cls = true
  rotate_left
  · have hb : isW cls = false := by simpa using hb
    have e : takesB H oop cls fmt ss = false := by simp [takesB, hb]
    rw [e]
    exact takes_form oop cls fmt p _ c a l H w h hs hT hT0 hh k1 k2 (Or.inl hb)
  by_cases hb2 : isF fmt = true
  rotate_left
  · have hb2 : isF fmt = false := by simpa using hb2
    have e : takesB H oop cls fmt ss = false := by simp [takesB, hb2]
    rw [e]
    exact takes_form oop cls fmt p _ c a l H w h hs hT hT0 hh k1 k2 (Or.inr (Or.inl ⟨hb, hb2⟩))
  by_cases hb3 : (ss.length : Int) ≤ 8192
  rotate_left
  · have e : takesB H oop cls fmt ss = false := by unfold takesB; rw [decide_eq_false hb3]; simp
    rw [e]
    exact takes_form oop cls fmt p _ c a l H w h hs hT hT0 hh k1 k2 (Or.inr (Or.inr ⟨hb, hb2, by omega⟩))
  by_cases hb4 : lenOf (ss.length : Int) fmt ≤ (H.words : Int) - (H.mem.length : Int)
  rotate_left
  · have e : takesB H oop cls fmt ss = false := by unfold takesB; rw [decide_eq_false hb4]; simp
    rw [e]
    exact takes_room oop cls fmt p _ c a l H w h hs hT hT0 hh k1 k2 hb hb2 hb3 (by omega)
  by_cases hb5 : (ss.all fun x => mayB x fmt) = true
  · have e : takesB H oop cls fmt ss = true := by unfold takesB; rw [hh, decide_eq_true k1, decide_eq_true k2, hb, hb2, decide_eq_true hb3, decide_eq_true hb4, hb5]; rfl
    rw [e]
    have hf : fmt = 0 ∨ fmt = 1 := by simpa [isF] using hb2
    obtain ⟨f, rfl, hf1⟩ : ∃ f : Nat, fmt = (f : Int) ∧ f ≤ 1 := by
      rcases hf with rfl | rfl
      · exact ⟨0, rfl, by omega⟩
      · exact ⟨1, rfl, by omega⟩
    obtain ⟨q, rfl⟩ : ∃ q : Nat, oop = (q : Int) + 1 := ⟨(oop - 1).toNat, by omega⟩
    rw [lenOf_nat] at hb4
    refine takes_yes q cls f ss _ a l H w h hs hT hT0 hh (by omega) hb hf1 (by omega) (by omega) (fun j hj => ?_) ho
    rw [List.all_eq_true] at hb5
    have e : ss.getD j 0 = ss[j] := by rw [List.getD_eq_getElem?_getD, List.getElem?_eq_getElem hj]; rfl
    rw [e]
    exact hb5 _ (List.getElem_mem hj)
  · have hb5 : (ss.all fun x => mayB x fmt) = false := by simpa using hb5
    have e : takesB H oop cls fmt ss = false := by unfold takesB; rw [hb5]; simp
    rw [e]
    obtain ⟨j, hj, hg, hbd⟩ := all_bad _ ss hb5
    obtain ⟨g, off, hp, hgl, hc⟩ := hrow (by omega)
    exact takes_slot oop cls fmt p _ c a l H w h hs hT hT0 hh k1 k2 hb hb2 hb3 hb4 ss g off j hp hgl hc hj hg hbd
end Go.Proofs.YtdkbnnhcjaibdaaDoor

namespace Go.Proofs.YtdkbnnhcjaibdaaDoor
open Go.RowKit
set_option linter.unusedVariables false
/-- objects laid in a heap one after the other, each taken; the last one first -/
def LdsR (H0 : HS) (M0 : MS) : List (Int × Int × Int × List Int) → HS → MS → Prop
  | [], H, M => H = H0 ∧ M = M0
  | k :: t, H', M' => ∃ (H : HS) (M : MS) (q : Nat) (cls : Int) (fmt : Nat) (ss : List Int), LdsR H0 M0 t H M ∧ takesB H ((q : Int) + 1) cls fmt ss = true ∧ Ld H M q cls fmt ss ss.length H' M' ∧ k = ((q : Int) + 1, cls, (fmt : Int), ss)
/-- objects laid in a heap one after the other, each taken -/
def Lds (H0 : HS) (M0 : MS) (ks : List (Int × Int × Int × List Int)) (H : HS) (M : MS) : Prop := LdsR H0 M0 ks.reverse H M
theorem Lds.nil {H0 : HS} {M0 : MS} : Lds H0 M0 [] H0 M0 := ⟨rfl, rfl⟩
theorem Lds.snoc {H0 : HS} {M0 : MS} {ks : List (Int × Int × Int × List Int)} {H H' : HS} {M M' : MS} (q : Nat) (cls : Int) (fmt : Nat) (ss : List Int) (h : Lds H0 M0 ks H M) (ht : takesB H ((q : Int) + 1) cls fmt ss = true) (hl : Ld H M q cls fmt ss ss.length H' M') : Lds H0 M0 (ks ++ [((q : Int) + 1, cls, (fmt : Int), ss)]) H' M' := by
  unfold Lds
  rw [List.reverse_append]
  exact ⟨H, M, q, cls, fmt, ss, h, ht, hl, rfl⟩
theorem Lds.ind {H0 : HS} {M0 : MS} {C : List (Int × Int × Int × List Int) → HS → MS → Prop} (h0 : C [] H0 M0)
    (h1 : ∀ (ks : List (Int × Int × Int × List Int)) (H H' : HS) (M M' : MS) (q : Nat) (cls : Int) (fmt : Nat) (ss : List Int), Lds H0 M0 ks H M → takesB H ((q : Int) + 1) cls fmt ss = true → Ld H M q cls fmt ss ss.length H' M' → C ks H M → C (ks ++ [((q : Int) + 1, cls, (fmt : Int), ss)]) H' M')
    {ks : List (Int × Int × Int × List Int)} {H : HS} {M : MS} (h : Lds H0 M0 ks H M) : C ks H M := by
  have key : ∀ (r : List (Int × Int × Int × List Int)) (H : HS) (M : MS), LdsR H0 M0 r H M → C r.reverse H M := by
    intro r
    induction r with
    | nil => rintro H M ⟨rfl, rfl⟩; exact h0
    | cons k t ih =>
      rintro H' M' ⟨H, M, q, cls, fmt, ss, h2, ht, hl, rfl⟩
      rw [List.reverse_cons]
      exact h1 _ H H' M M' q cls fmt ss (by unfold Lds; rw [List.reverse_reverse]; exact h2) ht hl (ih H M h2)
  have := key ks.reverse H M h
  rwa [List.reverse_reverse] at this
theorem not_there {H : HS} {M : MS} (h : Inv H M) (q : Nat) (hh : has H ((q : Int) + 1) = false) : (M.things.getD q noTh).there = false := by
  by_cases hq : q < M.things.length
  · cases hb : (M.things.getD q noTh).there with
    | false => rfl
    | true =>
      have h1 := (h.is q hq hb).has
      rw [show ((q + 1 : Nat) : Int) = (q : Int) + 1 from by omega] at h1
      rw [h1] at hh
      exact absurd hh (by simp)
  · rw [List.getD_eq_getElem?_getD, List.getElem?_eq_none (by omega)]; rfl
theorem thereTo_miss (S : List Th) (q : Nat) (hq : q < S.length) (hb : (S.getD q noTh).there = false) : ∀ k, q < k → k ≤ S.length → thereTo S k < k := by
  intro k
  induction k with
  | zero => intro h1; omega
  | succ k ih =>
    intro h1 hk
    rw [thereTo_succ S k (by omega)]
    by_cases e : q = k
    · subst e
      rw [hb]
      have := thereTo_le S q
      simp; omega
    · have := ih (by omega) (by omega)
      split <;> omega
theorem free_count {H : HS} {M : MS} (h : Inv H M) (q : Nat) (hq : q < M.oops) (hf : (M.things.getD q noTh).there = false) : H.count < H.oops := by
  rw [h.count, h.oops]
  have hm := h.most
  by_cases hl : q < M.things.length
  · have := thereTo_miss M.things q hl hf M.things.length hl (Nat.le_refl _)
    omega
  · have := thereTo_le M.things M.things.length
    omega
theorem takesB_yes {H : HS} {oop cls fmt : Int} {ss : List Int} (h : takesB H oop cls fmt ss = true) : has H oop = false ∧ 1 ≤ oop ∧ oop ≤ (H.oops : Int) ∧ isW cls = true ∧ isF fmt = true ∧ (ss.length : Int) ≤ 8192 ∧ lenOf (ss.length : Int) fmt ≤ (H.words : Int) - (H.mem.length : Int) ∧ ∀ j, j < ss.length → mayB (ss.getD j 0) fmt = true := by
  unfold takesB at h
  simp only [Bool.and_eq_true, Bool.not_eq_true', decide_eq_true_eq] at h
  obtain ⟨⟨⟨⟨⟨⟨⟨h1, h2⟩, h3⟩, h4⟩, h5⟩, h6⟩, h7⟩, h8⟩ := h
  refine ⟨h1, h2, h3, h4, h5, h6, h7, fun j hj => ?_⟩
  rw [List.all_eq_true] at h8
  have e : ss.getD j 0 = ss[j] := by rw [List.getD_eq_getElem?_getD, List.getElem?_eq_getElem hj]; rfl
  rw [e]
  exact h8 _ (List.getElem_mem hj)
theorem Lds.inv {H0 H : HS} {M0 M : MS} {ks : List (Int × Int × Int × List Int)} (h0 : Inv H0 M0) (h : Lds H0 M0 ks H M) : Inv H M :=
  Lds.ind (C := fun _ H M => Inv H M) h0 (fun _ _ _ _ _ _ _ _ _ _ _ hl _ => hl.inv) h
/-- an object that is taken is laid -/
theorem load_taken (q : Nat) (cls : Int) (fmt : Nat) (ss : List Int) (v : Value) (a : Nat) (l : Lay) (H : HS) (M : MS) (w : World) (h : Rep w a l H) (hi : Inv H M) (ht : takesB H ((q : Int) + 1) cls fmt ss = true)
    (ho : Rd w v ss) (hbn : 0 < ss.length → ∀ g, v.ownBlock = some g → g ∉ foot a l) :
    Calls Tryd.prog 70 #[.pointer (some ⟨a, 0, none⟩), .agg #[.int .i64 ((q : Int) + 1), .int .i64 cls, .int .i64 (fmt : Int), v]] w fun e w' => e = .returned (.tuple #[]) ∧ ∃ l' H' M', Rep w' a l' H' ∧ Nx a l l' w w' ∧ Ld H M q cls fmt ss ss.length H' M' := by
  obtain ⟨t1, t2, t3, t4, t5, t6, t7, t8⟩ := takesB_yes ht
  have hoo := hi.oops
  have hf : fmt ≤ 1 := by simp [isF] at t5; omega
  rw [lenOf_nat] at t7
  have hn := not_there hi q t1
  exact load_ok q cls fmt ss v a l H M w h hi (by omega) hn hf (by omega) (free_count hi q (by omega) hn) (by omega) t8 ho hbn
end Go.Proofs.YtdkbnnhcjaibdaaDoor

namespace Go.Proofs.YtdkbnnhcjaibdaaDoor
open Go.RowKit
set_option linter.unusedVariables false
attribute [local go_sem ↓] Go.wp_at_zero Go.wp_at_succ
set_option maxHeartbeats 1000000 in
theorem rRoom_nil (w : World) : Calls Tryd.prog 89 #[.pointer none] w fun e w' => e = .returned (.tuple #[.int .i64 0, .int .i64 0]) ∧ w' = w := by
  go_enter Tryd.func89, Tryd.ntmps89
  go_wp2_with fail
  go_ret2
  exact ⟨rfl, rfl⟩
set_option maxHeartbeats 1000000 in
theorem made_nil (w : World) : Calls Tryd.prog 62 #[.pointer none] w fun e w' => e = .returned (.bool false) ∧ w' = w := by
  go_enter Tryd.func62, Tryd.ntmps62
  go_wp2_with fail
  go_ret
  exact ⟨rfl, rfl⟩
set_option maxHeartbeats 1000000 in
theorem Room_nil (w : World) : Calls Tryd.prog 31 #[.pointer none] w fun e w' => e = .returned (.tuple #[.int .i64 0, .int .i64 0]) ∧ w' = w := by
  have HM := mkHid (made_nil w)
  go_enter Tryd.func31, Tryd.ntmps31
  go_wp2_with (go_at_call 62; refine Calls.mono HM.out ?_; rintro e w' ⟨rfl, hw'⟩; rw [hw']; clear hw' w')
  go_ret2
  exact ⟨rfl, rfl⟩
set_option maxHeartbeats 1000000 in
theorem rState_nil (w : World) : Calls Tryd.prog 27 #[.pointer none] w fun e w' => e = .returned (.agg #[.int .i64 0, .int .i64 0, .int .i64 0, .slice none 0 0]) ∧ Fr [] w w' := by
  go_enter Tryd.func27, Tryd.ntmps27
  go_wp2_with fail
  have hB0 : (w.alloc (.cells #[.int .i64 0, .int .i64 0, .int .i64 0, .slice none 0 0] 45)).heap[w.heap.size]? = some (.cells #[.int .i64 0, .int .i64 0, .int .i64 0, .slice none 0 0] 45 (0, 0)) := heap_alloc_new _ _
  have F0 : Fr [] w (w.alloc (.cells #[.int .i64 0, .int .i64 0, .int .i64 0, .slice none 0 0] 45)) := Fr.alloc [] _ _
  generalize w.alloc (.cells #[.int .i64 0, .int .i64 0, .int .i64 0, .slice none 0 0] 45) = V at *
  have x0 : V.cell? ⟨w.heap.size, 0, none⟩ = some (.int .i64 0) := by rw [cell_in hB0]; rfl
  have x1 : V.cell? ⟨w.heap.size, 1, none⟩ = some (.int .i64 0) := by rw [cell_in hB0]; rfl
  have x2 : V.cell? ⟨w.heap.size, 2, none⟩ = some (.int .i64 0) := by rw [cell_in hB0]; rfl
  have x3 : V.cell? ⟨w.heap.size, 3, none⟩ = some (.slice none 0 0) := by rw [cell_in hB0]; rfl
  refine bodyPost_ret (v := .agg #[.int .i64 0, .int .i64 0, .int .i64 0, .slice none 0 0]) (by simp [results, Tryd.results27, go_sem, x0, x1, x2, x3]) rfl ?_
  exact ⟨rfl, F0⟩
set_option maxHeartbeats 1000000 in
theorem State_nil (w : World) : Calls Tryd.prog 18 #[.pointer none] w fun e w' => e = .returned (.agg #[.int .i64 0, .int .i64 0, .int .i64 0, .slice none 0 0]) ∧ Fr [] w w' := by
  have HM := mkHid fun V => made_nil V
  go_enter Tryd.func18, Tryd.ntmps18
  go_wp2_with (go_at_call 62; refine Calls.mono (HM.out _) ?_; rintro e w' ⟨rfl, hw'⟩; rw [hw']; clear hw' w')
  have hB0 : (w.alloc (.cells #[.int .i64 0, .int .i64 0, .int .i64 0, .slice none 0 0] 45)).heap[w.heap.size]? = some (.cells #[.int .i64 0, .int .i64 0, .int .i64 0, .slice none 0 0] 45 (0, 0)) := heap_alloc_new _ _
  have F0 : Fr [] w (w.alloc (.cells #[.int .i64 0, .int .i64 0, .int .i64 0, .slice none 0 0] 45)) := Fr.alloc [] _ _
  generalize w.alloc (.cells #[.int .i64 0, .int .i64 0, .int .i64 0, .slice none 0 0] 45) = V at *
  have x0 : V.cell? ⟨w.heap.size, 0, none⟩ = some (.int .i64 0) := by rw [cell_in hB0]; rfl
  have x1 : V.cell? ⟨w.heap.size, 1, none⟩ = some (.int .i64 0) := by rw [cell_in hB0]; rfl
  have x2 : V.cell? ⟨w.heap.size, 2, none⟩ = some (.int .i64 0) := by rw [cell_in hB0]; rfl
  have x3 : V.cell? ⟨w.heap.size, 3, none⟩ = some (.slice none 0 0) := by rw [cell_in hB0]; rfl
  refine bodyPost_ret (v := .agg #[.int .i64 0, .int .i64 0, .int .i64 0, .slice none 0 0]) (by simp [results, Tryd.results18, go_sem, x0, x1, x2, x3]) rfl ?_
  exact ⟨rfl, F0⟩
/-- numbers that no state has -/
def argBad (x y z : Int) : Prop := x < 0 ∨ 1048576 < x ∨ y < 0 ∨ 65536 < y ∨ z < 0 ∨ 1073741824 < z
set_option maxHeartbeats 2000000 in
theorem rLoad_bad (x y z : Int) (ov : Value) (w : World) (hb : argBad x y z) : Calls Tryd.prog 99 #[.agg #[.int .i64 x, .int .i64 y, .int .i64 z, ov]] w fun e w' => e = .returned (.tuple #[.pointer none, .int .i64 1]) ∧ Fr [] w w' := by
  by_cases a0 : x < 0
  · go_enter Tryd.func99, Tryd.ntmps99
    go_wp2_with fail
    go_ret2
    exact ⟨rfl, Fr.alloc [] _ _⟩
  have a0 : 0 ≤ x := by omega
  by_cases a1 : 1048576 < x
  · go_enter Tryd.func99, Tryd.ntmps99
    go_wp2_with fail
    go_ret2
    exact ⟨rfl, Fr.alloc [] _ _⟩
  have a1 : x ≤ 1048576 := by omega
  by_cases a2 : y < 0
  · go_enter Tryd.func99, Tryd.ntmps99
    go_wp2_with fail
    go_ret2
    exact ⟨rfl, Fr.alloc [] _ _⟩
  have a2 : 0 ≤ y := by omega
  by_cases a3 : 65536 < y
  · go_enter Tryd.func99, Tryd.ntmps99
    go_wp2_with fail
    go_ret2
    exact ⟨rfl, Fr.alloc [] _ _⟩
  have a3 : y ≤ 65536 := by omega
  by_cases a4 : z < 0
  · go_enter Tryd.func99, Tryd.ntmps99
    go_wp2_with fail
    go_ret2
    exact ⟨rfl, Fr.alloc [] _ _⟩
  have a4 : 0 ≤ z := by omega
  have a5 : 1073741824 < z := by unfold argBad at hb; omega
  go_enter Tryd.func99, Tryd.ntmps99
  go_wp2_with fail
  go_ret2
  exact ⟨rfl, Fr.alloc [] _ _⟩
set_option maxHeartbeats 1000000 in
theorem New_bad (x y : Int) (w : World) (hb : x < 0 ∨ 1048576 < x ∨ y < 0 ∨ 65536 < y) : Calls Tryd.prog 10 #[.int .i64 x, .int .i64 y] w fun e w' => e = .returned (.tuple #[.pointer none, .int .i64 1]) ∧ w' = w := by
  by_cases a0 : x < 0
  · go_enter Tryd.func10, Tryd.ntmps10
    go_wp2_with fail
    go_ret2
    exact ⟨rfl, rfl⟩
  have a0 : 0 ≤ x := by omega
  by_cases a1 : 1048576 < x
  · go_enter Tryd.func10, Tryd.ntmps10
    go_wp2_with fail
    go_ret2
    exact ⟨rfl, rfl⟩
  have a1 : x ≤ 1048576 := by omega
  by_cases a2 : y < 0
  · go_enter Tryd.func10, Tryd.ntmps10
    go_wp2_with fail
    go_ret2
    exact ⟨rfl, rfl⟩
  have a2 : 0 ≤ y := by omega
  have a3 : 65536 < y := by omega
  go_enter Tryd.func10, Tryd.ntmps10
  go_wp2_with fail
  go_ret2
  exact ⟨rfl, rfl⟩
set_option maxHeartbeats 2000000 in
theorem Load_bad (x y z : Int) (ov : Value) (w : World) (hb : argBad x y z) : Calls Tryd.prog 17 #[.agg #[.int .i64 x, .int .i64 y, .int .i64 z, ov]] w fun e w' => e = .returned (.tuple #[.pointer none, .int .i64 1]) ∧ Fr [] w w' := by
  obtain ⟨W1, hW1⟩ : ∃ W1, W1 = w.alloc (.cells #[.int .i64 x, .int .i64 y, .int .i64 z, ov] 45) := ⟨_, rfl⟩
  have F1 : Hid (Fr [] w W1) := by rw [hW1]; exact Fr.alloc [] _ _
  have hb1 : W1.heap[w.heap.size]? = some (.cells #[.int .i64 x, .int .i64 y, .int .i64 z, ov] 45 (0, 0)) := by rw [hW1]; exact heap_alloc_new _ _
  by_cases hn : x < 0 ∨ 1048576 < x ∨ y < 0 ∨ 65536 < y
  · have HN := mkHid (New_bad x y W1 hn)
    clear hn hb hb1
    go_enter Tryd.func17, Tryd.ntmps17
    go_wp2_with fail
    rw [← hW1]
    clear hW1
    refine Calls.mono HN.out ?_
    rintro e w2 ⟨rfl, rfl⟩
    go_wp2_with fail
    go_ret2
    exact ⟨rfl, F1.out⟩
  · obtain ⟨xn, rfl⟩ : ∃ n : Nat, x = (n : Int) := ⟨x.toNat, by omega⟩
    obtain ⟨yn, rfl⟩ : ∃ n : Nat, y = (n : Int) := ⟨y.toNat, by omega⟩
    have hN := New_in xn yn W1 (by omega) (by omega)
    have HN := mkHid hN
    have HB1 := mkHid hb1
    have hmk := fun V => isMark_any z V
    rw [show isM z = false from by unfold isM; unfold argBad at hb; simp; omega] at hmk
    have HMk := mkHid hmk
    clear hn hb hN hmk hb1
    go_enter Tryd.func17, Tryd.ntmps17
    go_wp2_with fail
    rw [← hW1]
    clear hW1
    refine Calls.mono HN.out ?_
    rintro e w2 ⟨rfl, hr2, hf2, hs2⟩
    have hb2 := (hf2.block _ (lt_of_heap HB1.out) (by simp)).trans HB1.out
    have e2 : w2.cell? ⟨w.heap.size, 2, none⟩ = some (.int .i64 z) := by rw [cell_in hb2]; rfl
    have F2 : Hid (Fr [] w w2) := F1.out.trans hf2 (by simp)
    clear hr2 hf2 hs2 HN HB1 hb2
    go_wp2_with (go_at_call 68; refine Calls.mono (HMk.out _) ?_; rintro e w' ⟨rfl, hw'⟩; rw [hw']; clear hw' w')
    go_ret2
    exact ⟨rfl, F2.out⟩
end Go.Proofs.YtdkbnnhcjaibdaaDoor

namespace Go.Proofs.YtdkbnnhcjaibdaaDoor
open Go.RowKit
set_option linter.unusedVariables false
attribute [local go_sem ↓] Go.wp_at_zero Go.wp_at_succ
/-- the object of an oop, in the document's heap -/
def RIs (R : RS) (oop : Int) (k : Nat) : Prop := k < R.objs.length ∧ ((R.objs.getD k noRO).oop : Int) = oop
def RNo (R : RS) (oop : Int) : Prop := ∀ j, j < R.objs.length → ((R.objs.getD j noRO).oop : Int) ≠ oop
set_option maxHeartbeats 1000000 in
theorem rClass_any (oop : Int) (B r : Nat) (R : RS) (w : World) (h : RRep w B r R) (hl : R.objs.length ≤ 1048576) :
    Calls Tryd.prog 81 #[.pointer (some ⟨r, 0, none⟩), .int .i64 oop] w fun e w' =>
      ((∃ k, RIs R oop k ∧ e = .returned (.tuple #[.int .i64 (R.objs.getD k noRO).cls, .int .i64 0])) ∨ (RNo R oop ∧ e = .returned (.tuple #[.int .i64 0, .int .i64 20]))) ∧ Fr [] w w' := by
  obtain ⟨p, c, hov⟩ := h.ovIs
  have c5 : w.cell? ⟨r, 5, none⟩ = some (.slice p R.objs.length c) := by rw [h.c, ← hov]; rfl
  have HF := mkHid (find_any oop B r R w h hl)
  have HR := mkHid h
  clear h
  go_enter Tryd.func81, Tryd.ntmps81
  go_wp2_with fail
  refine Calls.mono HF.out ?_
  rintro e w2 ⟨z, rfl, hz, hw⟩
  rw [hw]
  clear hw w2
  rcases hz with ⟨k, hk, rfl, ho, -⟩ | ⟨rfl, hno⟩
  · obtain ⟨g, c', hv, hc⟩ := HR.out.at_ (by omega)
    rw [hov] at hv
    injection hv with e1 e2 e3
    subst e1
    obtain ⟨-, -, -, -, q4, -⟩ := hc k hk
    have k1 : (0 : Int) ≤ (k : Int) := by omega
    have k2 : (k : Int) < (R.objs.length : Int) := by omega
    have HIs : Hid (RIs R oop k) := ⟨hk, ho⟩
    obtain ⟨cz, hcz⟩ : ∃ cz, cz = (R.objs.getD k noRO).cls := ⟨_, rfl⟩
    rw [← hcz] at q4
    have HCz := mkHid hcz
    clear hcz hc ho e2 e3 HF
    go_wp2_with fail
    go_ret2
    exact ⟨.inl ⟨k, HIs.out, by rw [HCz.out]; rfl⟩, Fr.refl _ _⟩
  · have HNo := mkHid hno
    clear hno
    go_wp2_with fail
    go_ret2
    exact ⟨.inr ⟨HNo.out, rfl⟩, Fr.refl _ _⟩
set_option maxHeartbeats 1000000 in
theorem rSize_yes (oop : Int) (B r : Nat) (R : RS) (w : World) (h : RRep w B r R) (hl : R.objs.length ≤ 1048576) (hy : ¬ RNo R oop) :
    Calls Tryd.prog 83 #[.pointer (some ⟨r, 0, none⟩), .int .i64 oop] w fun e w' =>
      (∃ k, RIs R oop k ∧ e = .returned (.tuple #[.int .i64 (R.objs.getD k noRO).slots.length, .int .i64 (R.objs.getD k noRO).fmt, .int .i64 0])) ∧ Fr [] w w' := by
  obtain ⟨p, c, hov⟩ := h.ovIs
  have c5 : w.cell? ⟨r, 5, none⟩ = some (.slice p R.objs.length c) := by rw [h.c, ← hov]; rfl
  have HF := mkHid (find_any oop B r R w h hl)
  have HR := mkHid h
  have HY := mkHid hy
  clear h hy
  go_enter Tryd.func83, Tryd.ntmps83
  go_wp2_with fail
  refine Calls.mono HF.out ?_
  rintro e w2 ⟨z, rfl, hz, hw⟩
  rw [hw]
  clear hw w2
  rcases hz with ⟨k, hk, rfl, ho, -⟩ | ⟨rfl, hno⟩
  · obtain ⟨g, c', hv, hc⟩ := HR.out.at_ (by omega)
    rw [hov] at hv
    injection hv with e1 e2 e3
    subst e1
    obtain ⟨-, q1, -, -, -, q5⟩ := hc k hk
    obtain ⟨p5, c5', hv5⟩ := HR.out.vIs k hk
    rw [hv5] at q5
    have k1 : (0 : Int) ≤ (k : Int) := by omega
    have k2 : (k : Int) < (R.objs.length : Int) := by omega
    have HIs : Hid (RIs R oop k) := ⟨hk, ho⟩
    obtain ⟨cz, hcz⟩ : ∃ cz, cz = (R.objs.getD k noRO).slots.length := ⟨_, rfl⟩
    obtain ⟨fz, hfz⟩ : ∃ fz, fz = (R.objs.getD k noRO).fmt := ⟨_, rfl⟩
    rw [← hcz] at q5
    rw [← hfz] at q1
    simp only [I] at q1
    have HCz := mkHid (And.intro hcz hfz)
    clear hcz hfz hc ho e2 e3 HF hv5
    go_wp2_with fail
    all_goals try (go_quiet (fail); go_wp2_with fail)
    all_goals
      refine bodyPost_ret (results_tmp3 rfl _ _ _) rfl ?_
      exact ⟨⟨k, HIs.out, by rw [← HCz.out.1, ← HCz.out.2]; rfl⟩, by first | exact Fr.refl _ _ | exact Fr.drew [] _ | exact Fr.drewN [] _ _⟩
  · exact absurd hno HY.out
set_option maxHeartbeats 1000000 in
theorem rAt_yes (oop : Int) (B r : Nat) (R : RS) (i : Nat) (w : World) (h : RRep w B r R) (hl : R.objs.length ≤ 1048576) (hy : ∀ k, RIs R oop k → i < (R.objs.getD k noRO).slots.length) (hn : ¬ RNo R oop) :
    Calls Tryd.prog 85 #[.pointer (some ⟨r, 0, none⟩), .int .i64 oop, .int .i64 i] w fun e w' =>
      (∃ k, RIs R oop k ∧ e = .returned (.tuple #[.int .i64 ((R.objs.getD k noRO).slots.getD i 0), .int .i64 0])) ∧ Fr [] w w' := by
  obtain ⟨p, c, hov⟩ := h.ovIs
  have c5 : w.cell? ⟨r, 5, none⟩ = some (.slice p R.objs.length c) := by rw [h.c, ← hov]; rfl
  have HF := mkHid (find_any oop B r R w h hl)
  have HR := mkHid h
  have HY := mkHid hy
  have HN := mkHid hn
  clear h hy hn
  go_enter Tryd.func85, Tryd.ntmps85
  go_wp2_with fail
  refine Calls.mono HF.out ?_
  rintro e w2 ⟨z, rfl, hz, hw⟩
  rw [hw]
  clear hw w2
  rcases hz with ⟨k, hk, rfl, ho, -⟩ | ⟨rfl, hno⟩
  · obtain ⟨g, c', hv, hc⟩ := HR.out.at_ (by omega)
    rw [hov] at hv
    injection hv with e1 e2 e3
    subst e1
    obtain ⟨-, q1, -, -, -, q5⟩ := hc k hk
    have hi := HY.out k ⟨hk, ho⟩
    have hm : R.objs.getD k noRO ∈ R.objs := by rw [List.getD_eq_getElem?_getD, List.getElem?_eq_getElem hk]; exact List.getElem_mem hk
    obtain ⟨p5, c5', hv5, hs5⟩ := own_slot (HR.out.slots _ hm)
    obtain ⟨g5, rfl, hc5⟩ := hs5 (by omega)
    have q6 := hc5 i hi
    rw [hv5] at q5
    have k1 : (0 : Int) ≤ (k : Int) := by omega
    have k2 : (k : Int) < (R.objs.length : Int) := by omega
    have HIs : Hid (RIs R oop k) := ⟨hk, ho⟩
    obtain ⟨cz, hcz⟩ : ∃ cz, cz = (R.objs.getD k noRO).slots.length := ⟨_, rfl⟩
    obtain ⟨fz, hfz⟩ : ∃ fz, fz = (R.objs.getD k noRO).slots.getD i 0 := ⟨_, rfl⟩
    rw [← hcz] at q5 hi
    rw [← hfz] at q6
    have i1 : (0 : Int) ≤ (i : Int) := by omega
    have i2 : (i : Int) < (cz : Int) := by omega
    have HFz := mkHid hfz
    clear hcz hfz hc hc5 ho e2 e3 HF hv5 HY
    go_wp2_with fail
    all_goals try (go_quiet (fail); go_wp2_with fail)
    all_goals
      go_ret2
      exact ⟨⟨k, HIs.out, by rw [← HFz.out]; rfl⟩, by first | exact Fr.refl _ _ | exact Fr.drew [] _ | exact Fr.drewN [] _ _⟩
  · exact absurd hno HN.out
end Go.Proofs.YtdkbnnhcjaibdaaDoor

namespace Go.Proofs.YtdkbnnhcjaibdaaDoor
open Go.RowKit
set_option linter.unusedVariables false
/-- what a list of loaded objects is in a heap -/
structure KOf (words oops mark : Nat) (ks : List Key) (H : HS) (M : MS) : Prop where
  inv : Inv H M
  words : H.words = words
  oops : H.oops = oops
  mark : H.mark = mark
  age : H.age = 0
  order : H.order = ks.map fun k => k.1.toNat
  mem : (H.mem.length : Int) = endK ks
  count : H.count = ks.length
  at_ : ∀ k ∈ ks, 1 ≤ k.1 ∧ (M.things.getD (k.1.toNat - 1) noTh).there = true ∧ (M.things.getD (k.1.toNat - 1) noTh).cls = k.2.1 ∧ ((M.things.getD (k.1.toNat - 1) noTh).fmt : Int) = k.2.2.1 ∧ (M.things.getD (k.1.toNat - 1) noTh).slots = k.2.2.2
  only : ∀ i, (M.things.getD i noTh).there = true → ∃ k ∈ ks, k.1 = (i : Int) + 1
theorem ext_getD {a b : List Int} (h1 : a.length = b.length) (h2 : ∀ j, j < b.length → a.getD j 0 = b.getD j 0) : a = b := by
  refine List.ext_getElem h1 fun i u1 u2 => ?_
  have := h2 i u2
  rw [List.getD_eq_getElem?_getD, List.getD_eq_getElem?_getD, List.getElem?_eq_getElem u1, List.getElem?_eq_getElem u2] at this
  exact this
theorem Lds.kOf {words oops mark : Nat} {ks : List Key} {H : HS} {M : MS} (h1 : (words : Int) ≤ 1048576) (h2 : (oops : Int) ≤ 65536) (hm : (mark : Int) ≤ 1073741824) (h : Lds { emptyH words oops with mark := mark } { emptyM words oops with mark := mark } ks H M) : KOf words oops mark ks H M := by
  refine Lds.ind (C := fun ks H M => KOf words oops mark ks H M) ?_ ?_ h
  · exact ⟨(inv_empty words oops h1 h2).setMark mark hm, rfl, rfl, rfl, rfl, rfl, rfl, rfl, by simp, fun i hi => by simp [emptyM, noTh] at hi⟩
  · rintro ks H H' M M' q cls fmt ss h ht hl ih
    obtain ⟨a1, a2, a3, a4, a5⟩ := hl.at_
    have hq : ((q : Int) + 1).toNat - 1 = q := by omega
    have hnew := (takesB_yes ht).1
    have hnt := not_there ih.inv q hnew
    refine ⟨hl.inv, hl.words.trans ih.words, hl.oops.trans ih.oops, hl.mark.trans ih.mark, hl.age.trans ih.age, ?_, ?_, ?_, fun k hk => ?_, fun i hi => ?_⟩
    · rw [hl.order, ih.order, List.map_append]
      simp
    · rw [hl.mem, endK_append]
      have := ih.mem
      simp only [endK]
      rw [lenOf_nat]
      omega
    · rw [hl.count, ih.count, List.length_append]; rfl
    · rcases List.mem_append.1 hk with h3 | h3
      · obtain ⟨b0, b1, b2, b3, b4⟩ := ih.at_ k h3
        have hne : k.1.toNat - 1 ≠ q := fun e => by rw [e, hnt] at b1; simp at b1
        rw [hl.rest _ hne]
        exact ⟨b0, b1, b2, b3, b4⟩
      · have e : k = ((q : Int) + 1, cls, (fmt : Int), ss) := by simpa using h3
        rw [e]
        dsimp only
        rw [hq]
        refine ⟨by omega, a1, a2, by rw [a3], ?_⟩
        exact ext_getD a4 a5
    · by_cases e : i = q
      · exact ⟨((q : Int) + 1, cls, (fmt : Int), ss), by simp, by dsimp only; omega⟩
      · rw [hl.rest i e] at hi
        obtain ⟨k, k1, k2⟩ := ih.only i hi
        exact ⟨k, List.mem_append_left _ k1, k2⟩
theorem KOf.has {words oops mark : Nat} {ks : List Key} {H : HS} {M : MS} (h : KOf words oops mark ks H M) (oop : Int) : has H oop = ks.any fun x => x.1 == oop := by
  rw [h.inv.hasM]
  cases hb : ks.any (fun x => x.1 == oop) with
  | true =>
    obtain ⟨k, k1, k2⟩ := List.any_eq_true.1 hb
    have e : k.1 = oop := by simpa using k2
    obtain ⟨b0, b1, b2⟩ := h.at_ k k1
    rw [e] at b0 b1
    have := mhas_of (M := M) (oop.toNat - 1) (th_in b1) b1
    rwa [show ((oop.toNat - 1 : Nat) : Int) + 1 = oop from by omega] at this
  | false =>
    refine decide_eq_false (fun hc => ?_)
    obtain ⟨k, k1, k2⟩ := h.only (oop.toNat - 1) hc.2.2
    have : ks.any (fun x => x.1 == oop) = true := List.any_eq_true.2 ⟨k, k1, by rw [beq_iff_eq]; omega⟩
    rw [hb] at this
    simp at this
theorem KOf.takes {words oops mark : Nat} {ks : List Key} {H : HS} {M : MS} (h : KOf words oops mark ks H M) (k : Key) : takesB H k.1 k.2.1 k.2.2.1 k.2.2.2 = takesK words oops ks k := by
  unfold takesB takesK
  rw [h.has, h.words, h.oops, h.mem]
  rw [Bool.eq_iff_iff]
  simp only [Bool.and_eq_true, decide_eq_true_eq]
  constructor
  · rintro ⟨⟨⟨⟨⟨⟨⟨h1, h2⟩, h3⟩, h4⟩, h5⟩, h6⟩, h7⟩, h8⟩
    exact ⟨⟨⟨⟨⟨⟨⟨h2, h3⟩, h1⟩, h4⟩, h5⟩, h6⟩, h8⟩, by omega⟩
  · rintro ⟨⟨⟨⟨⟨⟨⟨h2, h3⟩, h1⟩, h4⟩, h5⟩, h6⟩, h8⟩, h7⟩
    exact ⟨⟨⟨⟨⟨⟨⟨h1, h2⟩, h3⟩, h4⟩, h5⟩, h6⟩, by omega⟩, h8⟩
/-- what the state tells of a heap that was loaded -/
theorem KOf.st {words oops mark : Nat} {ks : List Key} {H : HS} {M : MS} (h : KOf words oops mark ks H M) : (stKeys H M.things H.order.length).map (fun k : Nat × Int × Nat × List Int => ((k.1 : Int), k.2.1, (k.2.2.1 : Int), k.2.2.2)) = ks := by
  unfold stKeys
  rw [List.take_length, h.order]
  have hf : (ks.map fun k => k.1.toNat).filter (fun o => o != 0) = ks.map fun k => k.1.toNat := by
    rw [List.filter_eq_self]
    intro a ha
    obtain ⟨k, k1, k2⟩ := List.mem_map.1 ha
    have := (h.at_ k k1).1
    simp
    omega
  rw [hf, List.map_map, List.map_map]
  conv => rhs; rw [← List.map_id ks]
  refine List.map_congr_left fun k hk => ?_
  obtain ⟨b0, b1, b2, b3, b4⟩ := h.at_ k hk
  simp only [Function.comp]
  rw [b2, b3, b4]
  obtain ⟨k1, k2, k3, k4⟩ := k
  simp only [id]
  rw [show ((k1.toNat : Nat) : Int) = k1 from by dsimp only at b0; omega]
/-- how many of a list of objects are taken, one after the other -/
def goodK (words oops : Nat) (la : List Key) (k : Nat) : Prop := ∀ i o, i < k → la[i]? = some o → takesK words oops (la.take i) o = true
end Go.Proofs.YtdkbnnhcjaibdaaDoor

namespace Go.Proofs.YtdkbnnhcjaibdaaDoor
open Go.RowKit
set_option linter.unusedVariables false
attribute [local go_sem ↓] Go.wp_at_zero Go.wp_at_succ
set_option maxHeartbeats 1000000 in
theorem Oop_yes (n : Int) (w : World) (hT : Tab w) (hk : kindOf n = 3) : Calls Tryd.prog 145 #[.int .i64 n] w fun e w' => e = .returned (.tuple #[.int .i64 (n / 4), .int .i64 0]) ∧ w' = w := by
  have hK := kind_any n w hT
  rw [hk] at hK
  obtain ⟨h1, h2, h3⟩ := (kind3 n).1 hk
  have hd : n.tdiv 4 = n / 4 := Int.tdiv_eq_ediv_of_nonneg (by omega)
  have HK := mkHid hK
  clear hK hT hk
  go_enter Tryd.func145, Tryd.ntmps145
  go_wp2_with (go_at_call 135; refine Calls.mono HK.out ?_; rintro e w' ⟨rfl, hw'⟩; rw [hw']; clear hw' w')
  go_ret2
  refine ⟨?_, rfl⟩
  first | rfl | (rw [hd]) | (congr 4)
set_option maxHeartbeats 1000000 in
theorem Oop_no (n : Int) (w : World) (hT : Tab w) (hk : kindOf n ≠ 3) : Calls Tryd.prog 145 #[.int .i64 n] w fun e w' => e = .returned (.tuple #[.int .i64 0, .int .i64 10]) ∧ w' = w := by
  have hK := kind_any n w hT
  have hb : (kindOf n == 3) = false := by simpa using hk
  have HK := mkHid hK
  generalize kindOf n = kz at *
  clear hK hT hk
  go_enter Tryd.func145, Tryd.ntmps145
  go_wp2_with (go_at_call 135; refine Calls.mono HK.out ?_; rintro e w' ⟨rfl, hw'⟩; rw [hw']; clear hw' w')
  go_ret2
  exact ⟨rfl, rfl⟩
/-- does a word name an object of the heap? -/
def namesB (H : HS) (n : Int) : Bool := decide (kindOf n = 3) && has H (n / 4)
set_option maxHeartbeats 1000000 in
theorem named_yes (n : Int) (a : Nat) (l : Lay) (H : HS) (M : MS) (w : World) (h : Rep w a l H) (hi : Inv H M) (hT : Tab w) (hn : namesB H n = true) :
    Calls Tryd.prog 132 #[.pointer (some ⟨a, 0, none⟩), .int .i64 n] w fun e w' => e = .returned (.tuple #[.int .i64 (n / 4), .bool true]) ∧ Fr [] w w' := by
  unfold namesB at hn
  simp only [Bool.and_eq_true, decide_eq_true_eq] at hn
  obtain ⟨hk, hh⟩ := hn
  have hm : mhas M (n / 4) = true := by rw [← hi.hasM]; exact hh
  have hm2 := of_decide_eq_true hm
  obtain ⟨q, hq⟩ : ∃ q : Nat, n / 4 = (q : Int) + 1 := ⟨(n / 4).toNat - 1, by omega⟩
  have hb : (M.things.getD q noTh).there = true := by have := hm2.2.2; rwa [show (n / 4).toNat - 1 = q from by omega] at this
  have hI := hi.is q (th_in hb) hb
  have hmem : (H.mem.length : Int) ≤ 1048576 := by have := hi.safe.small.mem; have := hi.safe.small.words; omega
  have hr := hI.room
  have h22 := lenN_two (M.things.getD q noTh).slots.length (M.things.getD q noTh).fmt
  have HC := mkHid (Class_ok (q + 1) a l H w h hI.has (by omega) hmem)
  have HO := mkHid (Oop_yes n w hT hk)
  rw [hq] at HO ⊢
  generalize H.mem.getD (H.seats.getD (q + 1) (0, 0, 0)).1 0 = cz at *
  rw [show ((q + 1 : Nat) : Int) = (q : Int) + 1 from by omega] at HC
  clear hh hk hm hm2 hb hI hq h hi hT
  go_enter Tryd.func132, Tryd.ntmps132
  go_wp2_with (go_at_call 145; refine Calls.mono HO.out ?_; rintro e w' ⟨rfl, hw'⟩; rw [hw']; clear hw' w')
  refine Calls.mono HC.out ?_
  rintro e w2 ⟨rfl, hf2⟩
  go_wp2_with fail
  go_ret2
  exact ⟨rfl, hf2⟩
set_option maxHeartbeats 1000000 in
theorem named_no (n : Int) (a : Nat) (l : Lay) (H : HS) (w : World) (h : Rep w a l H) (hT : Tab w) (hn : namesB H n = false) :
    Calls Tryd.prog 132 #[.pointer (some ⟨a, 0, none⟩), .int .i64 n] w fun e w' => e = .returned (.tuple #[.int .i64 0, .bool false]) ∧ Fr [] w w' := by
  by_cases hk : kindOf n = 3
  · have hh : has H (n / 4) = false := by unfold namesB at hn; rw [decide_eq_true hk] at hn; simpa using hn
    have HC := mkHid (Class_no (n / 4) a l H w h hh)
    have HO := mkHid (Oop_yes n w hT hk)
    generalize n / 4 = q at *
    clear hh hk h hT hn
    go_enter Tryd.func132, Tryd.ntmps132
    go_wp2_with (go_at_call 145; refine Calls.mono HO.out ?_; rintro e w' ⟨rfl, hw'⟩; rw [hw']; clear hw' w')
    refine Calls.mono HC.out ?_
    rintro e w2 ⟨rfl, hf2⟩
    go_wp2_with fail
    go_ret2
    exact ⟨rfl, hf2⟩
  · have HO := mkHid (Oop_no n w hT hk)
    clear hk h hT hn
    go_enter Tryd.func132, Tryd.ntmps132
    go_wp2_with (go_at_call 145; refine Calls.mono HO.out ?_; rintro e w' ⟨rfl, hw'⟩; rw [hw']; clear hw' w')
    go_ret2
    exact ⟨rfl, Fr.refl _ _⟩
end Go.Proofs.YtdkbnnhcjaibdaaDoor

namespace Go.Proofs.YtdkbnnhcjaibdaaDoor
open Go.RowKit
set_option linter.unusedVariables false
attribute [local go_sem ↓] Go.wp_at_zero Go.wp_at_succ
set_option maxHeartbeats 1000000 in
theorem marks_nil (p : Option Addr) (c : Nat) (w : World) : Calls Tryd.prog 130 #[.slice p 0 c] w fun e w' => e = .returned (.slice none 0 0) ∧ w' = w := by
  go_enter Tryd.func130, Tryd.ntmps130
  go_wp2_with fail
  go_ret
  exact ⟨rfl, rfl⟩
set_option maxRecDepth 20000 in
set_option maxHeartbeats 1000000 in
theorem marks_ok (g : Nat) (c : Nat) (n z : Nat) (w : World) (hn : 0 < n) (hl : n ≤ 1048576) (hz : z < 1048576) (hc : w.cell? ⟨g, n - 1, none⟩ = some (.int .i64 (z : Int))) :
    Calls Tryd.prog 130 #[.slice (some ⟨g, 0, none⟩) n c] w fun e w' => e = .returned (.slice (some ⟨w.heap.size, 0, none⟩) (z + 1) (z + 1)) ∧ w' = w.alloc (.cells (keptL (z + 1) []).toArray 4) := by
  have k0 : ((n : Int) == 0) = false := by simpa using (by omega : ¬ (n : Int) = 0)
  have k1 : (0 : Int) ≤ (n : Int) - 1 := by omega
  have k2 : (n : Int) - 1 < (n : Int) := by omega
  have hmk := make_bools (z + 1) (by omega) w
  rw [show ((z + 1 : Nat) : Int) = (z : Int) + 1 from by omega] at hmk
  go_enter Tryd.func130, Tryd.ntmps130
  go_wp2_with fail
  go_ret
  exact ⟨rfl, rfl⟩
end Go.Proofs.YtdkbnnhcjaibdaaDoor

namespace Go.Proofs.YtdkbnnhcjaibdaaDoor
open Go.RowKit
set_option linter.unusedVariables false
attribute [local go_sem ↓] Go.wp_at_zero Go.wp_at_succ
/-- those of the first k that are marked -/
def markedTo (ks rs : List Nat) (k : Nat) : List Nat := (ks.take k).filter fun x => decide (x ∈ rs)
theorem markedTo_succ (ks rs : List Nat) (k : Nat) (hk : k < ks.length) : markedTo ks rs (k + 1) = markedTo ks rs k ++ (if ks.getD k 0 ∈ rs then [ks.getD k 0] else []) := by
  unfold markedTo
  have e : ks.getD k 0 = ks[k] := by rw [List.getD_eq_getElem?_getD, List.getElem?_eq_getElem hk]; rfl
  rw [List.take_succ_eq_append_getElem hk, List.filter_append, e]
  congr 1
  by_cases h : ks[k] ∈ rs
  · rw [if_pos h, List.filter_cons_of_pos (by simpa using h)]; rfl
  · rw [if_neg h, List.filter_cons_of_neg (by simpa using h)]; rfl
theorem markedTo_len (ks rs : List Nat) (k : Nat) : (markedTo ks rs k).length ≤ k := by
  have := List.length_filter_le (fun x => decide (x ∈ rs)) (ks.take k)
  unfold markedTo
  have h2 : (ks.take k).length ≤ k := by simp; omega
  omega
set_option maxRecDepth 20000 in
set_option maxHeartbeats 2000000 in
theorem marked_ok (ks rs : List Nat) (n : Nat) (p : Option Addr) (c : Nat) (ps : Option Addr) (sc : Nat) (w : World) (hr : Rd w (.slice p ks.length c) (ks.map fun x : Nat => (x : Int))) (hs : 0 < ks.length → ∃ sb, ps = some ⟨sb, 0, none⟩ ∧ sb < w.heap.size ∧ ∀ i, i < n → w.cell? ⟨sb, i, none⟩ = some (.bool (decide (i ∈ rs)))) (hlt : ∀ k ∈ ks, k < n) (hl : ks.length ≤ 1048576) (hn : n ≤ 1048576) :
    Calls Tryd.prog 134 #[.slice p ks.length c, .slice ps n sc] w fun e w' => ∃ v, e = .returned v ∧ w'.ownsRow w.heap.size 3 1 v (ks.filter fun x => decide (x ∈ rs)).length ((ks.filter fun x => decide (x ∈ rs)).map I) ∧ Fr [] w w' := by
  obtain ⟨j0, ji, jz0, jz1, jz2⟩ := info_parts info3
  have HRd := mkHid hr
  have HS := mkHid hs
  have HLt := mkHid hlt
  clear hr hs hlt
  go_enter Tryd.func134, Tryd.ntmps134
  go_wp2_with fail
  go_loopw [5, 10] (fun v q wr => ∃ k : Nat, k ≤ ks.length ∧ q = .int .i64 k ∧ wr.ownsRow w.heap.size 3 1 v (markedTo ks rs k).length ((markedTo ks rs k).map I) ∧ Hid (Fr [] w wr)) (fun _ q _ => ks.length - (intOf q).toNat)
  case atStart => exact ⟨0, Nat.zero_le _, rfl, World.ownsRow_nil _ _ _ _, Fr.refl _ _⟩
  case round =>
    obtain ⟨k, hkn, rfl, hown, hfr⟩ := hrel
    by_cases hk : k < ks.length
    · have hz := hfr.out.size
      obtain ⟨p', c', ee, hrow⟩ := (HRd.out.idle hfr.out).at_
      rw [List.length_map] at ee hrow
      injection ee with ee _ eec
      subst ee
      subst eec
      obtain ⟨g, off, rfl, hgl, hc⟩ := hrow (by omega)
      have q0 := hc k hk
      have hm : ks.getD k 0 ∈ ks := by rw [List.getD_eq_getElem?_getD, List.getElem?_eq_getElem hk]; exact List.getElem_mem hk
      have e1 : (ks.map fun x : Nat => (x : Int)).getD k 0 = ((ks.getD k 0 : Nat) : Int) := by
        rw [List.getD_eq_getElem?_getD, List.getD_eq_getElem?_getD, List.getElem?_map, List.getElem?_eq_getElem hk]; rfl
      rw [e1] at q0
      obtain ⟨sb, rfl, hsl, hsc⟩ := HS.out (by omega)
      have q1 := (hfr.out.cell (p := ⟨sb, ks.getD k 0, none⟩) hsl (by simp)).trans (hsc _ (HLt.out _ hm))
      have hx := HLt.out _ hm
      have hsu := markedTo_succ ks rs k hk
      have hle := markedTo_len ks rs k
      have k1 : (0 : Int) ≤ (k : Int) := by omega
      have k2 : (k : Int) < (ks.length : Int) := by omega
      have HSU := mkHid hsu
      clear hsu hrow hc e1 hm hsc
      generalize ks.getD k 0 = z at *
      have k3 : (0 : Int) ≤ (z : Int) := by omega
      have k4 : (z : Int) < (n : Int) := by omega
      generalize hX : markedTo ks rs k = X at *
      clear hX
      by_cases hy : z ∈ rs
      · rw [decide_eq_true hy] at q1
        have HS2 := HSU.out
        rw [if_pos hy] at HS2
        have HS3 := mkHid HS2
        clear HS2 HSU hy
        have hown2 := hown.alloc (.cells #[.int .i64 (z : Int)] 3)
        have HFA : Hid (Fr [] w (wr.alloc (.cells #[.int .i64 (z : Int)] 3))) := hfr.out.trans (Fr.alloc [] _ _) (by simp)
        clear hown
        go_wp2_with (first
          | (at_builtin; refine wpList_append_own _ rfl (.tmp 18) (.tmp 20) 36 rfl w.heap.size 3 j0 (.int .i64 0) 1 8 Tryd.underlying36 ji jz0 jz1 jz2 rfl (by decide) _ _ _ rfl hown2 ⟨wr.heap.size, 0, none⟩ 1 1 [.int .i64 (z : Int)] rfl rfl ?c1 ?c2 ?c3 ?c4 ?c5 ?_)
          | go_in)
        case c2 => first | rfl | (intro u hu; simp at hu; subst hu; rfl)
        case c3 => unfold maxLen; omega
        case c4 => omega
        case c5 => first | omega | (simp; omega)
        intro v' w1 hown' hgrow _
        have HG : Hid (Fr [] w w1) := by
          refine ⟨hgrow.os.trans HFA.out.os, hgrow.tape.trans HFA.out.tape, hgrow.output.trans HFA.out.output, Nat.le_trans HFA.out.size hgrow.size, fun i hi hn => ?_⟩
          rw [hgrow.block i (Nat.lt_of_lt_of_le hi HFA.out.size) (fun e => ?_)]
          · exact HFA.out.block i hi hn
          · have := (hown2.lt i e.symm).1
            omega
        have HO := mkHid hown'
        clear hown' hgrow hown2 HFA
        go_wp2
        go_roundw
        case rel => exact ⟨k + 1, by omega, by go_num, by rw [HS3.out]; simpa [I] using HO.out, HG⟩
        case measure => simp [intOf]; omega
      · rw [decide_eq_false hy] at q1
        have HS2 := HSU.out
        rw [if_neg hy, List.append_nil] at HS2
        have HS3 := mkHid HS2
        have HO := mkHid hown
        clear HS2 HSU hy hown
        go_wp2
        go_roundw
        case rel => exact ⟨k + 1, by omega, by go_num, by rw [HS3.out]; exact HO.out, hfr⟩
        case measure => simp [intOf]; omega
    · have hke : k = ks.length := by omega
      subst hke
      unfold markedTo at hown
      rw [List.take_length] at hown
      have HO := mkHid hown
      clear hown
      go_wp2
      go_ret
      exact ⟨_, rfl, HO.out, hfr.out⟩
end Go.Proofs.YtdkbnnhcjaibdaaDoor

namespace Go.Proofs.YtdkbnnhcjaibdaaDoor
open Go.RowKit
set_option linter.unusedVariables false
attribute [local go_sem ↓] Go.wp_at_zero Go.wp_at_succ
/-- how a walk over the heap stands: what was reached, and what is still to be gone from; all its blocks from B on -/
structure Rc (B : Nat) (W : World) (a bh br ba : Nat) (ps : Option Addr) (n sc : Nat) (rs ah : List Nat) (av : Value) : Prop where
  lo : B ≤ bh ∧ B ≤ br ∧ B ≤ ba
  hbox : W.heap[bh]? = some (.cells #[.pointer (some ⟨a, 0, none⟩)] 24 (0, 0))
  rbox : W.heap[br]? = some (.cells #[.slice ps n sc] 120 (0, 0))
  abox : W.heap[ba]? = some (.cells #[av] 36 (0, 0))
  row : W.ownsRow B 3 1 av ah.length (ah.map I)
  marksAt : 0 < n → ∃ sb, ps = some ⟨sb, 0, none⟩ ∧ B ≤ sb ∧ W.heap[sb]? = some (.cells (keptL n rs).toArray 4 (0, 0))
/-- the blocks that meet writes -/
def touch (ps : Option Addr) (ba : Nat) (av : Value) : List Nat := (ps.map (·.block)).toList ++ ba :: av.ownBlock.toList
theorem Rc.idle {B : Nat} {W V : World} {a bh br ba : Nat} {ps : Option Addr} {n sc : Nat} {rs ah : List Nat} {av : Value} (h : Rc B W a bh br ba ps n sc rs ah av) (hf : Fr [] W V) : Rc B V a bh br ba ps n sc rs ah av :=
  ⟨h.lo, (hf.block _ (lt_of_heap h.hbox) (by simp)).trans h.hbox, (hf.block _ (lt_of_heap h.rbox) (by simp)).trans h.rbox, (hf.block _ (lt_of_heap h.abox) (by simp)).trans h.abox, own_congr h.row fun g hg => hf.block g (h.row.lt g hg).2 (by simp), fun hn => by
    obtain ⟨sb, h1, h2, h3⟩ := h.marksAt hn
    exact ⟨sb, h1, h2, (hf.block _ (lt_of_heap h3) (by simp)).trans h3⟩⟩
set_option maxRecDepth 20000 in
set_option maxHeartbeats 1000000 in
theorem meet_no (z : Int) (B : Nat) (a bh br ba : Nat) (ps : Option Addr) (n sc : Nat) (rs ah : List Nat) (av : Value) (l : Lay) (H : HS) (w : World) (h : Rep w a l H) (hT : Tab w) (hr : Rc B w a bh br ba ps n sc rs ah av) (hz : namesB H z = false) :
    Calls Tryd.prog 131 #[.int .i64 z, .pointer (some ⟨bh, 0, none⟩), .pointer (some ⟨br, 0, none⟩), .pointer (some ⟨ba, 0, none⟩)] w fun e w' => e = .returned (.tuple #[]) ∧ Fr [] w w' := by
  have c0 : w.cell? ⟨bh, 0, none⟩ = some (.pointer (some ⟨a, 0, none⟩)) := by rw [cell_in hr.hbox]; rfl
  have HN := mkHid (named_no z a l H w h hT hz)
  clear h hT hr hz
  go_enter Tryd.func131, Tryd.ntmps131
  go_wp2_with fail
  refine Calls.mono HN.out ?_
  rintro e w2 ⟨rfl, hf2⟩
  go_wp2_with fail
  refine bodyPost_ret (results_none rfl _ _ _) rfl ?_
  exact ⟨rfl, hf2⟩
set_option maxRecDepth 20000 in
set_option maxHeartbeats 1000000 in
theorem meet_old (z : Int) (q : Nat) (B : Nat) (a bh br ba : Nat) (ps : Option Addr) (n sc : Nat) (rs ah : List Nat) (av : Value) (l : Lay) (H : HS) (M : MS) (w : World) (h : Rep w a l H) (hi : Inv H M) (hT : Tab w) (hr : Rc B w a bh br ba ps n sc rs ah av) (hz : namesB H z = true) (hq : z / 4 = (q : Int)) (hqn : q < n) (hn : n ≤ 1048576) (hm : q ∈ rs) :
    Calls Tryd.prog 131 #[.int .i64 z, .pointer (some ⟨bh, 0, none⟩), .pointer (some ⟨br, 0, none⟩), .pointer (some ⟨ba, 0, none⟩)] w fun e w' => e = .returned (.tuple #[]) ∧ Fr [] w w' := by
  have c0 : w.cell? ⟨bh, 0, none⟩ = some (.pointer (some ⟨a, 0, none⟩)) := by rw [cell_in hr.hbox]; rfl
  have hN := named_yes z a l H M w h hi hT hz
  rw [hq] at hN
  have HN := mkHid hN
  obtain ⟨sb, rfl, hsl, hsb⟩ := hr.marksAt (by omega)
  have HR := mkHid hr
  have HSB := mkHid hsb
  have k1 : (0 : Int) ≤ (q : Int) := by omega
  have k2 : (q : Int) < (n : Int) := by omega
  have HM : Hid (decide (q ∈ rs) = true) := decide_eq_true hm
  clear h hT hr hz hN hi hsb hm
  go_enter Tryd.func131, Tryd.ntmps131
  go_wp2_with fail
  refine Calls.mono HN.out ?_
  rintro e w2 ⟨rfl, hf2⟩
  have b1 := (hf2.block _ (lt_of_heap HR.out.rbox) (by simp)).trans HR.out.rbox
  have b2 := (hf2.block _ (lt_of_heap HSB.out) (by simp)).trans HSB.out
  have c1 : w2.cell? ⟨br, 0, none⟩ = some (.slice (some ⟨sb, 0, none⟩) n sc) := by rw [cell_in b1]; rfl
  have c2 : w2.cell? ⟨sb, q, none⟩ = some (.bool true) := by
    rw [cell_in b2]
    have := keptL_at n rs q (by omega)
    rw [HM.out] at this
    simpa using this
  have HF := mkHid hf2
  clear b1 b2 hf2
  go_wp2_with fail
  refine bodyPost_ret (results_none rfl _ _ _) rfl ?_
  exact ⟨rfl, HF.out⟩
set_option maxRecDepth 20000 in
set_option maxHeartbeats 1000000 in
theorem meet_new (z : Int) (q : Nat) (B : Nat) (a bh br ba : Nat) (ps : Option Addr) (n sc : Nat) (rs ah : List Nat) (av : Value) (l : Lay) (H : HS) (M : MS) (w : World) (h : Rep w a l H) (hi : Inv H M) (hT : Tab w) (hr : Rc B w a bh br ba ps n sc rs ah av) (hz : namesB H z = true) (hq : z / 4 = (q : Int)) (hqn : q < n) (hn : n ≤ 1048576) (hm : q ∉ rs) (hal : ah.length ≤ 1048576) :
    Calls Tryd.prog 131 #[.int .i64 z, .pointer (some ⟨bh, 0, none⟩), .pointer (some ⟨br, 0, none⟩), .pointer (some ⟨ba, 0, none⟩)] w fun e w' => e = .returned (.tuple #[]) ∧ ∃ av', Rc B w' a bh br ba ps n sc (rs ++ [q]) (ah ++ [q]) av' ∧ Fr (touch ps ba av) w w' ∧ (av'.ownBlock = av.ownBlock ∨ ∃ g, av'.ownBlock = some g ∧ w.heap.size ≤ g) := by
  obtain ⟨j0, ji, jz0, jz1, jz2⟩ := info_parts info3
  have c0 : w.cell? ⟨bh, 0, none⟩ = some (.pointer (some ⟨a, 0, none⟩)) := by rw [cell_in hr.hbox]; rfl
  have hN := named_yes z a l H M w h hi hT hz
  rw [hq] at hN
  have HN := mkHid hN
  obtain ⟨sb, rfl, hsl, hsb⟩ := hr.marksAt (by omega)
  obtain ⟨pa, ca, rfl⟩ : ∃ pa ca, av = .slice pa ah.length ca := by
    rcases hr.row.2 with ⟨h2, h3⟩ | ⟨g, cap, cur, h2, h3⟩
    · exact ⟨none, 0, by rw [h2, h3]⟩
    · exact ⟨some ⟨g, 0, none⟩, cap, h2⟩
  have HR := mkHid hr
  have HSB := mkHid hsb
  have k1 : (0 : Int) ≤ (q : Int) := by omega
  have k2 : (q : Int) < (n : Int) := by omega
  have HM : Hid (decide (q ∈ rs) = false) := decide_eq_false hm
  clear h hT hr hz hN hi hsb hm
  go_enter Tryd.func131, Tryd.ntmps131
  go_wp2_with fail
  refine Calls.mono HN.out ?_
  rintro e w2 ⟨rfl, hf2⟩
  have hr2 := HR.out.idle hf2
  have b2 := (hf2.block _ (lt_of_heap HSB.out) (by simp)).trans HSB.out
  have c1 : w2.cell? ⟨br, 0, none⟩ = some (.slice (some ⟨sb, 0, none⟩) n sc) := by rw [cell_in hr2.rbox]; rfl
  have c2 : w2.cell? ⟨sb, q, none⟩ = some (.bool false) := by
    rw [cell_in b2]
    have := keptL_at n rs q (by omega)
    rw [HM.out] at this
    simpa using this
  have f2 : w2.frozen? ⟨sb, q, none⟩ = false := frozen_in b2 q
  have n1 : sb ≠ ba := fun e => by have h1 := hr2.abox; rw [← e, b2] at h1; simp at h1
  have n2 : sb ≠ br := fun e => by have h1 := hr2.rbox; rw [← e, b2] at h1; simp at h1
  have n3 : sb ≠ bh := fun e => by have h1 := hr2.hbox; rw [← e, b2] at h1; simp at h1
  have n4 : ba ≠ br := fun e => by have h1 := hr2.abox; rw [e, hr2.rbox] at h1; simp at h1
  have n5 : ba ≠ bh := fun e => by have h1 := hr2.abox; rw [e, hr2.hbox] at h1; simp at h1
  have hrowne : ∀ b, (Value.slice pa ah.length ca).ownBlock = some b → b ≠ sb ∧ b ≠ ba ∧ b ≠ br ∧ b ≠ bh := fun b hb => by
    rcases hr2.row.2 with ⟨q1, _⟩ | ⟨g1, cap1, cur1, q1, q2, q3, _⟩
    · rw [q1] at hb; simp [Value.ownBlock] at hb
    · rw [q1] at hb
      have a1 : g1 = b := by simpa [Value.ownBlock] using hb
      subst a1
      refine ⟨fun e => ?_, fun e => ?_, fun e => ?_, fun e => ?_⟩
      · rw [e, b2] at q3; simp at q3
      · rw [e, hr2.abox] at q3; simp at q3
      · rw [e, hr2.rbox] at q3; simp at q3
      · rw [e, hr2.hbox] at q3; simp at q3
  have c3 : w2.cell? ⟨ba, 0, none⟩ = some (.slice pa ah.length ca) := by rw [cell_in hr2.abox]; rfl
  have f3 : w2.frozen? ⟨ba, 0, none⟩ = false := frozen_in hr2.abox 0
  have hrow3 : ((w2.setCell ⟨sb, q, none⟩ (.bool true)).alloc (.cells #[.int .i64 (q : Int)] 3)).ownsRow B 3 1 (.slice pa ah.length ca) ah.length (ah.map I) := (own_congr hr2.row fun g hg => set_else (hrowne g hg).1).alloc _
  have hz2 := lt_of_heap b2
  have hza := lt_of_heap hr2.abox
  have HR2 := mkHid hr2
  have HB2 := mkHid b2
  have HF2 := mkHid hf2
  have hBs : B ≤ w2.heap.size := by omega
  clear hr2 b2 hf2
  go_wp2_with (at_builtin; refine wpList_append_lies _ rfl (.tmp 24) (.tmp 26) 36 rfl B 3 j0 (.int .i64 0) 1 8 Tryd.underlying36 ji jz0 jz1 jz2 rfl (by decide) _ _ _ rfl hrow3 ⟨w2.heap.size, 0, none⟩ 1 1 [.int .i64 (q : Int)] rfl rfl ?c1 ?c2 (by decide) ?c3 ?c4 ?c5 (w2.heap.size + 1) (by simp) ?_)
  case c1 =>
    have hnn := World.news_of_block (heap_alloc_new (w2.setCell ⟨sb, q, none⟩ (.bool true)) (.cells #[.int .i64 (q : Int)] 3))
    have hsz : (w2.setCell ⟨sb, q, none⟩ (.bool true)).heap.size = w2.heap.size := by simp
    rw [hsz] at hnn
    exact hnn
  case c2 => intro u hu; simp at hu; subst hu; rfl
  case c3 => unfold maxLen; omega
  case c4 => omega
  case c5 => simp; omega
  intro g cap w3 hown3 hgrow3 hat3 hlt3
  have hsame : ∀ b, b < w2.heap.size → b ≠ sb → some b ≠ (Value.slice pa ah.length ca).ownBlock → w3.heap[b]? = w2.heap[b]? := fun b h1 h2 h3 => by
    rw [hgrow3.block b (by simp; omega) h3, Below.heap_alloc _ _ _ (by simp; omega), set_else h2]
  have e1 : w3.heap[ba]? = some (.cells #[.slice pa ah.length ca] 36 (0, 0)) := (hsame ba hza (fun e => n1 e.symm) (fun e => (hrowne ba e.symm).2.1 rfl)).trans HR2.out.abox
  have e2 : w3.heap[br]? = some (.cells #[.slice (some ⟨sb, 0, none⟩) n sc] 120 (0, 0)) := (hsame br (lt_of_heap HR2.out.rbox) (fun e => n2 e.symm) (fun e => (hrowne br e.symm).2.2.1 rfl)).trans HR2.out.rbox
  have e3 : w3.heap[bh]? = some (.cells #[.pointer (some ⟨a, 0, none⟩)] 24 (0, 0)) := (hsame bh (lt_of_heap HR2.out.hbox) (fun e => n3 e.symm) (fun e => (hrowne bh e.symm).2.2.2 rfl)).trans HR2.out.hbox
  have e4 : w3.heap[sb]? = some (.cells (keptL n (rs ++ [q])).toArray 4 (0, 0)) := by
    rw [hgrow3.block sb (by simp; omega) (fun e => (hrowne sb e.symm).1 rfl), Below.heap_alloc _ _ _ (by simp; omega), set_in HB2.out]
    rw [← keptL_snoc]
    simp
  have d3 : w3.cell? ⟨ba, 0, none⟩ = some (.slice pa ah.length ca) := by rw [cell_in e1]; rfl
  have g3 : w3.frozen? ⟨ba, 0, none⟩ = false := frozen_in e1 0
  have hg : g ≠ ba := by
    rcases hat3 with h1 | h1
    · exact (hrowne g h1).2.1
    · omega
  have hws := HF2.out.size
  have HE : Hid (∃ av', Rc B (w3.setCell ⟨ba, 0, none⟩ (.slice (some ⟨g, 0, none⟩) (ah.length + 1) cap)) a bh br ba (some ⟨sb, 0, none⟩) n sc (rs ++ [q]) (ah ++ [q]) av' ∧ Fr (touch (some ⟨sb, 0, none⟩) ba (Value.slice pa ah.length ca)) w (w3.setCell ⟨ba, 0, none⟩ (.slice (some ⟨g, 0, none⟩) (ah.length + 1) cap)) ∧ (av'.ownBlock = (Value.slice pa ah.length ca).ownBlock ∨ ∃ g, av'.ownBlock = some g ∧ w.heap.size ≤ g)) := by
    refine ⟨.slice (some ⟨g, 0, none⟩) (ah.length + 1) cap, ⟨HR2.out.lo, by rw [set_else (fun e => n5 e.symm)]; exact e3, by rw [set_else (fun e => n4 e.symm)]; exact e2, by rw [set_in e1]; rfl, ?_, fun _ => ⟨sb, rfl, hsl, by rw [set_else n1]; exact e4⟩⟩, ?_, ?_⟩
    · rw [List.length_append, List.map_append]
      exact own_congr hown3 fun g' hg' => set_else (by
        have : g = g' := by simpa [Value.ownBlock] using hg'
        omega)
    · show Fr (sb :: ba :: ((Value.slice pa ah.length ca).ownBlock).toList) w _
      have hF3 : Fr (sb :: ba :: ((Value.slice pa ah.length ca).ownBlock).toList) w w3 := by
        have h1 : Fr (sb :: ba :: ((Value.slice pa ah.length ca).ownBlock).toList) w ((w2.setCell ⟨sb, q, none⟩ (.bool true)).alloc (.cells #[.int .i64 (q : Int)] 3)) := ((HF2.out.mono (S' := sb :: ba :: ((Value.slice pa ah.length ca).ownBlock).toList) (by simp)).trans (Fr.setCell (S := [sb]) w2 _ _ (by simp)) (fun b hb => by simp at hb; left; simp [hb])).trans (Fr.alloc [] _ _) (by simp)
        exact h1.trans (Fr.grown (S := ((Value.slice pa ah.length ca).ownBlock).toList) hgrow3 (fun k hk => by rw [hk]; simp)) (fun b hb => .inl (by simp [hb]))
      exact hF3.trans (Fr.setCell (S := [ba]) w3 _ _ (by simp)) (fun b hb => by simp at hb; left; simp [hb])
    · rcases hat3 with h1 | h1
      · exact .inl (by rw [h1]; rfl)
      · exact .inr ⟨g, rfl, by omega⟩
  go_wp2_with fail
  go_end0
  exact ⟨rfl, HE.out⟩
/-- one word met: what was reached, and what is still ahead -/
def seen1 (H : HS) (s : List Nat × List Nat) (z : Int) : List Nat × List Nat := if namesB H z = true ∧ (z / 4).toNat ∉ s.1 then (s.1 ++ [(z / 4).toNat], s.2 ++ [(z / 4).toNat]) else s
theorem meet_any (z : Int) (B : Nat) (a bh br ba : Nat) (ps : Option Addr) (n sc : Nat) (rs ah : List Nat) (av : Value) (l : Lay) (H : HS) (M : MS) (w : World) (h : Rep w a l H) (hi : Inv H M) (hT : Tab w) (hr : Rc B w a bh br ba ps n sc rs ah av) (hqn : namesB H z = true → 0 ≤ z / 4 ∧ (z / 4).toNat < n) (hn : n ≤ 1048576) (hal : ah.length ≤ 1048576) :
    Calls Tryd.prog 131 #[.int .i64 z, .pointer (some ⟨bh, 0, none⟩), .pointer (some ⟨br, 0, none⟩), .pointer (some ⟨ba, 0, none⟩)] w fun e w' => e = .returned (.tuple #[]) ∧ ∃ av', Rc B w' a bh br ba ps n sc (seen1 H (rs, ah) z).1 (seen1 H (rs, ah) z).2 av' ∧ Fr (touch ps ba av) w w' ∧ (av'.ownBlock = av.ownBlock ∨ ∃ g, av'.ownBlock = some g ∧ w.heap.size ≤ g) := by
  cases hz : namesB H z with
  | false =>
    have e : seen1 H (rs, ah) z = (rs, ah) := by unfold seen1; rw [if_neg (by simp [hz])]
    rw [e]
    refine (meet_no z B a bh br ba ps n sc rs ah av l H w h hT hr hz).mono ?_
    rintro e w' ⟨rfl, hf⟩
    exact ⟨rfl, av, hr.idle hf, hf.mono (by simp), .inl rfl⟩
  | true =>
    obtain ⟨h1, h2⟩ := hqn hz
    have hq : z / 4 = ((z / 4).toNat : Int) := by omega
    by_cases hm : (z / 4).toNat ∈ rs
    · have e : seen1 H (rs, ah) z = (rs, ah) := by unfold seen1; rw [if_neg (fun c => c.2 hm)]
      rw [e]
      refine (meet_old z _ B a bh br ba ps n sc rs ah av l H M w h hi hT hr hz hq h2 hn hm).mono ?_
      rintro e w' ⟨rfl, hf⟩
      exact ⟨rfl, av, hr.idle hf, hf.mono (by simp), .inl rfl⟩
    · have e : seen1 H (rs, ah) z = (rs ++ [(z / 4).toNat], ah ++ [(z / 4).toNat]) := by unfold seen1; rw [if_pos ⟨hz, hm⟩]
      rw [e]
      exact meet_new z _ B a bh br ba ps n sc rs ah av l H M w h hi hT hr hz hq h2 hn hm hal
end Go.Proofs.YtdkbnnhcjaibdaaDoor

