import Derived.Test.YtklfnjlenbgmoaaDoorPG18RKeepP
set_option linter.unusedVariables false
namespace Go.Proofs.YtklfnjlenbgmoaaDoor
open Go.RowKit
attribute [local go_sem ↓] Go.wp_at_zero Go.wp_at_succ
theorem rNew_bad (x y : Int) (w : World) (hb : x < 0 ∨ 1048576 < x ∨ y < 0 ∨ 65536 < y) : Calls Tryd.prog 38 #[.int .i64 x, .int .i64 y] w fun e w' => e = .returned (.tuple #[.pointer none, .int .i64 1]) ∧ w' = w := by
 have hb2 : x < 0 ∨ (0 ≤ x ∧ 1048576 < x) ∨ (0 ≤ x ∧ x ≤ 1048576 ∧ y < 0) ∨ (0 ≤ x ∧ x ≤ 1048576 ∧ 0 ≤ y ∧ 65536 < y) := by omega
 clear hb
 rcases hb2 with h | ⟨h, h1⟩ | ⟨h, h1, h2⟩ | ⟨h, h1, h2, h3⟩
 all_goals
  go_enter Tryd.func38, Tryd.ntmps38
  go_wp2_with fail
  go_ret2
  exact ⟨rfl, rfl⟩
theorem rNew_in (x y : Nat) (w : World) (h1 : (x : Int) ≤ 1048576) (h2 : (y : Int) ≤ 65536) : Calls Tryd.prog 38 #[.int .i64 x, .int .i64 y] w fun e w' => e = .returned (.tuple #[.pointer (some ⟨w.heap.size, 0, none⟩), .int .i64 0]) ∧ RRep w' 0 w.heap.size ⟨x, y, 0, 0, 0, [], .slice none 0 0⟩ ∧ Fr [] w w' := by
 have HE : Hid (RRep (w.alloc (.cells #[.int .i64 (x : Int), .int .i64 (y : Int), .int .i64 0, .int .i64 0, .int .i64 0, .slice none 0 0] 111)) 0 w.heap.size ⟨x, y, 0, 0, 0, [], .slice none 0 0⟩ ∧ Fr [] w (w.alloc (.cells #[.int .i64 (x : Int), .int .i64 (y : Int), .int .i64 0, .int .i64 0, .int .i64 0, .slice none 0 0] 111))) :=
  ⟨⟨Nat.zero_le _, heap_alloc_new _ _, World.ownsRow_nil _ _ _ _, fun o ho => by simp at ho⟩, Fr.alloc [] _ _⟩
 have k1 : (0 : Int) ≤ (x : Int) := by omega
 have k2 : (0 : Int) ≤ (y : Int) := by omega
 go_enter Tryd.func38, Tryd.ntmps38
 go_wp2_with fail
 go_ret2
 exact ⟨rfl, HE.out.1, HE.out.2⟩
theorem rMarks_nil (k : Int) (w : World) : Calls Tryd.prog 78 #[.pointer none, .int .i64 k] w fun e w' => e = .returned (.int .i64 2) ∧ w' = w := by
 go_enter Tryd.func78, Tryd.ntmps78
 go_wp2_with fail
 go_ret
 exact ⟨rfl, rfl⟩
theorem rMarks_no (k : Int) (B r : Nat) (R : RS) (w : World) (h : RRep w B r R) (hk : isM k = false) : Calls Tryd.prog 78 #[.pointer (some ⟨r, 0, none⟩), .int .i64 k] w fun e w' => e = .returned (.int .i64 1) ∧ w' = w := by
 have hb2 : k < 0 ∨ (0 ≤ k ∧ 1073741824 < k) := by have := of_decide_eq_false hk; omega
 clear hk
 rcases hb2 with h1 | ⟨h1, h2⟩
 all_goals
  go_enter Tryd.func78, Tryd.ntmps78
  go_wp2_with fail
  go_ret
  exact ⟨rfl, rfl⟩
theorem RRep.ne111 {w : World} {B r : Nat} {R : RS} (h : RRep w B r R) {e : TypeId} {s m : Nat} {v : Value} {xs : List Value} (h2 : w.ownsRow B e s v m xs) (hne : e ≠ 111) (g : Nat) (hg : v.ownBlock = some g) : g ≠ r := fun e2 => by
 obtain ⟨cur, hcur⟩ := row_block h2 hg
 rw [e2, h.top] at hcur
 injection hcur with hc; injection hc with _ ht _
 exact hne ht.symm
theorem RRep.setTop {w : World} {B r : Nat} {R : RS} (h : RRep w B r R) (i n : Nat) (R' : RS) (he : rcells R' = (rcells R).setIfInBounds i (I n)) (ho : R'.objs = R.objs) (hv : R'.ov = R.ov) : RRep (w.setCell ⟨r, i, none⟩ (I n)) B r R' := by
 refine ⟨h.lo, by rw [set_in h.top, he], ?_, ?_⟩
 ·rw [ho, hv]
  exact own_congr h.row fun g hg => Below.heap_setCell _ _ _ _ (h.ne111 h.row (by decide) g hg)
 ·rw [ho]
  exact fun o ho => own_congr (h.slots o ho) fun g hg => Below.heap_setCell _ _ _ _ (h.ne111 (h.slots o ho) (by decide) g hg)
theorem rMarks_in (k : Nat) (B r : Nat) (R : RS) (w : World) (h : RRep w B r R) (hk : (k : Int) ≤ 1073741824) : Calls Tryd.prog 78 #[.pointer (some ⟨r, 0, none⟩), .int .i64 k] w fun e w' => e = .returned (.int .i64 0) ∧ RRep w' B r { R with mark := k } ∧ Fr [r] w w' := by
 have k1 : (0 : Int) ≤ (k : Int) := by omega
 have c2 : w.cell? ⟨r, 2, none⟩ = some (.int .i64 (R.mark : Int)) := by rw [h.c]; rfl
 have f2 := frozen_in h.top 2
 have HE : Hid (RRep (w.setCell ⟨r, 2, none⟩ (.int .i64 (k : Int))) B r { R with mark := k } ∧ Fr [r] w (w.setCell ⟨r, 2, none⟩ (.int .i64 (k : Int)))) := ⟨h.setTop 2 k _ rfl rfl rfl, Fr.setCell _ _ _ (by simp)⟩
 clear h
 go_enter Tryd.func78, Tryd.ntmps78
 go_wp2_with fail
 go_ret
 exact ⟨rfl, HE.out.1, HE.out.2⟩
theorem rMarked_nil (w : World) : Calls Tryd.prog 90 #[.pointer none] w fun e w' => e = .returned (.int .i64 0) ∧ w' = w := by
 go_enter Tryd.func90, Tryd.ntmps90
 go_wp2_with fail
 go_ret
 exact ⟨rfl, rfl⟩
theorem rMarked_ok (B r : Nat) (R : RS) (w : World) (h : RRep w B r R) : Calls Tryd.prog 90 #[.pointer (some ⟨r, 0, none⟩)] w fun e w' => e = .returned (.int .i64 (R.mark : Int)) ∧ w' = w := by
 have c2 : w.cell? ⟨r, 2, none⟩ = some (.int .i64 (R.mark : Int)) := by rw [h.c]; rfl
 clear h
 go_enter Tryd.func90, Tryd.ntmps90
 go_wp2_with fail
 go_ret
 exact ⟨rfl, rfl⟩
theorem rfind_no (oop : Int) (B r : Nat) (R : RS) (w : World) (h : RRep w B r R) (hl : R.objs.length ≤ 1048576) (hn : RNo R oop) : Calls Tryd.prog 55 #[.pointer (some ⟨r, 0, none⟩), .int .i64 oop] w fun e w' => e = .returned (.int .i64 (-1)) ∧ w' = w := by
 refine Calls.mono (find_any oop B r R w h hl) ?_
 rintro e w' ⟨z, rfl, hz, hw⟩
 rcases hz with ⟨k, hk, rfl, ho, -⟩ | ⟨rfl, hno⟩
 ·exact absurd ho (hn k hk)
 ·exact ⟨rfl, hw⟩
theorem rfind_yes (oop : Int) (B r : Nat) (R : RS) (w : World) (h : RRep w B r R) (hl : R.objs.length ≤ 1048576) (hn : ¬ RNo R oop) : ∃ k, RIs R oop k ∧ Calls Tryd.prog 55 #[.pointer (some ⟨r, 0, none⟩), .int .i64 oop] w fun e w' => e = .returned (.int .i64 (k : Int)) ∧ w' = w := by
 have hex : ∃ k, RIs R oop k ∧ ∀ j, j < k → ((R.objs.getD j noRO).oop : Int) ≠ oop := by
  by_cases hc : ∃ k, RIs R oop k
  ·obtain ⟨k, hk⟩ := hc
   clear hn
   induction k using Nat.strongRecOn with
   | _ k ih =>
    by_cases hj : ∃ j, j < k ∧ ((R.objs.getD j noRO).oop : Int) = oop
    ·obtain ⟨j, j1, j2⟩ := hj
     exact ih j j1 ⟨by have := hk.1; omega, j2⟩
    ·exact ⟨k, hk, fun j j1 j2 => hj ⟨j, j1, j2⟩⟩
  ·exact absurd (fun j hj e => hc ⟨j, hj, e⟩) hn
 obtain ⟨k, hk, hmin⟩ := hex
 refine ⟨k, hk, ?_⟩
 refine Calls.mono (find_any oop B r R w h hl) ?_
 rintro e w' ⟨z, rfl, hz, hw⟩
 rcases hz with ⟨k', hk', rfl, ho, hm'⟩ | ⟨rfl, hno⟩
 ·have : k' = k := by
   rcases Nat.lt_trichotomy k' k with h1 | h1 | h1
   ·exact absurd ho (hmin k' h1)
   ·exact h1
   ·exact absurd hk.2 (hm' k h1)
  rw [this]
  exact ⟨rfl, hw⟩
 ·exact absurd hk.2 (hno k hk.1)
theorem rSize_no (oop : Int) (B r : Nat) (R : RS) (w : World) (h : RRep w B r R) (hl : R.objs.length ≤ 1048576) (hn : RNo R oop) : Calls Tryd.prog 82 #[.pointer (some ⟨r, 0, none⟩), .int .i64 oop] w fun e w' => e = .returned (.tuple #[.int .i64 0, .int .i64 0, .int .i64 20]) ∧ w' = w := by
 have HF := mkHid (rfind_no oop B r R w h hl hn)
 clear h
 go_enter Tryd.func82, Tryd.ntmps82
 go_wp2_with fail
 refine Calls.mono HF.out ?_
 rintro e w2 ⟨rfl, hw⟩
 rw [hw]
 clear hw w2
 go_wp2_with fail
 refine bodyPost_ret (results_tmp3 rfl _ _ _) rfl ?_
 exact ⟨rfl, rfl⟩
theorem rAt_no (oop i : Int) (B r : Nat) (R : RS) (w : World) (h : RRep w B r R) (hl : R.objs.length ≤ 1048576) (hn : RNo R oop) : Calls Tryd.prog 84 #[.pointer (some ⟨r, 0, none⟩), .int .i64 oop, .int .i64 i] w fun e w' => e = .returned (.tuple #[.int .i64 0, .int .i64 20]) ∧ w' = w := by
 have HF := mkHid (rfind_no oop B r R w h hl hn)
 clear h
 go_enter Tryd.func84, Tryd.ntmps84
 go_wp2_with fail
 refine Calls.mono HF.out ?_
 rintro e w2 ⟨rfl, hw⟩
 rw [hw]
 clear hw w2
 go_wp2_with fail
 go_ret2
 exact ⟨rfl, rfl⟩
theorem RRep.cells {w : World} {B r : Nat} {R : RS} (h : RRep w B r R) {k : Nat} (hk : k < R.objs.length) : ∃ g c p5 c5, w.cell? ⟨r, 5, none⟩ = some (.slice (some ⟨g, 0, none⟩) R.objs.length c) ∧ w.cell? ⟨g, k * 6, none⟩ = some (.int .i64 ((R.objs.getD k noRO).oop : Int)) ∧ w.cell? ⟨g, k * 6 + 1, none⟩ = some (.int .i64 ((R.objs.getD k noRO).fmt : Int)) ∧ w.cell? ⟨g, k * 6 + 5, none⟩ = some (.slice p5 (R.objs.getD k noRO).slots.length c5) := by
 obtain ⟨g, c, hv, hc⟩ := h.at_ (by omega)
 obtain ⟨q0, q1, -, -, -, q5⟩ := hc k hk
 obtain ⟨p5, c5, hv5⟩ := h.vIs k hk
 rw [hv5] at q5
 exact ⟨g, c, p5, c5, by rw [h.c, ← hv]; rfl, q0, q1, q5⟩
theorem rAt_slot (oop i : Int) (B r : Nat) (R : RS) (w : World) (h : RRep w B r R) (hl : R.objs.length ≤ 1048576) (hn : ¬ RNo R oop) (hi : ∀ k, RIs R oop k → i < 0 ∨ ((R.objs.getD k noRO).slots.length : Int) ≤ i) : Calls Tryd.prog 84 #[.pointer (some ⟨r, 0, none⟩), .int .i64 oop, .int .i64 i] w fun e w' => e = .returned (.tuple #[.int .i64 0, .int .i64 21]) ∧ w' = w := by
 obtain ⟨k, hk, hf⟩ := rfind_yes oop B r R w h hl hn
 obtain ⟨g, c, p5, c5, q, q0, q1, q5⟩ := h.cells hk.1
 have hi2 := hi k hk
 have k1 : (0 : Int) ≤ (k : Int) := by omega
 have k2 : (k : Int) < (R.objs.length : Int) := by have := hk.1; omega
 generalize (R.objs.getD k noRO).slots.length = sn at *
 have hi3 : i < 0 ∨ (0 ≤ i ∧ (sn : Int) ≤ i) := by omega
 have HF := mkHid hf
 clear h hi hi2 hf hk q0 q1
 rcases hi3 with h1 | ⟨h1, h2⟩
 all_goals
  go_enter Tryd.func84, Tryd.ntmps84
  go_wp2_with fail
  refine Calls.mono HF.out ?_
  rintro e w2 ⟨rfl, hw⟩
  rw [hw]
  clear hw w2
  go_wp2_with fail
  go_ret2
  exact ⟨rfl, rfl⟩
theorem rSetClass_no (oop x : Int) (B r : Nat) (R : RS) (w : World) (h : RRep w B r R) (hl : R.objs.length ≤ 1048576) (hn : RNo R oop) : Calls Tryd.prog 83 #[.pointer (some ⟨r, 0, none⟩), .int .i64 oop, .int .i64 x] w fun e w' => e = .returned (.int .i64 20) ∧ w' = w := by
 have HF := mkHid (rfind_no oop B r R w h hl hn)
 clear h
 go_enter Tryd.func83, Tryd.ntmps83
 go_wp2_with fail
 refine Calls.mono HF.out ?_
 rintro e w2 ⟨rfl, hw⟩
 rw [hw]
 clear hw w2
 go_wp2_with fail
 go_ret
 exact ⟨rfl, rfl⟩
theorem rSetClass_word (oop x : Int) (B r : Nat) (R : RS) (w : World) (h : RRep w B r R) (hl : R.objs.length ≤ 1048576) (hn : ¬ RNo R oop) (hx : isW x = false) : Calls Tryd.prog 83 #[.pointer (some ⟨r, 0, none⟩), .int .i64 oop, .int .i64 x] w fun e w' => e = .returned (.int .i64 10) ∧ w' = w := by
 obtain ⟨k, hk, hf⟩ := rfind_yes oop B r R w h hl hn
 have HF := mkHid hf
 have hK := rKind_any x
 have hK0 : kindOf x = 0 := by unfold isW at hx; simpa using hx
 rw [hK0] at hK
 have HK := mkHid hK
 have k1 : (0 : Int) ≤ (k : Int) := by omega
 clear h hf hk hK hK0 hx
 go_enter Tryd.func83, Tryd.ntmps83
 go_wp2_with fail
 refine Calls.mono HF.out ?_
 rintro e w2 ⟨rfl, hw⟩
 rw [hw]
 clear hw w2
 go_wp2_with (go_at_call 56; refine Calls.mono (HK.out _) ?_; rintro e w1 ⟨rfl, hw1⟩; rw [hw1]; clear hw1 w1)
 go_ret
 exact ⟨rfl, rfl⟩
theorem rPut_no (oop i x : Int) (B r : Nat) (R : RS) (w : World) (h : RRep w B r R) (hl : R.objs.length ≤ 1048576) (hn : RNo R oop) : Calls Tryd.prog 85 #[.pointer (some ⟨r, 0, none⟩), .int .i64 oop, .int .i64 i, .int .i64 x] w fun e w' => e = .returned (.int .i64 20) ∧ w' = w := by
 have HF := mkHid (rfind_no oop B r R w h hl hn)
 clear h
 go_enter Tryd.func85, Tryd.ntmps85
 go_wp2_with fail
 refine Calls.mono HF.out ?_
 rintro e w2 ⟨rfl, hw⟩
 rw [hw]
 clear hw w2
 go_wp2_with fail
 go_ret
 exact ⟨rfl, rfl⟩
theorem rPut_slot (oop i x : Int) (B r : Nat) (R : RS) (w : World) (h : RRep w B r R) (hl : R.objs.length ≤ 1048576) (hn : ¬ RNo R oop) (hi : ∀ k, RIs R oop k → i < 0 ∨ ((R.objs.getD k noRO).slots.length : Int) ≤ i) : Calls Tryd.prog 85 #[.pointer (some ⟨r, 0, none⟩), .int .i64 oop, .int .i64 i, .int .i64 x] w fun e w' => e = .returned (.int .i64 21) ∧ w' = w := by
 obtain ⟨k, hk, hf⟩ := rfind_yes oop B r R w h hl hn
 obtain ⟨g, c, p5, c5, q, q0, q1, q5⟩ := h.cells hk.1
 have hi2 := hi k hk
 have k1 : (0 : Int) ≤ (k : Int) := by omega
 have k2 : (k : Int) < (R.objs.length : Int) := by have := hk.1; omega
 generalize (R.objs.getD k noRO).slots.length = sn at *
 have hi3 : i < 0 ∨ (0 ≤ i ∧ (sn : Int) ≤ i) := by omega
 have HF := mkHid hf
 clear h hi hi2 hf hk q0 q1
 rcases hi3 with h1 | ⟨h1, h2⟩
 all_goals
  go_enter Tryd.func85, Tryd.ntmps85
  go_wp2_with fail
  refine Calls.mono HF.out ?_
  rintro e w2 ⟨rfl, hw⟩
  rw [hw]
  clear hw w2
  go_wp2_with fail
  go_ret
  exact ⟨rfl, rfl⟩
theorem rPut_word (oop : Int) (i : Nat) (x : Int) (B r : Nat) (R : RS) (w : World) (h : RRep w B r R) (hl : R.objs.length ≤ 1048576) (hn : ¬ RNo R oop) (hi : ∀ k, RIs R oop k → i < (R.objs.getD k noRO).slots.length ∧ mayB x ((R.objs.getD k noRO).fmt : Int) = false) : Calls Tryd.prog 85 #[.pointer (some ⟨r, 0, none⟩), .int .i64 oop, .int .i64 i, .int .i64 x] w fun e w' => e = .returned (.int .i64 10) ∧ w' = w := by
 obtain ⟨k, hk, hf⟩ := rfind_yes oop B r R w h hl hn
 obtain ⟨g, c, p5, c5, q, q0, q1, q5⟩ := h.cells hk.1
 obtain ⟨hi1, hi2⟩ := hi k hk
 have k1 : (0 : Int) ≤ (k : Int) := by omega
 have k2 : (k : Int) < (R.objs.length : Int) := by have := hk.1; omega
 have hM := fun V => rmay_any x ((R.objs.getD k noRO).fmt : Int) V
 rw [hi2] at hM
 have HM := mkHid hM
 generalize (R.objs.getD k noRO).fmt = fm at *
 generalize (R.objs.getD k noRO).slots.length = sn at *
 have j1 : (0 : Int) ≤ (i : Int) := by omega
 have j2 : (i : Int) < (sn : Int) := by omega
 have HF := mkHid hf
 clear h hi hi1 hi2 hf hk q0 hM
 go_enter Tryd.func85, Tryd.ntmps85
 go_wp2_with fail
 refine Calls.mono HF.out ?_
 rintro e w2 ⟨rfl, hw⟩
 rw [hw]
 clear hw w2
 go_wp2_with (go_at_call 57; refine Calls.mono (HM.out _) ?_; rintro e w1 ⟨rfl, hw1⟩; rw [hw1]; clear hw1 w1)
 go_ret
 exact ⟨rfl, rfl⟩
theorem rExch_no (x y : Int) (B r : Nat) (R : RS) (w : World) (h : RRep w B r R) (hl : R.objs.length ≤ 1048576) (hn : RNo R x ∨ RNo R y) : Calls Tryd.prog 86 #[.pointer (some ⟨r, 0, none⟩), .int .i64 x, .int .i64 y] w fun e w' => e = .returned (.int .i64 20) ∧ w' = w := by
 have HX := mkHid (find_any x B r R w h hl)
 have HY := mkHid (find_any y B r R w h hl)
 have HN := mkHid hn
 clear h hn
 go_enter Tryd.func86, Tryd.ntmps86
 go_wp2_with fail
 refine Calls.mono HX.out ?_
 rintro e w2 ⟨zx, rfl, hzx, hw⟩
 rw [hw]
 clear hw w2
 go_wp2_with fail
 refine Calls.mono HY.out ?_
 rintro e w2 ⟨zy, rfl, hzy, hw⟩
 rw [hw]
 clear hw w2
 have hneg : zx < 0 ∨ (0 ≤ zx ∧ zy < 0) := by
  rcases hzx with ⟨k, hk, rfl, ho, -⟩ | ⟨rfl, -⟩
  ·right
   refine ⟨by omega, ?_⟩
   rcases hzy with ⟨k', hk', rfl, ho', -⟩ | ⟨rfl, -⟩
   ·rcases HN.out with h1 | h1
    ·exact absurd ho (h1 k hk)
    ·exact absurd ho' (h1 k' hk')
   ·omega
  ·left; omega
 clear hzx hzy HX HY HN
 rcases hneg with h1 | ⟨h1, h2⟩
 all_goals
  go_wp2_with fail
  go_ret
  exact ⟨rfl, rfl⟩
end Go.Proofs.YtklfnjlenbgmoaaDoor
