import Derived.Test.YtflgicdbbogllaaGreatDoorPG13HDoc1
set_option linter.unusedSimpArgs false
set_option linter.unusedVariables false
namespace Go.Proofs.YtflgicdbbogllaaGreatDoor
open Go.RowKit Tryz
open Value (int)
open IntKind (i64)
attribute [local go_sem ↓] wp_at_zero wp_at_succ
variable {B r : Nat} {R : RS} {w : World}
theorem kNM (x y : Int) (w : World) (hb : x < 0 ∨ 1048576 < x ∨ y < 0 ∨ 65536 < y) : Calls prog 12 #[int i64 x, int i64 y] w fun e w' => e = .returned (.tuple #[.pointer none, int i64 1]) ∧ w' = w := by
 have hb2 : x < 0 ∨ (0 ≤ x ∧ 1048576 < x) ∨ (0 ≤ x ∧ x ≤ 1048576 ∧ y < 0) ∨ (0 ≤ x ∧ x ≤ 1048576 ∧ 0 ≤ y ∧ 65536 < y) := by omega
 clear hb;rcases hb2 with h | ⟨h, h1⟩ | ⟨h, h1, h2⟩ | ⟨h, h1, h2, h3⟩
 all_goals
  go_enter func12, ntmps12
  go_wp2_with fail
  go_ret2
  exact ⟨rfl, rfl⟩
theorem kPd (x y : Nat) (w : World) (h1 : (x : Int) ≤ 1048576) (h2 : (y : Int) ≤ 65536) : Calls prog 12 #[int i64 x, int i64 y] w fun e w' => e = .returned (.tuple #[.pointer (some ⟨w.heap.size, 0, none⟩), int i64 0]) ∧ RRep w' 0 w.heap.size ⟨x, y, 0, 0, 0, [], .slice none 0 0⟩ ∧ Fr [] w w' := by
 have HE : Hid (RRep (w.alloc (.cells #[int i64 x, int i64 y, int i64 0, int i64 0, int i64 0, .slice none 0 0] 99)) 0 w.heap.size ⟨x, y, 0, 0, 0, [], .slice none 0 0⟩ ∧ Fr [] w (w.alloc (.cells #[int i64 x, int i64 y, int i64 0, int i64 0, int i64 0, .slice none 0 0] 99))) :=
  ⟨⟨jAH _, heap_alloc_new _ _, jAS _ _ _ _, fun o ho => by simp at ho⟩, Fr.alloc [] _ _⟩
 have k1 := ng x;have k2 := ng y;go_enter func12, ntmps12
 go_wp2_with fail
 go_ret2
 exact ⟨rfl, HE.out.1, HE.out.2⟩
theorem kLF (k : Int) (B r : Nat) (R : RS) (w : World) (h : RRep w B r R) (hk : isM k = false) : Calls prog 69 #[.pointer (some ⟨r, 0, none⟩), int i64 k] w fun e w' => e = .returned (int i64 1) ∧ w' = w := by
 have hb2 : k < 0 ∨ (0 ≤ k ∧ 1073741824 < k) := by have := of_decide_eq_false hk; omega
 clear hk;rcases hb2 with h1 | ⟨h1, h2⟩
 all_goals
  go_enter func69, ntmps69
  go_wp2_with fail
  go_ret
  exact ⟨rfl, rfl⟩
theorem RRep.ne111 (h : RRep w B r R) {e : TypeId} {s m : Nat} {v : Value} {xs : List Value} (h2 : w.ownsRow B e s v m xs) (hne : e ≠ 99) (g : Nat) (hg : v.ownBlock = some g) : g ≠ r := fun e2 => by
 obtain ⟨cur, hcur⟩ := kAw h2 hg;rw [e2, h.top] at hcur
 injection hcur with hc; injection hc with _ ht _
 exact hne ht.symm
theorem RRep.setTop (h : RRep w B r R) (i n : Nat) (R' : RS) (he : kDh R' = (kDh R).setIfInBounds i (I n)) (ho : R'.fE = R.fE) (hv : R'.ov = R.ov) : RRep (w.setCell ⟨r, i, none⟩ (I n)) B r R' := by
 refine ⟨h.lo, by rw [kAI h.top, he], ?_, ?_⟩
 ·rw [ho, hv];exact kAE h.row fun g hg => jAw _ _ _ _ (h.ne111 h.row (by decide) g hg)
 ·rw [ho];exact fun o ho => kAE (h.fB o ho) fun g hg => jAw _ _ _ _ (h.ne111 (h.fB o ho) (by decide) g hg)
theorem kKj (k : Nat) (B r : Nat) (R : RS) (w : World) (h : RRep w B r R) (hk : (k : Int) ≤ 1073741824) : Calls prog 69 #[.pointer (some ⟨r, 0, none⟩), int i64 k] w fun e w' => e = .returned (int i64 0) ∧ RRep w' B r { R with mark := k } ∧ Fr [r] w w' := by
 have k1 := ng k;have c2 : w.cell? ⟨r, 2, none⟩ = some (int i64 R.mark) := by rw [h.c]; rfl
 have f2 := kAD h.top 2;have HE : Hid (RRep (w.setCell ⟨r, 2, none⟩ (int i64 k)) B r { R with mark := k } ∧ Fr [r] w (w.setCell ⟨r, 2, none⟩ (int i64 k))) := ⟨h.setTop 2 k _ rfl rfl rfl, Fr.setCell _ _ _ (by simp)⟩;clear h;go_enter func69, ntmps69
 go_wp2_with fail
 go_ret
 exact ⟨rfl, HE.out.1, HE.out.2⟩
theorem kJO (B r : Nat) (R : RS) (w : World) (h : RRep w B r R) : Calls prog 64 #[.pointer (some ⟨r, 0, none⟩)] w fun e w' => e = .returned (int i64 R.mark) ∧ w' = w := by
 have c2 : w.cell? ⟨r, 2, none⟩ = some (int i64 R.mark) := by rw [h.c]; rfl
 clear h;go_enter func64, ntmps64
 go_wp2_with fail
 go_ret
 exact ⟨rfl, rfl⟩
theorem kDF (oop : Int) (B r : Nat) (R : RS) (w : World) (h : RRep w B r R) (hl : R.fE.length ≤ 1048576) (hn : RNo R oop) : Calls prog 106 #[.pointer (some ⟨r, 0, none⟩), int i64 oop] w fun e w' => e = .returned (int i64 (-1)) ∧ w' = w := by
 refine Calls.mono (kBN oop B r R w h hl) ?_;rintro e w' ⟨z, rfl, hz, hw⟩;rcases hz with ⟨k, hk, rfl, ho, -⟩ | ⟨rfl, hno⟩
 ·exact absurd ho (hn k hk)
 ·exact ⟨rfl, hw⟩
theorem kCX (oop : Int) (B r : Nat) (R : RS) (w : World) (h : RRep w B r R) (hl : R.fE.length ≤ 1048576) (hn : ¬ RNo R oop) : ∃ k, RIs R oop k ∧ Calls prog 106 #[.pointer (some ⟨r, 0, none⟩), int i64 oop] w fun e w' => e = .returned (int i64 k) ∧ w' = w := by
 have hex : ∃ k, RIs R oop k ∧ ∀ j, j < k → ((R.fE.getD j noRO).oop : Int) ≠ oop := by
  by_cases hc : ∃ k, RIs R oop k
  ·obtain ⟨k, hk⟩ := hc;clear hn
   induction k using Nat.strongRecOn with
   | _ k ih =>
    by_cases hj : ∃ j, j < k ∧ ((R.fE.getD j noRO).oop : Int) = oop
    ·obtain ⟨j, j1, j2⟩ := hj;exact ih j j1 ⟨by have := hk.1; omega, j2⟩
    ·exact ⟨k, hk, fun j j1 j2 => hj ⟨j, j1, j2⟩⟩
  ·exact absurd (fun j hj e => hc ⟨j, hj, e⟩) hn
 obtain ⟨k, hk, hmin⟩ := hex;refine ⟨k, hk, ?_⟩;refine Calls.mono (kBN oop B r R w h hl) ?_;rintro e w' ⟨z, rfl, hz, hw⟩;rcases hz with ⟨k', hk', rfl, ho, hm'⟩ | ⟨rfl, hno⟩
 ·have : k' = k := by
   rcases jBf k' k with h1 | h1 | h1
   ·exact absurd ho (hmin k' h1)
   ·exact h1
   ·exact absurd hk.2 (hm' k h1)
  rw [this];exact ⟨rfl, hw⟩
 ·exact absurd hk.2 (hno k hk.1)
theorem kNG (oop : Int) (B r : Nat) (R : RS) (w : World) (h : RRep w B r R) (hl : R.fE.length ≤ 1048576) (hn : RNo R oop) : Calls prog 85 #[.pointer (some ⟨r, 0, none⟩), int i64 oop] w fun e w' => e = .returned (.tuple #[int i64 0, int i64 0, int i64 20]) ∧ w' = w := by
 have HF := kAA (kDF oop B r R w h hl hn);clear h;go_enter func85, ntmps85
 go_wp2_with fail
 refine HF.out.mono ?_;rintro e w2 ⟨rfl, hw⟩;rw [hw];clear hw w2
 go_wp2_with fail
 refine bodyPost_ret (results_tmp3 rfl _ _ _) rfl ?_;exact ⟨rfl, rfl⟩
theorem rAt_no (oop i : Int) (B r : Nat) (R : RS) (w : World) (h : RRep w B r R) (hl : R.fE.length ≤ 1048576) (hn : RNo R oop) : Calls prog 56 #[.pointer (some ⟨r, 0, none⟩), int i64 oop, int i64 i] w fun e w' => e = .returned (.tuple #[int i64 0, int i64 20]) ∧ w' = w := by
 have HF := kAA (kDF oop B r R w h hl hn);clear h;go_enter func56, ntmps56
 go_wp2_with fail
 refine HF.out.mono ?_;rintro e w2 ⟨rfl, hw⟩;rw [hw];clear hw w2
 go_wp2_with fail
 go_ret2
 exact ⟨rfl, rfl⟩
theorem RRep.cells (h : RRep w B r R) {k : Nat} (hk : k < R.fE.length) : ∃ g c p5 c5, w.cell? ⟨r, 5, none⟩ = some (.slice (some ⟨g, 0, none⟩) R.fE.length c) ∧ w.cell? ⟨g, k * 6, none⟩ = some (int i64 ((R.fE.getD k noRO).oop : Int)) ∧ w.cell? ⟨g, k * 6 + 1, none⟩ = some (int i64 ((R.fE.getD k noRO).fmt : Int)) ∧ w.cell? ⟨g, k * 6 + 5, none⟩ = some (.slice p5 (R.fE.getD k noRO).fB.length c5) := by
 obtain ⟨g, c, hv, hc⟩ := h.at_ (by omega);obtain ⟨q0, q1, -, -, -, q5⟩ := hc k hk;obtain ⟨p5, c5, hv5⟩ := h.vIs k hk;rw [hv5] at q5;exact ⟨g, c, p5, c5, by rw [h.c, ← hv]; rfl, q0, q1, q5⟩
theorem kNg (oop i : Int) (B r : Nat) (R : RS) (w : World) (h : RRep w B r R) (hl : R.fE.length ≤ 1048576) (hn : ¬ RNo R oop) (hi : ∀ k, RIs R oop k → i < 0 ∨ ((R.fE.getD k noRO).fB.length : Int) ≤ i) : Calls prog 56 #[.pointer (some ⟨r, 0, none⟩), int i64 oop, int i64 i] w fun e w' => e = .returned (.tuple #[int i64 0, int i64 21]) ∧ w' = w := by
 obtain ⟨k, hk, hf⟩ := kCX oop B r R w h hl hn;obtain ⟨g, c, p5, c5, q, q0, q1, q5⟩ := h.cells hk.1;have hi2 := hi k hk;have k1 := ng k;have k2 : (k : Int) < R.fE.length := by have := hk.1; omega
 generalize (R.fE.getD k noRO).fB.length = sn at *;have hi3 : i < 0 ∨ (0 ≤ i ∧ (sn : Int) ≤ i) := by omega
 have HF := kAA hf;clear h hi hi2 hf hk q0 q1;rcases hi3 with h1 | ⟨h1, h2⟩
 all_goals
  go_enter func56, ntmps56
  go_wp2_with fail
  refine HF.out.mono ?_;rintro e w2 ⟨rfl, hw⟩;rw [hw];clear hw w2
  go_wp2_with fail
  go_ret2
  exact ⟨rfl, rfl⟩
theorem kOj (oop i x : Int) (B r : Nat) (R : RS) (w : World) (h : RRep w B r R) (hl : R.fE.length ≤ 1048576) (hn : RNo R oop) : Calls prog 52 #[.pointer (some ⟨r, 0, none⟩), int i64 oop, int i64 i, int i64 x] w fun e w' => e = .returned (int i64 20) ∧ w' = w := by
 have HF := kAA (kDF oop B r R w h hl hn);clear h;go_enter func52, ntmps52
 go_wp2_with fail
 refine HF.out.mono ?_;rintro e w2 ⟨rfl, hw⟩;rw [hw];clear hw w2
 go_wp2_with fail
 go_ret
 exact ⟨rfl, rfl⟩
theorem kKa (oop i x : Int) (B r : Nat) (R : RS) (w : World) (h : RRep w B r R) (hl : R.fE.length ≤ 1048576) (hn : ¬ RNo R oop) (hi : ∀ k, RIs R oop k → i < 0 ∨ ((R.fE.getD k noRO).fB.length : Int) ≤ i) : Calls prog 52 #[.pointer (some ⟨r, 0, none⟩), int i64 oop, int i64 i, int i64 x] w fun e w' => e = .returned (int i64 21) ∧ w' = w := by
 obtain ⟨k, hk, hf⟩ := kCX oop B r R w h hl hn;obtain ⟨g, c, p5, c5, q, q0, q1, q5⟩ := h.cells hk.1;have hi2 := hi k hk;have k1 := ng k;have k2 : (k : Int) < R.fE.length := by have := hk.1; omega
 generalize (R.fE.getD k noRO).fB.length = sn at *;have hi3 : i < 0 ∨ (0 ≤ i ∧ (sn : Int) ≤ i) := by omega
 have HF := kAA hf;clear h hi hi2 hf hk q0 q1;rcases hi3 with h1 | ⟨h1, h2⟩
 all_goals
  go_enter func52, ntmps52
  go_wp2_with fail
  refine HF.out.mono ?_;rintro e w2 ⟨rfl, hw⟩;rw [hw];clear hw w2
  go_wp2_with fail
  go_ret
  exact ⟨rfl, rfl⟩
theorem kLQ (oop : Int) (i : Nat) (x : Int) (B r : Nat) (R : RS) (w : World) (h : RRep w B r R) (hl : R.fE.length ≤ 1048576) (hn : ¬ RNo R oop) (hi : ∀ k, RIs R oop k → i < (R.fE.getD k noRO).fB.length ∧ mayB x ((R.fE.getD k noRO).fmt : Int) = false) : Calls prog 52 #[.pointer (some ⟨r, 0, none⟩), int i64 oop, int i64 i, int i64 x] w fun e w' => e = .returned (int i64 10) ∧ w' = w := by
 obtain ⟨k, hk, hf⟩ := kCX oop B r R w h hl hn;obtain ⟨g, c, p5, c5, q, q0, q1, q5⟩ := h.cells hk.1;obtain ⟨hi1, hi2⟩ := hi k hk;have k1 := ng k;have k2 : (k : Int) < R.fE.length := by have := hk.1; omega
 have hM := fun V => kDm x ((R.fE.getD k noRO).fmt : Int) V
 rw [hi2] at hM;have HM := kAA hM;generalize (R.fE.getD k noRO).fmt = fm at *;generalize (R.fE.getD k noRO).fB.length = sn at *;have j1 := ng i;have j2 : (i : Int) < sn := by omega
 have HF := kAA hf;clear h hi hi1 hi2 hf hk q0 hM;go_enter func52, ntmps52
 go_wp2_with fail
 refine HF.out.mono ?_;rintro e w2 ⟨rfl, hw⟩;rw [hw];clear hw w2
 go_wp2_with (go_at_call 107; refine Calls.mono (HM.out _) ?_; rintro e w1 ⟨rfl, hw1⟩; rw [hw1]; clear hw1 w1)
 go_ret
 exact ⟨rfl, rfl⟩
theorem kNZ (x y : Int) (B r : Nat) (R : RS) (w : World) (h : RRep w B r R) (hl : R.fE.length ≤ 1048576) (hn : RNo R x ∨ RNo R y) : Calls prog 73 #[.pointer (some ⟨r, 0, none⟩), int i64 x, int i64 y] w fun e w' => e = .returned (int i64 20) ∧ w' = w := by
 have HX := kAA (kBN x B r R w h hl);have HY := kAA (kBN y B r R w h hl);have HN := kAA hn;clear h hn;go_enter func73, ntmps73
 go_wp2_with fail
 refine HX.out.mono ?_;rintro e w2 ⟨zx, rfl, hzx, hw⟩;rw [hw];clear hw w2
 go_wp2_with fail
 refine HY.out.mono ?_;rintro e w2 ⟨zy, rfl, hzy, hw⟩;rw [hw];clear hw w2
 have hneg : zx < 0 ∨ (0 ≤ zx ∧ zy < 0) := by
  rcases hzx with ⟨k, hk, rfl, ho, -⟩ | ⟨rfl, -⟩
  ·right
   refine ⟨by omega, ?_⟩;rcases hzy with ⟨k', hk', rfl, ho', -⟩ | ⟨rfl, -⟩
   ·rcases HN.out with h1 | h1
    ·exact absurd ho (h1 k hk)
    ·exact absurd ho' (h1 k' hk')
   ·omega
  ·left; omega
 clear hzx hzy HX HY HN;rcases hneg with h1 | ⟨h1, h2⟩
 all_goals
  go_wp2_with fail
  go_ret
  exact ⟨rfl, rfl⟩
end Go.Proofs.YtflgicdbbogllaaGreatDoor
