import Derived.Test.YtklfnjlenbgmoaaDoorPG13HAg1
import Derived.Test.YtklfnjlenbgmoaaDoorPG17HRefP
import Derived.Test.YtklfnjlenbgmoaaDoorPG15HLoadW
import Derived.BigQuiet
import Derived.Deep.RegionHeld3
set_option linter.unusedSimpArgs false
set_option linter.unusedVariables false
namespace Go.Proofs.YtklfnjlenbgmoaaDoor
open Go.RowKit
def plO (S : List Th) (o : Nat) : Nat := (S.getD (o - 1) noTh).place
def lnO (S : List Th) (o : Nat) : Nat := lenN (S.getD (o - 1) noTh).slots.length (S.getD (o - 1) noTh).fmt
def liveO (H : HS) : List Nat := H.order.filter (fun o => o != 0)
theorem InvV.live {H : HS} {M : MS} (h : InvV H M) (x : Nat) : x ∈ liveO H ↔ 1 ≤ x ∧ (M.things.getD (x - 1) noTh).there = true := by
 unfold liveO
 rw [List.mem_filter]
 constructor
 ·rintro ⟨h1, h2⟩
  have hx : x ≠ 0 := by simpa using h2
  obtain ⟨j, hj, e⟩ := List.mem_iff_getElem.1 h1
  have e2 : H.order.getD j 0 = x := by rw [List.getD_eq_getElem?_getD, List.getElem?_eq_getElem hj]; exact e
  have := h.order j hj (by rw [e2]; exact hx)
  rw [e2] at this
  exact ⟨by omega, this.2.1⟩
 ·rintro ⟨h1, h2⟩
  obtain ⟨t1, t2⟩ := h.turn (x - 1) (th_in h2) h2
  refine ⟨?_, by simp; omega⟩
  rw [show x - 1 + 1 = x from by omega] at t1 t2
  rw [List.getD_eq_getElem?_getD, List.getElem?_eq_getElem t1] at t2
  have t3 : H.order[(H.seats.getD x (0, 0, 0)).2.2] = x := t2
  rw [← t3]
  exact List.getElem_mem t1
theorem InvV.liveIn {H : HS} {M : MS} (h : InvV H M) (x : Nat) (hx : x ∈ liveO H) : ∃ i, x = i + 1 ∧ i < M.things.length ∧ (M.things.getD i noTh).there = true ∧ (H.seats.getD x (0, 0, 0)).1 = plO M.things x ∧ (H.seats.getD x (0, 0, 0)).2.1 = lnO M.things x ∧ plO M.things x + lnO M.things x ≤ H.mem.length := by
 obtain ⟨h1, h2⟩ := (h.live x).1 hx
 have hi := th_in h2
 obtain ⟨s1, s2⟩ := h.seat (x - 1) hi h2
 have hr := (h.is (x - 1) hi h2).room
 rw [show x - 1 + 1 = x from by omega] at s1 s2 hr
 refine ⟨x - 1, by omega, hi, h2, s1, s2, ?_⟩
 unfold plO lnO
 rw [s1] at hr
 exact hr
theorem InvV.lives {H : HS} {M : MS} (h : InvV H M) : (liveO H).Pairwise (fun x y => plO M.things x + lnO M.things x ≤ plO M.things y) := by
 have h1 : H.order.Pairwise (fun x y => x ≠ 0 → y ≠ 0 → (H.seats.getD x (0, 0, 0)).1 + (H.seats.getD x (0, 0, 0)).2.1 ≤ (H.seats.getD y (0, 0, 0)).1) := by
  rw [List.pairwise_iff_getElem]
  intro i j hi hj hij n1 n2
  have e1 : H.order.getD i 0 = H.order[i] := by rw [List.getD_eq_getElem?_getD, List.getElem?_eq_getElem hi]; rfl
  have e2 : H.order.getD j 0 = H.order[j] := by rw [List.getD_eq_getElem?_getD, List.getElem?_eq_getElem hj]; rfl
  have := h.rise i j hij hj (by rw [e1]; exact n1) (by rw [e2]; exact n2)
  rw [e1, e2] at this
  exact this
 have h2 : (liveO H).Pairwise _ := h1.filter (fun o => o != 0)
 refine h2.imp_of_mem (fun {x y} hx hy hr => ?_)
 obtain ⟨i, e1, -, -, p1, p2, -⟩ := h.liveIn x hx
 obtain ⟨j, e2, -, -, q1, q2, -⟩ := h.liveIn y hy
 have := hr (by omega) (by omega)
 rw [p1, p2, q1] at this
 exact this
theorem lnO_two (S : List Th) (o : Nat) : 2 ≤ lnO S o := lenN_two _ _
theorem rise_one (f : Nat → Nat) : ∀ a b : List Nat, a.Pairwise (fun x y => f x < f y) → b.Pairwise (fun x y => f x < f y) → (∀ x, x ∈ a ↔ x ∈ b) → a = b := by
 intro a
 induction a with
 | nil =>
  intro b _ _ h
  cases b with
  | nil => rfl
  | cons y t => exact absurd ((h y).2 (by simp)) (by simp)
 | cons x s ih =>
  intro b ha hb h
  cases b with
  | nil => exact absurd ((h x).1 (by simp)) (by simp)
  | cons y t =>
   obtain ⟨a1, a2⟩ := List.pairwise_cons.1 ha
   obtain ⟨b1, b2⟩ := List.pairwise_cons.1 hb
   have e : x = y := by
    rcases List.mem_cons.1 ((h x).1 (by simp)) with h1 | h1
    ·exact h1
    ·rcases List.mem_cons.1 ((h y).2 (by simp)) with h2 | h2
     ·exact h2.symm
     ·have := b1 x h1; have := a1 y h2; omega
   subst e
   rw [ih t a2 b2 (fun z => ?_)]
   constructor
   ·intro hz
    rcases List.mem_cons.1 ((h z).1 (List.mem_cons_of_mem _ hz)) with h1 | h1
    ·have := a1 z hz; rw [h1] at this; omega
    ·exact h1
   ·intro hz
    rcases List.mem_cons.1 ((h z).2 (List.mem_cons_of_mem _ hz)) with h1 | h1
    ·have := b1 z hz; rw [h1] at this; omega
    ·exact h1
def keyO (S : List Th) (o : Nat) : Nat × Int × Nat × List Int := (o, (S.getD (o - 1) noTh).cls, (S.getD (o - 1) noTh).fmt, (S.getD (o - 1) noTh).slots)
theorem stKeys_live (H : HS) (S : List Th) : stKeys H S H.order.length = (liveO H).map (keyO S) := by
 unfold stKeys liveO
 rw [List.take_length]
 rfl
def natKey2 (k : Nat × Int × Nat × List Int) : Key := ((k.1 : Int), k.2.1, (k.2.2.1 : Int), k.2.2.2)
def sumO (S : List Th) : List Nat → Nat
 | [] => 0
 | o :: t => lnO S o + sumO S t
theorem sumO_append (S : List Th) (a b : List Nat) : sumO S (a ++ b) = sumO S a + sumO S b := by
 induction a with
 | nil => simp [sumO]
 | cons x t ih => simp [sumO, ih]; omega
theorem endK_sum (S : List Th) : ∀ l : List Nat, endK ((l.map (keyO S)).map natKey2) = (sumO S l : Nat) := by
 intro l
 induction l with
 | nil => rfl
 | cons o t ih =>
  show lenOf _ _ + endK ((t.map (keyO S)).map natKey2) = ((lnO S o + sumO S t : Nat) : Int)
  rw [ih]
  show lenOf ((S.getD (o - 1) noTh).slots.length : Int) ((S.getD (o - 1) noTh).fmt : Int) + _ = _
  rw [lenOf_nat]
  unfold lnO
  omega
theorem sum_le (S : List Th) : ∀ (l : List Nat) (B : Nat), l.Pairwise (fun x y => plO S x + lnO S x ≤ plO S y) → (∀ x ∈ l, plO S x + lnO S x ≤ B) → sumO S l ≤ B := by
 intro l
 induction l with
 | nil => intro B _ _; exact Nat.zero_le _
 | cons x t ih =>
  intro B hp hB
  obtain ⟨a1, a2⟩ := List.pairwise_cons.1 hp
  have key : ∀ (t : List Nat) (x : Nat), (∀ y ∈ t, plO S x + lnO S x ≤ plO S y) → t.Pairwise (fun x y => plO S x + lnO S x ≤ plO S y) → (∀ y ∈ t, plO S y + lnO S y ≤ B) → plO S x + lnO S x ≤ B → plO S x + lnO S x + sumO S t ≤ B := by
   intro t
   induction t with
   | nil => intro x _ _ _ h; exact h
   | cons y t ih2 =>
    intro x h1 h2 h3 h4
    obtain ⟨b1, b2⟩ := List.pairwise_cons.1 h2
    have := ih2 y b1 b2 (fun z hz => h3 z (List.mem_cons_of_mem _ hz)) (h3 y (by simp))
    have := h1 y (by simp)
    show plO S x + lnO S x + (lnO S y + sumO S t) ≤ B
    omega
  have := key t x a1 a2 (fun y hy => hB y (List.mem_cons_of_mem _ hy)) (hB x (by simp))
  show lnO S x + sumO S t ≤ B
  omega
theorem sum_tail (S : List Th) (B : Nat) : ∀ (t : List Nat) (x : Nat), (x :: t).Pairwise (fun x y => plO S x + lnO S x ≤ plO S y) → (∀ y ∈ x :: t, plO S y + lnO S y ≤ B) → plO S x + sumO S (x :: t) ≤ B := by
 intro t
 induction t with
 | nil => intro x _ h; have := h x (by simp); show plO S x + (lnO S x + 0) ≤ B; omega
 | cons y t ih =>
  intro x hp hB
  obtain ⟨b1, b2⟩ := List.pairwise_cons.1 hp
  have := ih y b2 (fun z hz => hB z (List.mem_cons_of_mem _ hz))
  have := b1 y (by simp)
  show plO S x + (lnO S x + sumO S (y :: t)) ≤ B
  omega
theorem tight_sum (S : List Th) (l : List Nat) (hp : l.Pairwise (fun x y => plO S x + lnO S x ≤ plO S y)) (hB : ∀ x ∈ l, plO S x + lnO S x ≤ sumO S l) : ∀ a x b, l = a ++ x :: b → plO S x = sumO S a := by
 intro a x b e
 subst e
 obtain ⟨p1, p2, p3⟩ := List.pairwise_append.1 hp
 have h1 := sum_le S a (plO S x) p1 (fun y hy => p3 y hy x (by simp))
 have h2 := sum_tail S (sumO S (a ++ x :: b)) b x p2 (fun y hy => hB y (List.mem_append_right _ hy))
 rw [sumO_append] at h2
 omega
theorem cov_sum (S : List Th) (l : List Nat) (E : Nat) (hp : l.Pairwise (fun x y => plO S x + lnO S x ≤ plO S y)) (hE : ∀ x ∈ l, plO S x + lnO S x ≤ E) (hc : ∀ p, p < E → ∃ x ∈ l, plO S x ≤ p ∧ p < plO S x + lnO S x) : ∀ a x b, l = a ++ x :: b → plO S x = sumO S a := by
 have main : ∀ (n : Nat) (a : List Nat) (x : Nat) (b : List Nat), a.length = n → l = a ++ x :: b → plO S x = sumO S a ∧ ∀ y ∈ a, plO S y + lnO S y ≤ sumO S a := by
  intro n
  induction n with
  | zero =>
   intro a x b hn e
   have : a = [] := List.eq_nil_of_length_eq_zero hn
   subst this
   refine ⟨?_, by simp⟩
   subst e
   rw [List.nil_append] at hp hE hc
   obtain ⟨b1, b2⟩ := List.pairwise_cons.1 hp
   show plO S x = 0
   by_cases h0 : plO S x = 0
   ·exact h0
   ·have hx := hE x (by simp)
    have := lnO_two S x
    obtain ⟨z, hz, z1, z2⟩ := hc 0 (by omega)
    rcases List.mem_cons.1 hz with h | h
    ·rw [h] at z1; omega
    ·have := b1 z h; omega
  | succ n ih =>
   intro a x b hn e
   have hne : a ≠ [] := fun h => by rw [h] at hn; simp at hn
   obtain ⟨a', u, hu⟩ : ∃ a' u, a = a' ++ [u] := ⟨a.dropLast, a.getLast hne, (List.dropLast_concat_getLast hne).symm⟩
   subst hu
   have hn' : a'.length = n := by simpa using hn
   have e' : l = a' ++ u :: (x :: b) := by rw [e]; simp
   obtain ⟨i1, i2⟩ := ih a' u (x :: b) hn' e'
   have hs : sumO S (a' ++ [u]) = sumO S a' + lnO S u := by rw [sumO_append]; simp [sumO]
   have hmem : ∀ y ∈ a' ++ [u], plO S y + lnO S y ≤ sumO S (a' ++ [u]) := by
    intro y hy
    rw [hs]
    rcases List.mem_append.1 hy with h | h
    ·have := i2 y h; omega
    ·have : y = u := by simpa using h
     rw [this]; omega
   refine ⟨?_, hmem⟩
   rw [e] at hp
   obtain ⟨p1, p2, p3⟩ := List.pairwise_append.1 hp
   obtain ⟨q1, q2⟩ := List.pairwise_cons.1 p2
   have hux := p3 u (by simp) x (by simp)
   have hge : sumO S (a' ++ [u]) ≤ plO S x := by rw [hs]; omega
   have hx := hE x (by rw [e]; simp)
   have h2x := lnO_two S x
   obtain ⟨z, hz, z1, z2⟩ := hc (sumO S (a' ++ [u])) (by omega)
   rw [e] at hz
   rcases List.mem_append.1 hz with h | h
   ·have := hmem z h; omega
   ·rcases List.mem_cons.1 h with h3 | h3
    ·rw [h3] at z1; omega
    ·have := q1 z h3; omega
 exact fun a x b e => (main _ a x b rfl e).1
end Go.Proofs.YtklfnjlenbgmoaaDoor
namespace Go.Proofs.YtklfnjlenbgmoaaDoor
open Go.RowKit
attribute [local go_sem ↓] Go.wp_at_zero Go.wp_at_succ
set_option maxHeartbeats 1000000 in
theorem rRoom_nil (w : World) : Calls Tryd.prog 21 #[.pointer none] w fun e w' => e = .returned (.tuple #[.int .i64 0, .int .i64 0]) ∧ w' = w := by
 go_enter Tryd.func21, Tryd.ntmps21
 go_wp2_with fail
 go_ret2
 exact ⟨rfl, rfl⟩
set_option maxHeartbeats 1000000 in
theorem made_nil (w : World) : Calls Tryd.prog 44 #[.pointer none] w fun e w' => e = .returned (.bool false) ∧ w' = w := by
 go_enter Tryd.func44, Tryd.ntmps44
 go_wp2_with fail
 go_ret
 exact ⟨rfl, rfl⟩
set_option maxHeartbeats 1000000 in
theorem rState_nil (w : World) : Calls Tryd.prog 24 #[.pointer none] w fun e w' => e = .returned (.agg #[.int .i64 0, .int .i64 0, .int .i64 0, .slice none 0 0]) ∧ Fr [] w w' := by
 go_enter Tryd.func24, Tryd.ntmps24
 go_wp2_with fail
 have hB0 : (w.alloc (.cells #[.int .i64 0, .int .i64 0, .int .i64 0, .slice none 0 0] 38)).heap[w.heap.size]? = some (.cells #[.int .i64 0, .int .i64 0, .int .i64 0, .slice none 0 0] 38 (0, 0)) := heap_alloc_new _ _
 have F0 : Fr [] w (w.alloc (.cells #[.int .i64 0, .int .i64 0, .int .i64 0, .slice none 0 0] 38)) := Fr.alloc [] _ _
 generalize w.alloc (.cells #[.int .i64 0, .int .i64 0, .int .i64 0, .slice none 0 0] 38) = V at *
 have x0 : V.cell? ⟨w.heap.size, 0, none⟩ = some (.int .i64 0) := by rw [cell_in hB0]; rfl
 have x1 : V.cell? ⟨w.heap.size, 1, none⟩ = some (.int .i64 0) := by rw [cell_in hB0]; rfl
 have x2 : V.cell? ⟨w.heap.size, 2, none⟩ = some (.int .i64 0) := by rw [cell_in hB0]; rfl
 have x3 : V.cell? ⟨w.heap.size, 3, none⟩ = some (.slice none 0 0) := by rw [cell_in hB0]; rfl
 refine bodyPost_ret (v := .agg #[.int .i64 0, .int .i64 0, .int .i64 0, .slice none 0 0]) (by simp [results, Tryd.results24, go_sem, x0, x1, x2, x3]) rfl ?_
 exact ⟨rfl, F0⟩
def argBad (x y z : Int) : Prop := x < 0 ∨ 1048576 < x ∨ y < 0 ∨ 65536 < y ∨ z < 0 ∨ 1073741824 < z
set_option maxHeartbeats 2000000 in
theorem rLoad_bad (x y z : Int) (ov : Value) (w : World) (hb : argBad x y z) : Calls Tryd.prog 18 #[.agg #[.int .i64 x, .int .i64 y, .int .i64 z, ov]] w fun e w' => e = .returned (.tuple #[.pointer none, .int .i64 1]) ∧ Fr [] w w' := by
 by_cases a0 : x < 0
 ·go_enter Tryd.func18, Tryd.ntmps18
  go_wp2_with fail
  go_ret2
  exact ⟨rfl, Fr.alloc [] _ _⟩
 have a0 : 0 ≤ x := by omega
 by_cases a1 : 1048576 < x
 ·go_enter Tryd.func18, Tryd.ntmps18
  go_wp2_with fail
  go_ret2
  exact ⟨rfl, Fr.alloc [] _ _⟩
 have a1 : x ≤ 1048576 := by omega
 by_cases a2 : y < 0
 ·go_enter Tryd.func18, Tryd.ntmps18
  go_wp2_with fail
  go_ret2
  exact ⟨rfl, Fr.alloc [] _ _⟩
 have a2 : 0 ≤ y := by omega
 by_cases a3 : 65536 < y
 ·go_enter Tryd.func18, Tryd.ntmps18
  go_wp2_with fail
  go_ret2
  exact ⟨rfl, Fr.alloc [] _ _⟩
 have a3 : y ≤ 65536 := by omega
 by_cases a4 : z < 0
 ·go_enter Tryd.func18, Tryd.ntmps18
  go_wp2_with fail
  go_ret2
  exact ⟨rfl, Fr.alloc [] _ _⟩
 have a4 : 0 ≤ z := by omega
 have a5 : 1073741824 < z := by unfold argBad at hb; omega
 go_enter Tryd.func18, Tryd.ntmps18
 go_wp2_with fail
 go_ret2
 exact ⟨rfl, Fr.alloc [] _ _⟩
set_option maxHeartbeats 1000000 in
theorem New_bad (x y : Int) (w : World) (hb : x < 0 ∨ 1048576 < x ∨ y < 0 ∨ 65536 < y) : Calls Tryd.prog 10 #[.int .i64 x, .int .i64 y] w fun e w' => e = .returned (.tuple #[.pointer none, .int .i64 1]) ∧ w' = w := by
 by_cases a0 : x < 0
 ·go_enter Tryd.func10, Tryd.ntmps10
  go_wp2_with fail
  go_ret2
  exact ⟨rfl, rfl⟩
 have a0 : 0 ≤ x := by omega
 by_cases a1 : 1048576 < x
 ·go_enter Tryd.func10, Tryd.ntmps10
  go_wp2_with fail
  go_ret2
  exact ⟨rfl, rfl⟩
 have a1 : x ≤ 1048576 := by omega
 by_cases a2 : y < 0
 ·go_enter Tryd.func10, Tryd.ntmps10
  go_wp2_with fail
  go_ret2
  exact ⟨rfl, rfl⟩
 have a2 : 0 ≤ y := by omega
 have a3 : 65536 < y := by omega
 go_enter Tryd.func10, Tryd.ntmps10
 go_wp2_with fail
 go_ret2
 exact ⟨rfl, rfl⟩
def RIs (R : RS) (oop : Int) (k : Nat) : Prop := k < R.objs.length ∧ ((R.objs.getD k noRO).oop : Int) = oop
def RNo (R : RS) (oop : Int) : Prop := ∀ j, j < R.objs.length → ((R.objs.getD j noRO).oop : Int) ≠ oop
set_option maxHeartbeats 1000000 in
theorem rClass_any (oop : Int) (B r : Nat) (R : RS) (w : World) (h : RRep w B r R) (hl : R.objs.length ≤ 1048576) :
  Calls Tryd.prog 80 #[.pointer (some ⟨r, 0, none⟩), .int .i64 oop] w fun e w' =>
   ((∃ k, RIs R oop k ∧ e = .returned (.tuple #[.int .i64 (R.objs.getD k noRO).cls, .int .i64 0])) ∨ (RNo R oop ∧ e = .returned (.tuple #[.int .i64 0, .int .i64 20]))) ∧ Fr [] w w' := by
 obtain ⟨p, c, hov⟩ := h.ovIs
 have c5 : w.cell? ⟨r, 5, none⟩ = some (.slice p R.objs.length c) := by rw [h.c, ← hov]; rfl
 have HF := mkHid (find_any oop B r R w h hl)
 have HR := mkHid h
 clear h
 go_enter Tryd.func80, Tryd.ntmps80
 go_wp2_with fail
 refine Calls.mono HF.out ?_
 rintro e w2 ⟨z, rfl, hz, hw⟩
 rw [hw]
 clear hw w2
 rcases hz with ⟨k, hk, rfl, ho, -⟩ | ⟨rfl, hno⟩
 ·obtain ⟨g, c', hv, hc⟩ := HR.out.at_ (by omega)
  rw [hov] at hv
  injection hv with e1 e2 e3
  subst e1
  obtain ⟨-, -, -, -, q4, -⟩ := hc k hk
  have k1 : (0 : Int) ≤ (k : Int) := by omega
  have k2 : (k : Int) < (R.objs.length : Int) := by omega
  have HIs : Hid (RIs R oop k) := ⟨hk, ho⟩
  obtain ⟨cz, hcz⟩ : ∃ cz, cz = (R.objs.getD k noRO).cls := ⟨_, rfl⟩
  rw [← hcz] at q4
  have HCz := mkHid hcz
  clear hcz hc ho e2 e3 HF
  go_wp2_with fail
  go_ret2
  exact ⟨.inl ⟨k, HIs.out, by rw [HCz.out]; rfl⟩, Fr.refl _ _⟩
 ·have HNo := mkHid hno
  clear hno
  go_wp2_with fail
  go_ret2
  exact ⟨.inr ⟨HNo.out, rfl⟩, Fr.refl _ _⟩
set_option maxHeartbeats 1000000 in
theorem rSize_yes (oop : Int) (B r : Nat) (R : RS) (w : World) (h : RRep w B r R) (hl : R.objs.length ≤ 1048576) (hy : ¬ RNo R oop) :
  Calls Tryd.prog 82 #[.pointer (some ⟨r, 0, none⟩), .int .i64 oop] w fun e w' =>
   (∃ k, RIs R oop k ∧ e = .returned (.tuple #[.int .i64 (R.objs.getD k noRO).slots.length, .int .i64 (R.objs.getD k noRO).fmt, .int .i64 0])) ∧ Fr [] w w' := by
 obtain ⟨p, c, hov⟩ := h.ovIs
 have c5 : w.cell? ⟨r, 5, none⟩ = some (.slice p R.objs.length c) := by rw [h.c, ← hov]; rfl
 have HF := mkHid (find_any oop B r R w h hl)
 have HR := mkHid h
 have HY := mkHid hy
 clear h hy
 go_enter Tryd.func82, Tryd.ntmps82
 go_wp2_with fail
 refine Calls.mono HF.out ?_
 rintro e w2 ⟨z, rfl, hz, hw⟩
 rw [hw]
 clear hw w2
 rcases hz with ⟨k, hk, rfl, ho, -⟩ | ⟨rfl, hno⟩
 ·obtain ⟨g, c', hv, hc⟩ := HR.out.at_ (by omega)
  rw [hov] at hv
  injection hv with e1 e2 e3
  subst e1
  obtain ⟨-, q1, -, -, -, q5⟩ := hc k hk
  obtain ⟨p5, c5', hv5⟩ := HR.out.vIs k hk
  rw [hv5] at q5
  have k1 : (0 : Int) ≤ (k : Int) := by omega
  have k2 : (k : Int) < (R.objs.length : Int) := by omega
  have HIs : Hid (RIs R oop k) := ⟨hk, ho⟩
  obtain ⟨cz, hcz⟩ : ∃ cz, cz = (R.objs.getD k noRO).slots.length := ⟨_, rfl⟩
  obtain ⟨fz, hfz⟩ : ∃ fz, fz = (R.objs.getD k noRO).fmt := ⟨_, rfl⟩
  rw [← hcz] at q5
  rw [← hfz] at q1
  simp only [I] at q1
  have HCz := mkHid (And.intro hcz hfz)
  clear hcz hfz hc ho e2 e3 HF hv5
  go_wp2_with fail
  all_goals try (go_quiet (fail); go_wp2_with fail)
  all_goals
   refine bodyPost_ret (results_tmp3 rfl _ _ _) rfl ?_
   exact ⟨⟨k, HIs.out, by rw [← HCz.out.1, ← HCz.out.2]; rfl⟩, by first | exact Fr.refl _ _ | exact Fr.drew [] _ | exact Fr.drewN [] _ _⟩
 ·exact absurd hno HY.out
set_option maxHeartbeats 1000000 in
theorem rAt_yes (oop : Int) (B r : Nat) (R : RS) (i : Nat) (w : World) (h : RRep w B r R) (hl : R.objs.length ≤ 1048576) (hy : ∀ k, RIs R oop k → i < (R.objs.getD k noRO).slots.length) (hn : ¬ RNo R oop) :
  Calls Tryd.prog 84 #[.pointer (some ⟨r, 0, none⟩), .int .i64 oop, .int .i64 i] w fun e w' =>
   (∃ k, RIs R oop k ∧ e = .returned (.tuple #[.int .i64 ((R.objs.getD k noRO).slots.getD i 0), .int .i64 0])) ∧ Fr [] w w' := by
 obtain ⟨p, c, hov⟩ := h.ovIs
 have c5 : w.cell? ⟨r, 5, none⟩ = some (.slice p R.objs.length c) := by rw [h.c, ← hov]; rfl
 have HF := mkHid (find_any oop B r R w h hl)
 have HR := mkHid h
 have HY := mkHid hy
 have HN := mkHid hn
 clear h hy hn
 go_enter Tryd.func84, Tryd.ntmps84
 go_wp2_with fail
 refine Calls.mono HF.out ?_
 rintro e w2 ⟨z, rfl, hz, hw⟩
 rw [hw]
 clear hw w2
 rcases hz with ⟨k, hk, rfl, ho, -⟩ | ⟨rfl, hno⟩
 ·obtain ⟨g, c', hv, hc⟩ := HR.out.at_ (by omega)
  rw [hov] at hv
  injection hv with e1 e2 e3
  subst e1
  obtain ⟨-, q1, -, -, -, q5⟩ := hc k hk
  have hi := HY.out k ⟨hk, ho⟩
  have hm : R.objs.getD k noRO ∈ R.objs := by rw [List.getD_eq_getElem?_getD, List.getElem?_eq_getElem hk]; exact List.getElem_mem hk
  obtain ⟨p5, c5', hv5, hs5⟩ := own_slot (HR.out.slots _ hm)
  obtain ⟨g5, rfl, hc5⟩ := hs5 (by omega)
  have q6 := hc5 i hi
  rw [hv5] at q5
  have k1 : (0 : Int) ≤ (k : Int) := by omega
  have k2 : (k : Int) < (R.objs.length : Int) := by omega
  have HIs : Hid (RIs R oop k) := ⟨hk, ho⟩
  obtain ⟨cz, hcz⟩ : ∃ cz, cz = (R.objs.getD k noRO).slots.length := ⟨_, rfl⟩
  obtain ⟨fz, hfz⟩ : ∃ fz, fz = (R.objs.getD k noRO).slots.getD i 0 := ⟨_, rfl⟩
  rw [← hcz] at q5 hi
  rw [← hfz] at q6
  have i1 : (0 : Int) ≤ (i : Int) := by omega
  have i2 : (i : Int) < (cz : Int) := by omega
  have HFz := mkHid hfz
  clear hcz hfz hc hc5 ho e2 e3 HF hv5 HY
  go_wp2_with fail
  all_goals try (go_quiet (fail); go_wp2_with fail)
  all_goals
   go_ret2
   exact ⟨⟨k, HIs.out, by rw [← HFz.out]; rfl⟩, by first | exact Fr.refl _ _ | exact Fr.drew [] _ | exact Fr.drewN [] _ _⟩
 ·exact absurd hno HN.out
def RO.named (o : RO) (n : Nat) : RO := { o with oop := n }
theorem roCells_named (n : Nat) : ∀ (l : List RO) (k : Nat), k < l.length → roCells (l.set k ((l.getD k noRO).named n)) = (roCells l).set (k * 6) (I n)
 | [], k, h => by simp at h
 | o :: t, 0, _ => rfl
 | o :: t, k + 1, h => by
  have ih := roCells_named n t k (by simpa using h)
  have e : (o :: t).set (k + 1) (((o :: t).getD (k + 1) noRO).named n) = o :: t.set k ((t.getD k noRO).named n) := by simp
  rw [e]
  show ro6 o ++ roCells (t.set k ((t.getD k noRO).named n)) = (ro6 o ++ roCells t).set ((k + 1) * 6) (I n)
  rw [ih, List.set_append_right _ _ (by simp [ro6]; omega)]
  congr 2
  simp [ro6]; omega
theorem row_block {w : World} {B : Nat} {e : TypeId} {s n : Nat} {v : Value} {xs : List Value} (h : w.ownsRow B e s v n xs) {g : Nat} (hg : v.ownBlock = some g) : ∃ cur, w.heap[g]? = some (.cells cur e (0, 0)) := by
 rcases h.2 with ⟨h2, h3⟩ | ⟨g', cap, cur, h2, h3, h4⟩
 ·rw [h2] at hg; simp [Value.ownBlock] at hg
 ·rw [h2] at hg
  have e : g' = g := by simpa [Value.ownBlock] using hg
  subst e
  exact ⟨cur, h4.1⟩
theorem set_mem {l : List RO} {k : Nat} {o x : RO} (h : x ∈ l.set k o) : x ∈ l ∨ x = o := List.mem_or_eq_of_mem_set h
theorem RRep.setOop {w : World} {B r : Nat} {R : RS} (h : RRep w B r R) {g c : Nat} (hv : R.ov = .slice (some ⟨g, 0, none⟩) R.objs.length c) (k n : Nat) (hk : k < R.objs.length) :
  RRep (w.setCell ⟨g, k * 6, none⟩ (I n)) B r { R with objs := R.objs.set k ((R.objs.getD k noRO).named n) } := by
 have hb : R.ov.ownBlock = some g := by rw [hv]; rfl
 obtain ⟨cur, hcur⟩ := row_block h.row hb
 have hgr : g ≠ r := fun e => by rw [e, h.top] at hcur; injection hcur with hc; injection hc with _ ht _; exact absurd ht (by decide)
 have hko : R.objs.getD k noRO ∈ R.objs := by rw [List.getD_eq_getElem?_getD, List.getElem?_eq_getElem hk]; exact List.getElem_mem hk
 refine ⟨h.lo, ?_, ?_, fun o ho => ?_⟩
 ·rw [Below.heap_setCell _ _ _ _ (fun e => hgr e.symm)]
  exact h.top
 ·show (w.setCell ⟨g, k * 6, none⟩ (I n)).ownsRow B 114 6 R.ov (R.objs.set k _).length (roCells (R.objs.set k _))
  rw [roCells_named n _ k hk, List.length_set]
  have h2 := h.row
  rw [hv] at h2 ⊢
  exact (h2.stored (k * 6) (I n)).1
 ·have key : ∀ x ∈ R.objs, (w.setCell ⟨g, k * 6, none⟩ (I n)).ownsRow B 33 1 x.v x.slots.length (x.slots.map (Value.int .i64)) := fun x hx => by
   refine own_congr (h.slots x hx) fun b hb2 => Below.heap_setCell _ _ _ _ (fun e => ?_)
   obtain ⟨cur2, hc2⟩ := row_block (h.slots x hx) hb2
   rw [e, hcur] at hc2
   injection hc2 with hc; injection hc with _ ht _; exact absurd ht (by decide)
  rcases set_mem ho with h1 | h1
  ·exact key o h1
  ·rw [h1]; exact key (R.objs.getD k noRO) hko
theorem RRep.setTurn {w : World} {B r : Nat} {R : RS} (h : RRep w B r R) (n : Nat) : RRep (w.setCell ⟨r, 4, none⟩ (I n)) B r { R with turn := n } := by
 have ne : ∀ {e : TypeId} {s m : Nat} {v : Value} {xs : List Value}, w.ownsRow B e s v m xs → e ≠ 111 → ∀ g, v.ownBlock = some g → g ≠ r := fun h2 hne g hg e => by
  obtain ⟨cur, hcur⟩ := row_block h2 hg
  rw [e, h.top] at hcur
  injection hcur with hc; injection hc with _ ht _
  exact hne ht.symm
 exact ⟨h.lo, set_in h.top 4 _, own_congr h.row fun g hg => Below.heap_setCell _ _ _ _ (ne h.row (by decide) g hg), fun o ho => own_congr (h.slots o ho) fun g hg => Below.heap_setCell _ _ _ _ (ne (h.slots o ho) (by decide) g hg)⟩
def rExchR (R : RS) (i j x y : Nat) : RS := { R with objs := (R.objs.set i ((R.objs.getD i noRO).named y)).set j (((R.objs.set i ((R.objs.getD i noRO).named y)).getD j noRO).named x), turn := R.turn + 1 }
set_option maxRecDepth 20000 in
set_option maxHeartbeats 1000000 in
theorem rExch_ok (x y : Nat) (B r : Nat) (R : RS) (w : World) (h : RRep w B r R) (hl : R.objs.length ≤ 1048576) (ht : R.turn ≤ 1000000000) (hx : ¬ RNo R x) (hy : ¬ RNo R y) :
  Calls Tryd.prog 86 #[.pointer (some ⟨r, 0, none⟩), .int .i64 (x : Int), .int .i64 (y : Int)] w fun e w' =>
   e = .returned (.int .i64 0) ∧ ∃ i j g, RIs R x i ∧ RIs R y j ∧ R.ov.ownBlock = some g ∧ RRep w' B r (rExchR R i j x y) ∧ Fr [g, r] w w' := by
 obtain ⟨p, c, hov⟩ := h.ovIs
 have HF := mkHid (find_any x B r R w h hl)
 have HF2 := mkHid (find_any y B r R w h hl)
 have c5 : w.cell? ⟨r, 5, none⟩ = some (.slice p R.objs.length c) := by rw [h.c, ← hov]; rfl
 have HR := mkHid h
 have HX := mkHid hx
 have HY := mkHid hy
 clear h hx hy
 go_enter Tryd.func86, Tryd.ntmps86
 go_wp2_with fail
 refine Calls.mono HF.out ?_
 rintro e w2 ⟨z, rfl, hz, hw⟩
 rw [hw]
 clear hw w2 HF
 rcases hz with ⟨i, hi, rfl, hoi, -⟩ | ⟨-, hno⟩
 rotate_left
 ·exact absurd hno HX.out
 go_wp2_with fail
 refine Calls.mono HF2.out ?_
 rintro e w2 ⟨z, rfl, hz, hw⟩
 rw [hw]
 clear hw w2 HF2
 rcases hz with ⟨j, hj, rfl, hoj, -⟩ | ⟨-, hno⟩
 rotate_left
 ·exact absurd hno HY.out
 obtain ⟨g, c', hv, hc⟩ := HR.out.at_ (by omega)
 have hv0 := hv
 rw [hov] at hv
 injection hv with e1 e2 e3
 subst e1
 obtain ⟨q0, -⟩ := hc i hi
 have hb : R.ov.ownBlock = some g := by rw [hv0]; rfl
 obtain ⟨cur, hcur⟩ := row_block HR.out.row hb
 have z0 := frozen_in hcur (i * 6)
 have i1 : (0 : Int) ≤ (i : Int) := by omega
 have i2 : (i : Int) < (R.objs.length : Int) := by omega
 have j1 : (0 : Int) ≤ (j : Int) := by omega
 have j2 : (j : Int) < (R.objs.length : Int) := by omega
 obtain ⟨W1, hW1⟩ : ∃ W1, w.setCell ⟨g, i * 6, none⟩ (.int .i64 (y : Int)) = W1 := ⟨_, rfl⟩
 obtain ⟨R1, hR1⟩ : ∃ R1 : RS, R1 = { R with objs := R.objs.set i ((R.objs.getD i noRO).named y) } := ⟨_, rfl⟩
 have h1 : RRep W1 B r R1 := by rw [← hW1, hR1]; exact HR.out.setOop hv0 i y hi
 have l1 : R1.objs.length = R.objs.length := by rw [hR1]; simp
 have o1 : R1.ov = R.ov := by rw [hR1]
 have v1 : R1.ov = .slice (some ⟨g, 0, none⟩) R1.objs.length c' := by rw [o1, hv0, l1]
 have d5 : W1.cell? ⟨r, 5, none⟩ = some (.slice (some ⟨g, 0, none⟩) R.objs.length c) := by rw [h1.c, ← hov, ← o1]; rfl
 obtain ⟨g1, c1, hv1, hc1⟩ := h1.at_ (by omega)
 have hg1 : g1 = g := by rw [v1] at hv1; injection hv1 with a1; injection a1 with a1; injection a1 with a1; exact a1.symm
 subst hg1
 obtain ⟨q1, -⟩ := hc1 j (by omega)
 obtain ⟨cur1, hcur1⟩ := row_block h1.row (by rw [o1]; exact hb)
 have z1 := frozen_in hcur1 (j * 6)
 obtain ⟨W2, hW2⟩ : ∃ W2, W1.setCell ⟨g1, j * 6, none⟩ (.int .i64 (x : Int)) = W2 := ⟨_, rfl⟩
 obtain ⟨R2, hR2⟩ : ∃ R2 : RS, R2 = { R1 with objs := R1.objs.set j ((R1.objs.getD j noRO).named x) } := ⟨_, rfl⟩
 have h2 : RRep W2 B r R2 := by rw [← hW2, hR2]; exact h1.setOop v1 j x (by omega)
 have t2 : R2.turn = R.turn := by rw [hR2, hR1]
 have d4 : W2.cell? ⟨r, 4, none⟩ = some (.int .i64 (R.turn : Int)) := by rw [h2.c, ← t2]; rfl
 have z2 := frozen_in h2.top 4
 have hR3 : Hid ({ R2 with turn := R.turn + 1 } = rExchR R i j x y) := by show _ = _; rw [hR2, hR1]; rfl
 have HF : Hid (Fr [g1, r] w W2) := by
  rw [← hW2, ← hW1]
  exact (Fr.setCell (S := [g1, r]) w ⟨g1, i * 6, none⟩ _ (by simp)).trans (Fr.setCell (S := [g1, r]) _ ⟨g1, j * 6, none⟩ _ (by simp)) (fun b hb => .inl hb)
 have HI1 : Hid (RIs R x i) := ⟨hi, hoi⟩
 have HI2 : Hid (RIs R y j) := ⟨hj, hoj⟩
 have H2 := mkHid h2
 have HB := mkHid hb
 have w4 : IntKind.i64.wrap ((R.turn : Int) + 1) = (R.turn : Int) + 1 := by rw [iwrap]; unfold wrap64; omega
 obtain ⟨q, hq⟩ : ∃ q, q = (R.objs.getD i noRO).oop := ⟨_, rfl⟩
 obtain ⟨u, hu⟩ : ∃ u, u = (R1.objs.getD j noRO).oop := ⟨_, rfl⟩
 rw [← hq] at q0
 rw [← hu] at q1
 simp only [I] at q0 q1
 clear h1 h2 hR1 hR2 hv1 hc1 hc v1 o1 l1 t2 hov hv0 hb e2 e3 hoi hoj hcur hcur1 hq hu
 go_wp2_with fail
 go_ret
 refine ⟨rfl, i, j, g1, HI1.out, HI2.out, HB.out, ?_, ?_⟩
 ·rw [← hR3.out]
  exact H2.out.setTurn (R.turn + 1)
 ·exact HF.out.trans (Fr.setCell (S := [g1, r]) _ ⟨r, 4, none⟩ _ (by simp)) (fun b hb => .inl hb)
end Go.Proofs.YtklfnjlenbgmoaaDoor
namespace Go.Proofs.YtklfnjlenbgmoaaDoor
open Go.RowKit
def RO.turnd (o : RO) (c : Int) (ss : List Int) : RO := { o with cls := c, slots := ss }
def RS.upd (R : RS) (m : Nat) (c : Int) (ss : List Int) : RS := { R with objs := R.objs.set m ((R.objs.getD m noRO).turnd c ss) }
def RO.shape (o : RO) : Nat × Nat × Nat × Nat × Nat × Value := (o.oop, o.fmt, o.place, o.born, o.slots.length, o.v)
structure Alk (R R' : RS) : Prop where
 words : R'.words = R.words
 oops : R'.oops = R.oops
 mark : R'.mark = R.mark
 born : R'.born = R.born
 turn : R'.turn = R.turn
 ov : R'.ov = R.ov
 objs : R'.objs.map RO.shape = R.objs.map RO.shape
theorem Alk.upd (R : RS) (m : Nat) (c : Int) (ss : List Int) (hl : ss.length = (R.objs.getD m noRO).slots.length) : Alk R (R.upd m c ss) := by
 refine ⟨rfl, rfl, rfl, rfl, rfl, rfl, ?_⟩
 show (R.objs.set m _).map RO.shape = _
 refine List.ext_getElem? fun i => ?_
 rw [List.getElem?_map, List.getElem?_map, List.getElem?_set]
 by_cases e : m = i
 ·subst e
  rw [if_pos rfl]
  by_cases hm : m < R.objs.length
  ·rw [if_pos hm, List.getElem?_eq_getElem hm]
   have e2 : R.objs.getD m noRO = R.objs[m] := by rw [List.getD_eq_getElem?_getD, List.getElem?_eq_getElem hm]; rfl
   rw [e2] at hl ⊢
   simp [RO.shape, RO.turnd, hl]
  ·rw [if_neg hm, List.getElem?_eq_none (by omega)]
 ·rw [if_neg e]
def Lone (R : RS) : Prop := R.objs.Pairwise fun x o => ∀ g, o.v.ownBlock = some g → x.v.ownBlock ≠ some g
theorem Alk.lone {R R' : RS} (h : Alk R R') (hn : Lone R) : Lone R' := by
 have h1 : (R.objs.map RO.shape).Pairwise fun x o => ∀ g, o.2.2.2.2.2.ownBlock = some g → x.2.2.2.2.2.ownBlock ≠ some g := List.pairwise_map.2 hn
 rw [← h.objs] at h1
 exact List.pairwise_map.1 h1
theorem Lone.ne {R : RS} (h : Lone R) {i j : Nat} (hi : i < R.objs.length) (hj : j < R.objs.length) (hne : i ≠ j) {g : Nat} (hg : (R.objs.getD i noRO).v.ownBlock = some g) : (R.objs.getD j noRO).v.ownBlock ≠ some g := by
 have gi : R.objs.getD i noRO = R.objs[i] := by rw [List.getD_eq_getElem?_getD, List.getElem?_eq_getElem hi]; rfl
 have gj : R.objs.getD j noRO = R.objs[j] := by rw [List.getD_eq_getElem?_getD, List.getElem?_eq_getElem hj]; rfl
 rw [gi] at hg
 rw [gj]
 rcases Nat.lt_or_gt_of_ne hne with hlt | hlt
 ·exact fun e => List.pairwise_iff_getElem.1 h i j hi hj hlt g e hg
 ·exact List.pairwise_iff_getElem.1 h j i hj hi hlt g hg
def kst (js : List Nat) (l : List RO) : List RO × Nat := l.foldl (fun s o => if o.oop ∈ js then (s.1 ++ [{ o with place := s.2 }], s.2 + lenN o.slots.length o.fmt) else s) ([], 0)
theorem kst_snoc (js : List Nat) (l : List RO) (o : RO) : kst js (l ++ [o]) = if o.oop ∈ js then ((kst js l).1 ++ [{ o with place := (kst js l).2 }], (kst js l).2 + lenN o.slots.length o.fmt) else kst js l := by
 unfold kst
 rw [List.foldl_append]
 rfl
theorem snoc_ind {α : Type} {P : List α → Prop} (h0 : P []) (h1 : ∀ l x, P l → P (l ++ [x])) : ∀ l, P l := fun l => by
 have : ∀ n (l : List α), l.length = n → P l := fun n => by
  induction n with
  | zero => intro l hl; rw [List.length_eq_zero_iff.1 hl]; exact h0
  | succ n ih =>
   intro l hl
   have hne : l ≠ [] := fun e => by rw [e] at hl; simp at hl
   rw [← List.dropLast_concat_getLast hne]
   exact h1 _ _ (ih _ (by simp [hl]))
 exact this _ l rfl
theorem kst_keys (js : List Nat) (l : List RO) : (kst js l).1.map roKey = (l.map roKey).filter fun k => decide (k.1.toNat ∈ js) := by
 induction l using snoc_ind with
 | h0 => rfl
 | h1 l o ih =>
  rw [kst_snoc, List.map_append, List.filter_append]
  by_cases h : o.oop ∈ js
  ·rw [if_pos h, List.map_append, ih]
   congr 1
   have e : List.filter (fun k : Key => decide (k.1.toNat ∈ js)) [roKey o] = [roKey o] := by
    rw [List.filter_cons, show decide ((roKey o).1.toNat ∈ js) = true from decide_eq_true h]; rfl
   rw [List.map_singleton, List.map_singleton, e]
   rfl
  ·rw [if_neg h, ih]
   have e : List.filter (fun k : Key => decide (k.1.toNat ∈ js)) [roKey o] = [] := by
    rw [List.filter_cons, show decide ((roKey o).1.toNat ∈ js) = false from decide_eq_false h]; rfl
   rw [List.map_singleton, e, List.append_nil]
theorem kst_end (js : List Nat) (l : List RO) : rEnd (kst js l).1 = (kst js l).2 := by
 induction l using snoc_ind with
 | h0 => rfl
 | h1 l o ih =>
  rw [kst_snoc]
  by_cases h : o.oop ∈ js
  ·rw [if_pos h, rEnd_snoc]
  ·rw [if_neg h, ih]
theorem kst_from (js : List Nat) (l : List RO) : ∀ o ∈ (kst js l).1, ∃ x ∈ l, o.oop = x.oop ∧ o.fmt = x.fmt ∧ o.cls = x.cls ∧ o.slots = x.slots ∧ o.v = x.v ∧ x.oop ∈ js ∧ o.place ≤ (kst js l).2 := by
 induction l using snoc_ind with
 | h0 => intro o ho; simp [kst] at ho
 | h1 l o ih =>
  rw [kst_snoc]
  by_cases h : o.oop ∈ js
  ·rw [if_pos h]
   intro x hx
   rcases List.mem_append.1 hx with h1 | h1
   ·obtain ⟨y, y1, y2, y3, y4, y5, y6, y7, y8⟩ := ih x h1
    exact ⟨y, List.mem_append_left _ y1, y2, y3, y4, y5, y6, y7, by show x.place ≤ _ + _; omega⟩
   ·have e : x = { o with place := (kst js l).2 } := by simpa using h1
    subst e
    exact ⟨o, by simp, rfl, rfl, rfl, rfl, rfl, h, by show (kst js l).2 ≤ _ + _; omega⟩
  ·rw [if_neg h]
   intro x hx
   obtain ⟨y, y1, y2⟩ := ih x hx
   exact ⟨y, List.mem_append_left _ y1, y2⟩
theorem kst_len (js : List Nat) (l : List RO) : (kst js l).1.length ≤ l.length := by
 have := congrArg List.length (kst_keys js l)
 rw [List.length_map] at this
 rw [this]
 refine Nat.le_trans (List.length_filter_le _ _) (by simp)
theorem kst_le (js : List Nat) (l : List RO) : ((kst js l).2 : Int) ≤ endK (l.map roKey) := by
 induction l using snoc_ind with
 | h0 => simp [kst, endK]
 | h1 l o ih =>
  have hl := lenOf_nat o.slots.length o.fmt
  rw [List.map_append, endK_append, kst_snoc]
  by_cases h : o.oop ∈ js
  ·rw [if_pos h]
   simp only [List.map_cons, List.map_nil, endK, roKey] at hl ⊢
   omega
  ·rw [if_neg h]
   simp only [List.map_cons, List.map_nil, endK, roKey] at hl ⊢
   omega
end Go.Proofs.YtklfnjlenbgmoaaDoor
