import Derived.Test.YtklfnjlenbgmoaaDoorAG25HBoth
namespace Go.Proofs.YtklfnjlenbgmoaaDoor
open Go.RowKit
set_option linter.unusedVariables false
theorem th_of_mem {S : List Th} {u : Th} (hu : u ∈ S) : ∃ i, i < S.length ∧ S.getD i noTh = u := by
  obtain ⟨i, hi, hiu⟩ := List.getElem_of_mem hu
  exact ⟨i, hi, by rw [List.getD_eq_getElem?_getD, List.getElem?_eq_getElem hi, hiu]; rfl⟩
def swapI (x y i : Nat) : Nat := if i = y then x else if i = x then y else i
theorem swap_at (S : List Th) (x y : Nat) (hx : x < S.length) (hy : y < S.length) (i : Nat) : ((S.set x (S.getD y noTh)).set y (S.getD x noTh)).getD i noTh = S.getD (swapI x y i) noTh := by
  rw [getD_set _ _ _ _ (by rw [List.length_set]; exact hy), getD_set _ _ _ _ hx]
  unfold swapI
  split
  · rfl
  · split
    · rfl
    · rfl
/-- two things are exchanged -/
theorem MRep.swap {w : World} {m : Nat} {M : MS} {g : Nat} (h : MRep w m M) (hg : M.pt = some ⟨g, 0, none⟩) (x y : Nat) (hx : x < M.things.length) (hy : y < M.things.length) :
    MRep (setTh (setTh w g x (M.things.getD y noTh)) g y (M.things.getD x noTh)) m { M with things := (M.things.set x (M.things.getD y noTh)).set y (M.things.getD x noTh) } := by
  obtain ⟨n1, n2⟩ := h.pt_ne hg
  have hel : ∀ i, i ≠ g → (setTh (setTh w g x (M.things.getD y noTh)) g y (M.things.getD x noTh)).heap[i]? = w.heap[i]? := fun i hi => by rw [setTh_else hi, setTh_else hi]
  have hrow := h.row
  rw [hg] at hrow
  have hr2 := setTh_row (t := M.things.getD y noTh) hrow hx
  have hr3 := setTh_row (S := M.things.set x (M.things.getD y noTh)) (t := M.things.getD x noTh) (q := y) (by rw [List.length_set]; exact hr2) (by rw [List.length_set]; exact hy)
  have hsw : ∀ i, i < M.things.length → swapI x y i < M.things.length := fun i hi => by
    unfold swapI
    split
    · exact hx
    · split
      · exact hy
      · exact hi
  refine ⟨?_, ?_, ?_, ?_⟩
  · rw [hel m (fun e => n1 e.symm), h.top]
    simp [mcells]
  · show (setTh _ g y _).ownsRow 0 119 5 (.slice M.pt ((M.things.set x (M.things.getD y noTh)).set y (M.things.getD x noTh)).length M.ct) ((M.things.set x (M.things.getD y noTh)).set y (M.things.getD x noTh)).length _
    rw [List.length_set, hg]
    exact hr3
  · intro t ht
    obtain ⟨i, hi, hit⟩ := th_of_mem ht
    have hi2 : i < M.things.length := by simpa using hi
    have e : ((M.things.set x (M.things.getD y noTh)).set y (M.things.getD x noTh)).getD i noTh = t := hit
    rw [swap_at M.things x y hx hy i] at e
    have hm := getD_mem M.things _ (hsw i hi2)
    rw [e] at hm
    exact own_congr (h.slots t hm) fun b hb => hel b (fun e2 => n2 (e2 ▸ mslots_mem hm ((blk_own _ _ _ _).1 hb)))
  · intro i j hi hj hij b hb
    have hi2 : i < M.things.length := by simpa using hi
    have hj2 : j < M.things.length := by simpa using hj
    have hb2 : b ∈ blk (((M.things.set x (M.things.getD y noTh)).set y (M.things.getD x noTh)).getD i noTh).p := hb
    show b ∉ blk (((M.things.set x (M.things.getD y noTh)).set y (M.things.getD x noTh)).getD j noTh).p
    rw [swap_at M.things x y hx hy] at hb2 ⊢
    refine h.apart _ _ (hsw i hi2) (hsw j hj2) (fun e => ?_) b hb2
    unfold swapI at e
    split at e <;> split at e <;> (try split at e) <;> (try split at e) <;> omega
theorem mfoot_set {m : Nat} {M : MS} (k : Nat) (t : Th) (ht : ∀ b ∈ blk t.p, b ∈ mfoot m M) : ∀ g ∈ mfoot m { M with things := M.things.set k t }, g ∈ mfoot m M := by
  intro g hg
  simp only [mfoot, List.mem_cons, List.mem_append] at hg ⊢
  rcases hg with h1 | h1 | h1
  · exact .inl h1
  · exact .inr (.inl h1)
  · obtain ⟨u, hu, hb⟩ := List.mem_flatMap.1 h1
    rcases mem_set hu with rfl | h2
    · have := ht g hb
      simpa only [mfoot, List.mem_cons, List.mem_append] using this
    · exact .inr (.inr (mslots_mem h2 hb))
theorem blk_mfoot {m : Nat} {M : MS} (k : Nat) (hk : k < M.things.length) : ∀ b ∈ blk (M.things.getD k noTh).p, b ∈ mfoot m M := fun b hb => by
  simp only [mfoot, List.mem_cons, List.mem_append]
  exact .inr (.inr (mslots_mem (getD_mem M.things k hk) hb))
theorem mfoot_swap {m : Nat} {M : MS} (x y : Nat) (hx : x < M.things.length) (hy : y < M.things.length) : ∀ g ∈ mfoot m { M with things := (M.things.set x (M.things.getD y noTh)).set y (M.things.getD x noTh) }, g ∈ mfoot m M := by
  intro g hg
  simp only [mfoot, List.mem_cons, List.mem_append] at hg ⊢
  rcases hg with h1 | h1 | h1
  · exact .inl h1
  · exact .inr (.inl h1)
  · obtain ⟨u, hu, hb⟩ := List.mem_flatMap.1 h1
    right; right
    rcases mem_set hu with rfl | h2
    · exact mslots_mem (getD_mem M.things x hx) hb
    · rcases mem_set h2 with rfl | h3
      · exact mslots_mem (getD_mem M.things y hy) hb
      · exact mslots_mem h3 hb
theorem set_same {α : Type} (L : List α) (i : Nat) (v : α) (h : L[i]? = some v) : L.set i v = L := by
  apply List.ext_getElem?
  intro j
  rw [List.getElem?_set]
  by_cases e : i = j
  · subst e
    obtain ⟨hi, _⟩ := List.getElem?_eq_some_iff.1 h
    rw [if_pos rfl, if_pos hi, h]
  · rw [if_neg e]
/-- one slot of a thing is written -/
theorem MRep.slot {w : World} {m : Nat} {M : MS} {g : Nat} (h : MRep w m M) (k i : Nat) (v : Int) (hk : k < M.things.length) (hg : (M.things.getD k noTh).p = some ⟨g, 0, none⟩) (hi : i < (M.things.getD k noTh).slots.length) :
    MRep (w.setCell ⟨g, i, none⟩ (.int .i64 v)) m { M with things := M.things.set k (withSlot (M.things.getD k noTh) i v) } := by
  have hgm : g ∈ mslots M := mslots_mem (getD_mem M.things k hk) (by rw [hg]; simp [blk])
  obtain ⟨cg, hcg⟩ := own_blk (h.slots _ (getD_mem M.things k hk)) g (by rw [hg]; simp [blk])
  have hne : g ≠ m := fun e => by have := h.top; rw [← e, hcg] at this; simp at this
  have hnp : g ∉ blk M.pt := fun hb => by
    obtain ⟨c2, hc2⟩ := own_blk h.row g hb
    rw [hcg] at hc2
    simp at hc2
  have hel : ∀ i', i' ≠ g → (w.setCell ⟨g, i, none⟩ (.int .i64 v)).heap[i']? = w.heap[i']? := fun i' hi => set_else hi
  have hcells : thCells (M.things.set k (withSlot (M.things.getD k noTh) i v)) = thCells M.things := by
    have := thCells_set1 M.things k 0 (.bool (M.things.getD k noTh).there) (withSlot (M.things.getD k noTh) i v) hk (by omega) (by simp [th5, withSlot])
    rw [this]
    obtain ⟨q0, _⟩ := thCells_at M.things k hk
    exact set_same _ _ _ q0
  refine ⟨?_, ?_, ?_, ?_⟩
  · rw [hel m (fun e => hne e.symm), h.top]
    simp [mcells]
  · show (w.setCell _ _).ownsRow 0 119 5 (.slice M.pt (M.things.set k (withSlot (M.things.getD k noTh) i v)).length M.ct) (M.things.set k (withSlot (M.things.getD k noTh) i v)).length (thCells (M.things.set k (withSlot (M.things.getD k noTh) i v)))
    rw [List.length_set, hcells]
    exact own_congr h.row fun b hb => hel b (fun e => hnp (e ▸ (blk_own _ _ _ _).1 hb))
  · intro t ht
    obtain ⟨j, hj, hjt⟩ := th_of_mem ht
    have hj2 : j < M.things.length := by simpa using hj
    have e : (M.things.set k (withSlot (M.things.getD k noTh) i v)).getD j noTh = t := hjt
    rw [getD_set _ _ _ _ hk] at e
    by_cases ejk : j = k
    · rw [if_pos ejk] at e
      rw [← e]
      have hs := h.slots _ (getD_mem M.things k hk)
      rw [hg] at hs
      have hs2 := own_stored hs i (.int .i64 v)
      show (w.setCell _ _).ownsRow 0 33 1 (.slice (M.things.getD k noTh).p ((M.things.getD k noTh).slots.set i v).length (M.things.getD k noTh).c) ((M.things.getD k noTh).slots.set i v).length (((M.things.getD k noTh).slots.set i v).map (Value.int .i64))
      rw [List.length_set, hg, List.map_set]
      exact hs2
    · rw [if_neg ejk] at e
      have hm := getD_mem M.things j hj2
      have hap := h.apart j k hj2 hk ejk
      rw [e] at hm hap
      exact own_congr (h.slots t hm) fun b hb => hel b (fun e2 => by
        have := hap b ((blk_own _ _ _ _).1 hb)
        rw [hg, e2] at this
        simp [blk] at this)
  · intro i' j hi' hj hij b hb
    have hpp : ∀ q, ((M.things.set k (withSlot (M.things.getD k noTh) i v)).getD q noTh).p = (M.things.getD q noTh).p := fun q => by
      rw [getD_set _ _ _ _ hk]
      split
      · rename_i e; rw [e]; rfl
      · rfl
    have hb2 : b ∈ blk ((M.things.set k (withSlot (M.things.getD k noTh) i v)).getD i' noTh).p := hb
    show b ∉ blk ((M.things.set k (withSlot (M.things.getD k noTh) i v)).getD j noTh).p
    rw [hpp] at hb2 ⊢
    exact h.apart i' j (by simpa using hi') (by simpa using hj) hij b hb2
theorem MRep.setMark {w : World} {m : Nat} {M : MS} (h : MRep w m M) (k : Nat) : MRep (w.setCell ⟨m, 2, none⟩ (.int .i64 (k : Int))) m { M with mark := k } := by
  have hel : ∀ g, g ∈ blk M.pt ∨ g ∈ mslots M → g ≠ m := fun g hg e => by
    have ht := h.top
    rcases hg with hg | hg
    · obtain ⟨c, hc⟩ := own_blk h.row g hg
      rw [← e, hc] at ht
      simp at ht
    · obtain ⟨u, hu, hb⟩ := List.mem_flatMap.1 hg
      obtain ⟨c, hc⟩ := own_blk (h.slots u hu) g hb
      rw [← e, hc] at ht
      simp at ht
  refine ⟨?_, own_congr h.row fun g hg => set_else (hel g (.inl ((blk_own _ _ _ _).1 hg))), fun t ht => own_congr (h.slots t ht) fun g hg => set_else (hel g (.inr (mslots_mem ht ((blk_own _ _ _ _).1 hg)))), h.apart⟩
  rw [set_in h.top]
  simp [mcells, I]
end Go.Proofs.YtklfnjlenbgmoaaDoor
namespace Go.Proofs.YtklfnjlenbgmoaaDoor
open Go.RowKit
set_option linter.unusedVariables false
attribute [local go_sem ↓] Go.wp_at_zero Go.wp_at_succ
def stepO (K O A B C X : Int) (ls : Value) : Obj := .cells #[.int .i64 K, .int .i64 O, .int .i64 A, .int .i64 B, .int .i64 C, .int .i64 X, ls] 58
def stepV (K O A B C X : Int) (ls : Value) : Value := .agg #[.int .i64 K, .int .i64 O, .int .i64 A, .int .i64 B, .int .i64 C, .int .i64 X, ls]
theorem stepO_cells {w : World} {Q : Nat} {K O A B C X : Int} {ls : Value} (h : w.heap[Q]? = some (stepO K O A B C X ls)) :
    w.cell? ⟨Q, 2, none⟩ = some (.int .i64 A) ∧ w.cell? ⟨Q, 3, none⟩ = some (.int .i64 B) ∧ w.cell? ⟨Q, 5, none⟩ = some (.int .i64 X) ∧ w.cell? ⟨Q, 6, none⟩ = some ls := by
  unfold stepO at h
  exact ⟨cell_in h 2, cell_in h 3, cell_in h 5, cell_in h 6⟩
/-- a step is at hand, in a block of its own -/
structure At (D : List Nat) (w0 : World) (a m : Nat) (W : World) (l : Lay) (H : HS) (M : MS) (Q : Nat) (o : Obj) : Prop where
  side : Side D w0 a m W l H M
  box : W.heap[Q]? = some o
  nh : Q ∉ foot a l
  nm : Q ∉ mfoot m M
  ge : w0.heap.size ≤ Q
theorem Side.box {D : List Nat} {w0 W : World} {a m : Nat} {l : Lay} {H : HS} {M : MS} (h : Side D w0 a m W l H M) (o : Obj) : At D w0 a m (W.alloc o) l H M W.heap.size o :=
  ⟨h.idle (Fr.alloc [] W o), heap_alloc_new _ _, fun hb => by have := h.rep.lt _ hb; omega, fun hb => by have := h.mrep.lt _ hb; omega, h.fr.size⟩
theorem At.heap {D : List Nat} {w0 W W' : World} {a m Q : Nat} {l l' : Lay} {H H' : HS} {M : MS} {o : Obj} (h : At D w0 a m W l H M Q o) (hr : Rep W' a l' H') (hx : Nx a l l' W W') : At D w0 a m W' l' H' M Q o :=
  ⟨h.side.heap hr hx, (hx.1.block Q (lt_of_heap h.box) h.nh).trans h.box, fun hb => by
    rcases hx.2 Q hb with h1 | h1
    · exact h.nh h1
    · have := lt_of_heap h.box; omega, h.nm, h.ge⟩
theorem At.idle {D : List Nat} {w0 W W' : World} {a m Q : Nat} {l : Lay} {H : HS} {M : MS} {o : Obj} (h : At D w0 a m W l H M Q o) (hx : Fr [] W W') : At D w0 a m W' l H M Q o :=
  ⟨h.side.idle hx, (hx.block Q (lt_of_heap h.box) (by simp)).trans h.box, h.nh, h.nm, h.ge⟩
/-- what a step leaves behind -/
def Went (D : List Nat) (w0 : World) (a m : Nat) (H : HS) (N : MS) (w' : World) : Prop := ∃ l' H' M', Side D w0 a m w' l' H' M' ∧ Inv H' M' ∧ H'.age ≤ H.age + 1 ∧ Lk M' N
theorem tab_of {D : List Nat} {w0 W : World} (hT : Tab w0) (h2 : 2 ≤ w0.heap.size) (hD : ∀ b ∈ D, 2 ≤ b) (hf : Fr D w0 W) : Tab W := hT.keep hf (by omega) (fun hc => by have := hD _ hc; omega)
set_option maxRecDepth 20000 in
set_option maxHeartbeats 4000000 in
theorem step_other (K O A B C X : Int) (ls : Value) (D : List Nat) (w0 : World) (a m : Nat) (W : World) (l : Lay) (H : HS) (M : MS) (hS : Side D w0 a m W l H M) (hi : Inv H M) (k1 : (K == 1) = false) (k2 : (K == 2) = false) (k3 : (K == 3) = false) (k5 : (K == 5) = false) (k7 : (K == 7) = false) (k8 : (K == 8) = false) (k11 : (K == 11) = false) :
    Calls Tryd.prog 25 #[.pointer (some ⟨m, 0, none⟩), .pointer (some ⟨a, 0, none⟩), stepV K O A B C X ls] W fun e w' => e = .returned (.bool true) ∧ Went D w0 a m H M w' := by
  have HE : Hid (Went D w0 a m H M (W.alloc (stepO K O A B C X ls))) := ⟨l, H, M, hS.idle (Fr.alloc [] _ _), hi, by omega, Lk.refl _⟩
  unfold stepV
  unfold stepO at HE
  clear hS hi
  go_enter Tryd.func25, Tryd.ntmps25
  go_wp2
  go_ret
  exact ⟨rfl, HE.out⟩
set_option maxRecDepth 20000 in
set_option maxHeartbeats 4000000 in
theorem step_mark_no (O A B C X : Int) (ls : Value) (D : List Nat) (w0 : World) (a m : Nat) (W : World) (l : Lay) (H : HS) (M : MS) (hS : Side D w0 a m W l H M) (hi : Inv H M) (hA : isM A = false) :
    Calls Tryd.prog 25 #[.pointer (some ⟨m, 0, none⟩), .pointer (some ⟨a, 0, none⟩), stepV 2 O A B C X ls] W fun e w' => e = .returned (.bool true) ∧ Went D w0 a m H M w' := by
  have hA1 := hS.box (stepO 2 O A B C X ls)
  have HMk := mkHid (Mark_no A a l H _ hA1.side.rep hA)
  have HE : Hid (Went D w0 a m H M (W.alloc (stepO 2 O A B C X ls))) := ⟨l, H, M, hA1.side, hi, by omega, Lk.refl _⟩
  have hneg : A < 0 ∨ 1073741824 < A := by
    have := of_decide_eq_false hA
    omega
  unfold stepV
  unfold stepO at HE HMk
  clear hS hi hA1 hA
  rcases hneg with hneg | hneg
  · go_enter Tryd.func25, Tryd.ntmps25
    go_wp2_with (first | (go_at_call 12; refine Calls.mono HMk.out ?_; rintro e w1 ⟨rfl, rfl⟩) | (go_at_call 11; refine (num_any _ _ (by omega) (by omega)).mono ?_; rintro e w1 ⟨rfl, rfl⟩))
    go_ret
    exact ⟨rfl, HE.out⟩
  · have hpos : 0 ≤ A := by omega
    go_enter Tryd.func25, Tryd.ntmps25
    go_wp2_with (first | (go_at_call 12; refine Calls.mono HMk.out ?_; rintro e w1 ⟨rfl, rfl⟩) | (go_at_call 11; refine (num_any _ _ (by omega) (by omega)).mono ?_; rintro e w1 ⟨rfl, rfl⟩))
    go_ret
    exact ⟨rfl, HE.out⟩
set_option maxRecDepth 20000 in
set_option maxHeartbeats 4000000 in
theorem step_mark_in (O B C X : Int) (n : Nat) (ls : Value) (D : List Nat) (w0 : World) (a m : Nat) (W : World) (l : Lay) (H : HS) (M : MS) (hS : Side D w0 a m W l H M) (hi : Inv H M) (hn : (n : Int) ≤ 1073741824) :
    Calls Tryd.prog 25 #[.pointer (some ⟨m, 0, none⟩), .pointer (some ⟨a, 0, none⟩), stepV 2 O n B C X ls] W fun e w' => e = .returned (.bool true) ∧ Went D w0 a m H { M with mark := n } w' := by
  have hA1 := hS.box (stepO 2 O n B C X ls)
  have HMk := mkHid (Mark_in n a l H _ hA1.side.rep hn)
  have hn0 : (0 : Int) ≤ (n : Int) := by omega
  have HA := mkHid hA1
  have HI := mkHid hi
  obtain ⟨W1, hW1⟩ : ∃ W1, W1 = W.alloc (stepO 2 O n B C X ls) := ⟨_, rfl⟩
  rw [← hW1] at HMk HA
  unfold stepV
  unfold stepO at hW1
  clear hS hi hA1
  go_enter Tryd.func25, Tryd.ntmps25
  go_wp2_with fail
  rw [← hW1]
  refine Calls.mono HMk.out ?_
  rintro e w2 ⟨rfl, hr2, hf2, -⟩
  have hA2 := HA.out.heap hr2 (Nx.fr hf2)
  have HA2 := mkHid hA2
  obtain ⟨q2, -, -, -⟩ := stepO_cells hA2.box
  have c2 := hA2.side.mrep.c2
  have f2 := frozen_in hA2.side.mrep.top 2
  have hne : m ≠ W.heap.size := fun e => hA2.nm (by rw [← e]; simp [mfoot])
  have HE : Hid (Went D w0 a m H { M with mark := n } (w2.setCell ⟨m, 2, none⟩ (.int .i64 (n : Int)))) := by
    refine ⟨l, { H with mark := n }, { M with mark := n }, hA2.side.model (hA2.side.mrep.setMark n) (Fr.setCell _ _ _ (by simp [mfoot])) (fun g hg => .inl hg), HI.out.setMark n hn, by show H.age ≤ H.age + 1; omega, Lk.refl _⟩
  clear hr2 hf2 hA2
  go_wp2_with (go_at_call 11; refine (num_any _ _ (by omega) (by omega)).mono ?_; rintro e w1 ⟨rfl, rfl⟩)
  go_ret
  exact ⟨rfl, HE.out⟩
set_option maxRecDepth 20000 in
set_option maxHeartbeats 4000000 in
theorem step_free_no (O A B C X : Int) (ls : Value) (D : List Nat) (w0 : World) (a m : Nat) (W : World) (l : Lay) (H : HS) (M : MS) (hS : Side D w0 a m W l H M) (hi : Inv H M) (hA : mhas M A = false) :
    Calls Tryd.prog 25 #[.pointer (some ⟨m, 0, none⟩), .pointer (some ⟨a, 0, none⟩), stepV 3 O A B C X ls] W fun e w' => e = .returned (.bool true) ∧ Went D w0 a m H M w' := by
  have hA1 := hS.box (stepO 3 O A B C X ls)
  have HF := mkHid (Free_no A a l H _ hA1.side.rep (by rw [hi.hasM]; exact hA))
  have HA := mkHid hA1
  have HI := mkHid hi
  obtain ⟨W1, hW1⟩ : ∃ W1, W1 = W.alloc (stepO 3 O A B C X ls) := ⟨_, rfl⟩
  rw [← hW1] at HF HA
  unfold stepV
  unfold stepO at hW1
  clear hS hi hA1
  go_enter Tryd.func25, Tryd.ntmps25
  go_wp2_with fail
  rw [← hW1]
  refine Calls.mono HF.out ?_
  rintro e w2 ⟨rfl, hf2⟩
  have hA2 := HA.out.idle hf2
  obtain ⟨q2, -, -, -⟩ := stepO_cells hA2.box
  have HHas := has_ok A m M w2 hA2.side.mrep HI.out.model.len
  rw [hA] at HHas
  have HH := mkHid HHas
  have HE : Hid (Went D w0 a m H M w2) := ⟨l, H, M, hA2.side, HI.out, by omega, Lk.refl _⟩
  clear hf2 hA2 HHas
  go_wp2_with (first | (go_at_call 65; refine Calls.mono HH.out ?_; rintro e w1 ⟨rfl, rfl⟩) | (go_at_call 11; refine (num_any _ _ (by omega) (by omega)).mono ?_; rintro e w1 ⟨rfl, rfl⟩))
  go_ret
  exact ⟨rfl, HE.out⟩
set_option maxRecDepth 20000 in
set_option maxHeartbeats 4000000 in
theorem step_free_in (O B C X : Int) (k : Nat) (ls : Value) (D : List Nat) (w0 : World) (a m : Nat) (W : World) (l : Lay) (H : HS) (M : MS) (hS : Side D w0 a m W l H M) (hi : Inv H M) (hk : k < M.things.length) (hb : (M.things.getD k noTh).there = true) (hage : (H.age : Int) ≤ 1000000000) :
    Calls Tryd.prog 25 #[.pointer (some ⟨m, 0, none⟩), .pointer (some ⟨a, 0, none⟩), stepV 3 O ((k : Int) + 1) B C X ls] W fun e w' => e = .returned (.bool true) ∧ Went D w0 a m H { M with things := M.things.set k (gone (M.things.getD k noTh)) } w' := by
  have hA1 := hS.box (stepO 3 O ((k : Int) + 1) B C X ls)
  have hv := hi.toInvV.vac k hk hb
  obtain ⟨t, e0, hd, hinv⟩ := hv.draw
  have hlen := hi.model.len
  have HF := mkHid (Free_ok (k + 1) t e0 a l H _ hA1.side.rep (by rw [show ((k + 1 : Nat) : Int) = (k : Int) + 1 from by omega, hi.hasM]; exact mhas_of k hk hb) (hi.toInvV.vacOk k hk hb) hd hage)
  have HA := mkHid hA1
  have HI := mkHid hi
  have HV := mkHid hinv
  obtain ⟨W1, hW1⟩ : ∃ W1, W1 = W.alloc (stepO 3 O ((k : Int) + 1) B C X ls) := ⟨_, rfl⟩
  rw [← hW1] at HF HA
  unfold stepV
  unfold stepO at hW1
  clear hS hi hA1 hv hinv hd
  rw [show ((k + 1 : Nat) : Int) = (k : Int) + 1 from by omega] at HF
  go_enter Tryd.func25, Tryd.ntmps25
  go_wp2_with fail
  rw [← hW1]
  refine Calls.mono HF.out ?_
  rintro e w2 ⟨rfl, hr2, hx2⟩
  have hA2 := HA.out.heap hr2 hx2
  obtain ⟨q2, -, -, -⟩ := stepO_cells hA2.box
  have HHas := has_ok ((k : Int) + 1) m M w2 hA2.side.mrep HI.out.model.len
  rw [mhas_of k hk hb] at HHas
  have HH := mkHid HHas
  have hmr := hA2.side.mrep
  obtain ⟨g, hg, hc, hf, hgl⟩ := hmr.thAt (by omega)
  obtain ⟨y0, -⟩ := hc k hk
  have z0 := hf (k * 5)
  have c3 := hmr.c3
  have hgQ : g ≠ W.heap.size := fun e => hA2.nm (by rw [← e]; simp [mfoot, hg, blk])
  have k1 : (0 : Int) ≤ (k : Int) := by omega
  have k2 : (k : Int) < (M.things.length : Int) := by omega
  have HE : Hid (∀ V, Eqw (w2.setCell ⟨g, k * 5, none⟩ (.bool false)) V → Went D w0 a m H { M with things := M.things.set k (gone (M.things.getD k noTh)) } V) := by
    intro V hV
    have hset := hmr.set1 hg k 0 (.bool false) (gone (M.things.getD k noTh)) hk (by omega) rfl rfl rfl rfl
    refine ⟨l, _, { M with things := M.things.set k (gone (M.things.getD k noTh)) }, (hA2.side.model hset (Fr.setCell _ _ _ (by simp [mfoot, hg, blk])) (fun g hg => .inl (mfoot_set k (gone (M.things.getD k noTh)) (fun b hb => blk_mfoot k hk b hb) g hg))).eqw hV, HV.out.aged (H.age + 1), Nat.le_refl _, Lk.refl _⟩
  have wk : IntKind.i64.wrap ((k : Int) + 1 - 1) = (k : Int) := by rw [iwrap]; unfold wrap64; omega
  rw [hg] at c3
  clear hr2 hx2 hA2 HHas hmr hc hf hg HF HV
  go_wp2_with (first | (go_at_call 65; refine Calls.mono HH.out ?_; rintro e w1 ⟨rfl, rfl⟩) | (go_at_call 11; refine (num_any _ _ (by omega) (by omega)).mono ?_; rintro e w1 ⟨rfl, rfl⟩))
  go_region
  all_goals go_wp2_with (go_at_call 11; refine (num_any _ _ (by omega) (by omega)).mono ?_; rintro e w1 ⟨rfl, rfl⟩)
  all_goals
    go_ret
    exact ⟨rfl, HE.out _ (eqw_drew _)⟩
end Go.Proofs.YtklfnjlenbgmoaaDoor
