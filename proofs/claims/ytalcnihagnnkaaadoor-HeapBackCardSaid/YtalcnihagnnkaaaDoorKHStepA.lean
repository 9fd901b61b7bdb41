import Derived.Test.YtalcnihagnnkaaaDoorKHSideM
namespace Go.Proofs.YtalcnihagnnkaaaDoor
open Go.RowKit
set_option linter.unusedVariables false
attribute [local go_sem ↓] Go.wp_at_zero Go.wp_at_succ
def stepO (K O A B C X : Int) (ls : Value) : Obj := .cells #[.int .i64 K, .int .i64 O, .int .i64 A, .int .i64 B, .int .i64 C, .int .i64 X, ls] 58
def stepV (K O A B C X : Int) (ls : Value) : Value := .agg #[.int .i64 K, .int .i64 O, .int .i64 A, .int .i64 B, .int .i64 C, .int .i64 X, ls]
theorem stepO_cells {w : World} {Q : Nat} {K O A B C X : Int} {ls : Value} (h : w.heap[Q]? = some (stepO K O A B C X ls)) :
    w.cell? ⟨Q, 2, none⟩ = some (.int .i64 A) ∧ w.cell? ⟨Q, 3, none⟩ = some (.int .i64 B) ∧ w.cell? ⟨Q, 5, none⟩ = some (.int .i64 X) ∧ w.cell? ⟨Q, 6, none⟩ = some ls := by
  unfold stepO at h
  exact ⟨cell_in h 2, cell_in h 3, cell_in h 5, cell_in h 6⟩
/-- a step is at hand, in a block of its own -/
structure At (w0 : World) (a m : Nat) (W : World) (l : Lay) (H : HS) (M : MS) (Q : Nat) (o : Obj) : Prop where
  side : Side w0 a m W l H M
  box : W.heap[Q]? = some o
  nh : Q ∉ foot a l
  nm : Q ∉ mfoot m M
  ge : w0.heap.size ≤ Q
theorem Side.box {w0 W : World} {a m : Nat} {l : Lay} {H : HS} {M : MS} (h : Side w0 a m W l H M) (o : Obj) : At w0 a m (W.alloc o) l H M W.heap.size o :=
  ⟨h.idle (Fr.alloc [] W o), heap_alloc_new _ _, fun hb => by have := h.rep.lt _ hb; omega, fun hb => by have := h.mrep.lt _ hb; omega, h.fr.size⟩
theorem At.heap {w0 W W' : World} {a m Q : Nat} {l l' : Lay} {H H' : HS} {M : MS} {o : Obj} (h : At w0 a m W l H M Q o) (hr : Rep W' a l' H') (hx : Nx a l l' W W') : At w0 a m W' l' H' M Q o :=
  ⟨h.side.heap hr hx, (hx.1.block Q (lt_of_heap h.box) h.nh).trans h.box, fun hb => by
    rcases hx.2 Q hb with h1 | h1
    · exact h.nh h1
    · have := lt_of_heap h.box; omega, h.nm, h.ge⟩
theorem At.idle {w0 W W' : World} {a m Q : Nat} {l : Lay} {H : HS} {M : MS} {o : Obj} (h : At w0 a m W l H M Q o) (hx : Fr [] W W') : At w0 a m W' l H M Q o :=
  ⟨h.side.idle hx, (hx.block Q (lt_of_heap h.box) (by simp)).trans h.box, h.nh, h.nm, h.ge⟩
/-- what a step leaves behind -/
def Went (w0 : World) (a m : Nat) (H : HS) (w' : World) : Prop := ∃ l' H' M', Side w0 a m w' l' H' M' ∧ Inv H' M' ∧ H'.age ≤ H.age + 1
theorem tab_of {w0 W : World} (hT : Tab w0) (h2 : 2 ≤ w0.heap.size) (hf : Fr [] w0 W) : Tab W := hT.fr hf (by omega)
set_option maxRecDepth 20000 in
set_option maxHeartbeats 4000000 in
theorem step_other (K O A B C X : Int) (ls : Value) (w0 : World) (a m : Nat) (W : World) (l : Lay) (H : HS) (M : MS) (hS : Side w0 a m W l H M) (hi : Inv H M) (k1 : (K == 1) = false) (k2 : (K == 2) = false) (k3 : (K == 3) = false) (k5 : (K == 5) = false) (k7 : (K == 7) = false) (k8 : (K == 8) = false) (k11 : (K == 11) = false) :
    Calls Tryd.prog 25 #[.pointer (some ⟨m, 0, none⟩), .pointer (some ⟨a, 0, none⟩), stepV K O A B C X ls] W fun e w' => e = .returned (.bool true) ∧ Went w0 a m H w' := by
  have HE : Hid (Went w0 a m H (W.alloc (stepO K O A B C X ls))) := ⟨l, H, M, hS.idle (Fr.alloc [] _ _), hi, by omega⟩
  unfold stepV
  unfold stepO at HE
  clear hS hi
  go_enter Tryd.func25, Tryd.ntmps25
  go_wp2
  go_ret
  exact ⟨rfl, HE.out⟩
set_option maxRecDepth 20000 in
set_option maxHeartbeats 4000000 in
theorem step_mark_no (O A B C X : Int) (ls : Value) (w0 : World) (a m : Nat) (W : World) (l : Lay) (H : HS) (M : MS) (hS : Side w0 a m W l H M) (hi : Inv H M) (hA : isM A = false) :
    Calls Tryd.prog 25 #[.pointer (some ⟨m, 0, none⟩), .pointer (some ⟨a, 0, none⟩), stepV 2 O A B C X ls] W fun e w' => e = .returned (.bool true) ∧ Went w0 a m H w' := by
  have hA1 := hS.box (stepO 2 O A B C X ls)
  have HMk := mkHid (Mark_no A a l H _ hA1.side.rep hA)
  have HE : Hid (Went w0 a m H (W.alloc (stepO 2 O A B C X ls))) := ⟨l, H, M, hA1.side, hi, by omega⟩
  have hneg : A < 0 ∨ 1073741824 < A := by
    have := of_decide_eq_false hA
    omega
  unfold stepV
  unfold stepO at HE HMk
  clear hS hi hA1 hA
  rcases hneg with hneg | hneg
  · go_enter Tryd.func25, Tryd.ntmps25
    go_wp2_with (first | (go_at_call 12; refine Calls.mono HMk.out ?_; rintro e w1 ⟨rfl, rfl⟩) | (go_at_call 11; refine (num_any _ _ (by omega) (by omega)).mono ?_; rintro e w1 ⟨rfl, rfl⟩))
    go_ret
    exact ⟨rfl, HE.out⟩
  · have hpos : 0 ≤ A := by omega
    go_enter Tryd.func25, Tryd.ntmps25
    go_wp2_with (first | (go_at_call 12; refine Calls.mono HMk.out ?_; rintro e w1 ⟨rfl, rfl⟩) | (go_at_call 11; refine (num_any _ _ (by omega) (by omega)).mono ?_; rintro e w1 ⟨rfl, rfl⟩))
    go_ret
    exact ⟨rfl, HE.out⟩
set_option maxRecDepth 20000 in
set_option maxHeartbeats 4000000 in
theorem step_mark_in (O B C X : Int) (n : Nat) (ls : Value) (w0 : World) (a m : Nat) (W : World) (l : Lay) (H : HS) (M : MS) (hS : Side w0 a m W l H M) (hi : Inv H M) (hn : (n : Int) ≤ 1073741824) :
    Calls Tryd.prog 25 #[.pointer (some ⟨m, 0, none⟩), .pointer (some ⟨a, 0, none⟩), stepV 2 O n B C X ls] W fun e w' => e = .returned (.bool true) ∧ Went w0 a m H w' := by
  have hA1 := hS.box (stepO 2 O n B C X ls)
  have HMk := mkHid (Mark_in n a l H _ hA1.side.rep hn)
  have hn0 : (0 : Int) ≤ (n : Int) := by omega
  have HA := mkHid hA1
  have HI := mkHid hi
  obtain ⟨W1, hW1⟩ : ∃ W1, W1 = W.alloc (stepO 2 O n B C X ls) := ⟨_, rfl⟩
  rw [← hW1] at HMk HA
  unfold stepV
  unfold stepO at hW1
  clear hS hi hA1
  go_enter Tryd.func25, Tryd.ntmps25
  go_wp2_with fail
  rw [← hW1]
  refine Calls.mono HMk.out ?_
  rintro e w2 ⟨rfl, hr2, hf2, -⟩
  have hA2 := HA.out.heap hr2 (Nx.fr hf2)
  have HA2 := mkHid hA2
  obtain ⟨q2, -, -, -⟩ := stepO_cells hA2.box
  have c2 := hA2.side.mrep.c2
  have f2 := frozen_in hA2.side.mrep.top 2
  have hne : m ≠ W.heap.size := fun e => hA2.nm (by rw [← e]; simp [mfoot])
  have HE : Hid (Went w0 a m H (w2.setCell ⟨m, 2, none⟩ (.int .i64 (n : Int)))) := by
    refine ⟨l, { H with mark := n }, { M with mark := n }, hA2.side.model (hA2.side.mrep.setMark n) (Fr.setCell _ _ _ (by simp [mfoot])) (fun g hg => .inl hg), HI.out.setMark n hn, by show H.age ≤ H.age + 1; omega⟩
  clear hr2 hf2 hA2
  go_wp2_with (go_at_call 11; refine (num_any _ _ (by omega) (by omega)).mono ?_; rintro e w1 ⟨rfl, rfl⟩)
  go_ret
  exact ⟨rfl, HE.out⟩
set_option maxRecDepth 20000 in
set_option maxHeartbeats 4000000 in
theorem step_free_no (O A B C X : Int) (ls : Value) (w0 : World) (a m : Nat) (W : World) (l : Lay) (H : HS) (M : MS) (hS : Side w0 a m W l H M) (hi : Inv H M) (hA : mhas M A = false) :
    Calls Tryd.prog 25 #[.pointer (some ⟨m, 0, none⟩), .pointer (some ⟨a, 0, none⟩), stepV 3 O A B C X ls] W fun e w' => e = .returned (.bool true) ∧ Went w0 a m H w' := by
  have hA1 := hS.box (stepO 3 O A B C X ls)
  have HF := mkHid (Free_no A a l H _ hA1.side.rep (by rw [hi.hasM]; exact hA))
  have HA := mkHid hA1
  have HI := mkHid hi
  obtain ⟨W1, hW1⟩ : ∃ W1, W1 = W.alloc (stepO 3 O A B C X ls) := ⟨_, rfl⟩
  rw [← hW1] at HF HA
  unfold stepV
  unfold stepO at hW1
  clear hS hi hA1
  go_enter Tryd.func25, Tryd.ntmps25
  go_wp2_with fail
  rw [← hW1]
  refine Calls.mono HF.out ?_
  rintro e w2 ⟨rfl, hf2⟩
  have hA2 := HA.out.idle hf2
  obtain ⟨q2, -, -, -⟩ := stepO_cells hA2.box
  have HHas := has_ok A m M w2 hA2.side.mrep HI.out.model.len
  rw [hA] at HHas
  have HH := mkHid HHas
  have HE : Hid (Went w0 a m H w2) := ⟨l, H, M, hA2.side, HI.out, by omega⟩
  clear hf2 hA2 HHas
  go_wp2_with (first | (go_at_call 65; refine Calls.mono HH.out ?_; rintro e w1 ⟨rfl, rfl⟩) | (go_at_call 11; refine (num_any _ _ (by omega) (by omega)).mono ?_; rintro e w1 ⟨rfl, rfl⟩))
  go_ret
  exact ⟨rfl, HE.out⟩
set_option maxRecDepth 20000 in
set_option maxHeartbeats 4000000 in
theorem step_free_in (O B C X : Int) (k : Nat) (ls : Value) (w0 : World) (a m : Nat) (W : World) (l : Lay) (H : HS) (M : MS) (hS : Side w0 a m W l H M) (hi : Inv H M) (hk : k < M.things.length) (hb : (M.things.getD k noTh).there = true) (hage : (H.age : Int) ≤ 1000000000) :
    Calls Tryd.prog 25 #[.pointer (some ⟨m, 0, none⟩), .pointer (some ⟨a, 0, none⟩), stepV 3 O ((k : Int) + 1) B C X ls] W fun e w' => e = .returned (.bool true) ∧ Went w0 a m H w' := by
  have hA1 := hS.box (stepO 3 O ((k : Int) + 1) B C X ls)
  have hv := hi.toInvV.vac k hk hb
  obtain ⟨t, e0, hd, hinv⟩ := hv.draw
  have hlen := hi.model.len
  have HF := mkHid (Free_ok (k + 1) t e0 a l H _ hA1.side.rep (by rw [show ((k + 1 : Nat) : Int) = (k : Int) + 1 from by omega, hi.hasM]; exact mhas_of k hk hb) (hi.toInvV.vacOk k hk hb) hd hage)
  have HA := mkHid hA1
  have HI := mkHid hi
  have HV := mkHid hinv
  obtain ⟨W1, hW1⟩ : ∃ W1, W1 = W.alloc (stepO 3 O ((k : Int) + 1) B C X ls) := ⟨_, rfl⟩
  rw [← hW1] at HF HA
  unfold stepV
  unfold stepO at hW1
  clear hS hi hA1 hv hinv hd
  rw [show ((k + 1 : Nat) : Int) = (k : Int) + 1 from by omega] at HF
  go_enter Tryd.func25, Tryd.ntmps25
  go_wp2_with fail
  rw [← hW1]
  refine Calls.mono HF.out ?_
  rintro e w2 ⟨rfl, hr2, hx2⟩
  have hA2 := HA.out.heap hr2 hx2
  obtain ⟨q2, -, -, -⟩ := stepO_cells hA2.box
  have HHas := has_ok ((k : Int) + 1) m M w2 hA2.side.mrep HI.out.model.len
  rw [mhas_of k hk hb] at HHas
  have HH := mkHid HHas
  have hmr := hA2.side.mrep
  obtain ⟨g, hg, hc, hf, hgl⟩ := hmr.thAt (by omega)
  obtain ⟨y0, -⟩ := hc k hk
  have z0 := hf (k * 5)
  have c3 := hmr.c3
  have hgQ : g ≠ W.heap.size := fun e => hA2.nm (by rw [← e]; simp [mfoot, hg, blk])
  have k1 : (0 : Int) ≤ (k : Int) := by omega
  have k2 : (k : Int) < (M.things.length : Int) := by omega
  have HE : Hid (∀ V, Eqw (w2.setCell ⟨g, k * 5, none⟩ (.bool false)) V → Went w0 a m H V) := by
    intro V hV
    have hset := hmr.set1 hg k 0 (.bool false) (gone (M.things.getD k noTh)) hk (by omega) rfl rfl rfl rfl
    refine ⟨l, _, { M with things := M.things.set k (gone (M.things.getD k noTh)) }, (hA2.side.model hset (Fr.setCell _ _ _ (by simp [mfoot, hg, blk])) (fun g hg => .inl (mfoot_set k (gone (M.things.getD k noTh)) (fun b hb => blk_mfoot k hk b hb) g hg))).eqw hV, HV.out.aged (H.age + 1), Nat.le_refl _⟩
  have wk : IntKind.i64.wrap ((k : Int) + 1 - 1) = (k : Int) := by rw [iwrap]; unfold wrap64; omega
  rw [hg] at c3
  clear hr2 hx2 hA2 HHas hmr hc hf hg HF HV
  go_wp2_with (first | (go_at_call 65; refine Calls.mono HH.out ?_; rintro e w1 ⟨rfl, rfl⟩) | (go_at_call 11; refine (num_any _ _ (by omega) (by omega)).mono ?_; rintro e w1 ⟨rfl, rfl⟩))
  go_region
  all_goals go_wp2_with (go_at_call 11; refine (num_any _ _ (by omega) (by omega)).mono ?_; rintro e w1 ⟨rfl, rfl⟩)
  all_goals
    go_ret
    exact ⟨rfl, HE.out _ (eqw_drew _)⟩
end Go.Proofs.YtalcnihagnnkaaaDoor
