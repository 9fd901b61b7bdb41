import Derived.Test.YtklfnjlenbgmoaaDoorAG41HLoadX
import Derived.BigQuiet
import Derived.Test.YtklfnjlenbgmoaaDoorAG45HAg3
import Derived.Test.YtklfnjlenbgmoaaDoorAHAgC
import Derived.Test.YtklfnjlenbgmoaaDoorAG35HKeepsOpen
import Derived.Test.YtklfnjlenbgmoaaDoorAHStateX
namespace Go.Proofs.YtklfnjlenbgmoaaDoor
open Go.RowKit
set_option linter.unusedVariables false
attribute [local go_sem ↓] Go.wp_at_zero Go.wp_at_succ
set_option maxRecDepth 20000 in
set_option maxHeartbeats 600000 in
theorem sameWords_ok (ss : List Int) (va vb : Value) (w : World) (ha : Rd w va ss) (hb : Rd w vb ss) :
    Calls Tryd.prog 60 #[va, vb] w fun e w' => e = .returned (.bool true) ∧ ∃ n, w' = w.drewN n := by
  obtain ⟨pa, ca, rfl, hpa⟩ := ha.at_
  obtain ⟨pb, cb, rfl, hpb⟩ := hb.at_
  have hl := ha.short
  clear ha hb
  have HA := mkHid hpa
  have HB := mkHid hpb
  clear hpa hpb
  go_enter Tryd.func60, Tryd.ntmps60
  go_wp2_with fail
  go_loopw [5] (fun q wr => ∃ k : Nat, k ≤ ss.length ∧ q = .int .i64 k ∧ Hid (∃ n, wr = w.drewN n)) (fun q _ => ss.length - (intOf q).toNat)
  case atStart => exact ⟨0, Nat.zero_le _, rfl, 0, rfl⟩
  case round =>
    obtain ⟨k, hkn, rfl, hq⟩ := hrel
    by_cases hlt : k < ss.length
    · obtain ⟨ga, oa, rfl, -, hca⟩ := HA.out (by omega)
      obtain ⟨gb, ob, rfl, -, hcb⟩ := HB.out (by omega)
      obtain ⟨n, hn⟩ := hq.out
      have x1 : wr.cell? ⟨ga, oa + k, none⟩ = some (.int .i64 (ss.getD k 0)) := by rw [hn]; exact hca k hlt
      have x2 : wr.cell? ⟨gb, ob + k, none⟩ = some (.int .i64 (ss.getD k 0)) := by rw [hn]; exact hcb k hlt
      have k1 : (0 : Int) ≤ (k : Int) := by omega
      have k2 : (k : Int) < (ss.length : Int) := by omega
      have HD : Hid (∀ m, ∃ n, wr.drewN m = w.drewN n) := fun m => ⟨n + m, by rw [hn]; simp [World.drewN, Nat.add_assoc]⟩
      generalize ss.getD k 0 = z at *
      clear hca hcb hq hn HA HB
      go_wp2_with fail
      go_quiet (fail)
      go_wp2_with fail
      go_roundw
      case rel => exact ⟨k + 1, by omega, by go_num, HD.out _⟩
      case measure => simp [intOf]; omega
    · have hke : k = ss.length := by omega
      subst hke
      go_wp2_with fail
      go_ret
      exact ⟨rfl, hq.out⟩
end Go.Proofs.YtklfnjlenbgmoaaDoor
namespace Go.Proofs.YtklfnjlenbgmoaaDoor
open Go.RowKit
set_option linter.unusedVariables false
attribute [local go_sem ↓] Go.wp_at_zero Go.wp_at_succ
set_option maxRecDepth 20000 in
set_option maxHeartbeats 1000000 in
theorem sameState_at (x y z : Int) (oa ob : Value) (la lb : List OI) (w : World) (ha : SAt w oa la) (hb : SAt w ob lb) (hk : la.map oiKey = lb.map oiKey) :
    Calls Tryd.prog 22 #[.agg #[.int .i64 x, .int .i64 y, .int .i64 z, oa], .agg #[.int .i64 x, .int .i64 y, .int .i64 z, ob]] w fun e w' => e = .returned (.bool true) ∧ Fr [] w w' := by
  have hll : lb.length = la.length := by have := congrArg List.length hk; simpa using this.symm
  have HA := mkHid ha
  have HB := mkHid hb
  have HK := mkHid hk
  have hl := ha.short
  obtain ⟨pa, ca, rfl, -⟩ := ha.at_
  obtain ⟨pb, cb, rfl, -⟩ := hb.at_
  rw [hll] at HB ⊢
  clear ha hb hk
  obtain ⟨W1, hW1⟩ : ∃ W1, W1 = (w.alloc (.cells #[.int .i64 x, .int .i64 y, .int .i64 z, .slice pa la.length ca] 38)).alloc (.cells #[.int .i64 x, .int .i64 y, .int .i64 z, .slice pb la.length cb] 38) := ⟨_, rfl⟩
  have F1 : Hid (Fr [] w W1) := by rw [hW1]; exact (Fr.alloc [] _ _).trans (Fr.alloc [] _ _) (by simp)
  have HC : Hid (W1.heap[w.heap.size]? = some (.cells #[.int .i64 x, .int .i64 y, .int .i64 z, .slice pa la.length ca] 38 (0, 0)) ∧ W1.heap[w.heap.size + 1]? = some (.cells #[.int .i64 x, .int .i64 y, .int .i64 z, .slice pb la.length cb] 38 (0, 0))) := by
    rw [hW1]
    refine ⟨?_, ?_⟩
    · rw [Below.heap_alloc _ _ _ (by simp)]; exact heap_alloc_new _ _
    · have := heap_alloc_new (w.alloc (.cells #[.int .i64 x, .int .i64 y, .int .i64 z, .slice pa la.length ca] 38)) (.cells #[.int .i64 x, .int .i64 y, .int .i64 z, .slice pb la.length cb] 38)
      simpa using this
  go_enter Tryd.func22, Tryd.ntmps22
  go_wp2_with fail
  rw [← hW1]
  clear hW1
  go_loopw [5] (fun q wr => ∃ k : Nat, k ≤ la.length ∧ q = .int .i64 k ∧ Hid (Fr [] W1 wr)) (fun q _ => la.length - (intOf q).toNat)
  case atStart => exact ⟨0, Nat.zero_le _, rfl, Fr.refl _ _⟩
  case round =>
    obtain ⟨k, hkn, rfl, hf⟩ := hrel
    have b0 := (hf.out.block _ (lt_of_heap HC.out.1) (by simp)).trans HC.out.1
    have b1 := (hf.out.block _ (lt_of_heap HC.out.2) (by simp)).trans HC.out.2
    have e0 : wr.cell? ⟨w.heap.size, 3, none⟩ = some (.slice pa la.length ca) := by rw [cell_in b0]; rfl
    have e1 : wr.cell? ⟨w.heap.size + 1, 3, none⟩ = some (.slice pb la.length cb) := by rw [cell_in b1]; rfl
    have hB1 := lt_of_heap b1
    by_cases hlt : k < la.length
    · have Fk := F1.out.trans hf.out (by simp)
      have hAk := HA.out.idle Fk
      have hBk := HB.out.idle Fk
      obtain ⟨pa', ca', e2, hpa⟩ := hAk.at_
      injection e2 with e2 e2b e2c
      subst e2
      subst e2c
      clear e2b
      obtain ⟨pb', cb', e3, hpb⟩ := hBk.at_
      injection e3 with e3 e3b e3c
      subst e3
      subst e3c
      clear e3b
      obtain ⟨ga, fa, rfl, hca⟩ := hpa (by omega)
      obtain ⟨gb, fb, rfl, hcb⟩ := hpb (by omega)
      obtain ⟨o, h0, x0, x1, x2, x3⟩ := hca k hlt
      have x4 := hAk.slots o (List.mem_of_getElem? h0)
      obtain ⟨o', h0', y0, y1, y2, y3⟩ := hcb k (by omega)
      have y4 := hBk.slots o' (List.mem_of_getElem? h0')
      have hkey : oiKey o = oiKey o' := by
        have := congrArg (fun l => l[k]?) HK.out
        simp only [List.getElem?_map, h0, h0'] at this
        simpa using this
      have hgl : ga < wr.heap.size := World.block_lt_of_cell? wr ⟨ga, fa + k * 4, none⟩ x0
      have hgl2 : gb < wr.heap.size := World.block_lt_of_cell? wr ⟨gb, fb + k * 4, none⟩ y0
      obtain ⟨oo, oc, of_, os, ov⟩ := o
      obtain ⟨oo', oc', of', os', ov'⟩ := o'
      simp only [oiKey, Prod.mk.injEq] at hkey
      obtain ⟨rfl, rfl, rfl, rfl⟩ := hkey
      dsimp only at *
      have HSW : Hid (∀ V, Hid (Fr [] wr V) → Calls Tryd.prog 60 #[ov, ov'] V fun e w' => e = .returned (.bool true) ∧ Hid (Fr [] wr w')) := by
        intro V hV
        refine Calls.mono (sameWords_ok os ov ov' V (x4.idle hV.out) (y4.idle hV.out)) ?_
        rintro e w' ⟨rfl, n, rfl⟩
        exact ⟨rfl, hV.out.trans (Fr.drewN [] _ _) (by simp)⟩
      obtain ⟨p1, c1, rfl⟩ : ∃ p c, ov = .slice p os.length c := by
        obtain ⟨p, c, h, _⟩ := x4.at_
        exact ⟨p, c, h⟩
      obtain ⟨p2, c2, rfl⟩ : ∃ p c, ov' = .slice p os.length c := by
        obtain ⟨p, c, h, _⟩ := y4.at_
        exact ⟨p, c, h⟩
      have k1 : (0 : Int) ≤ (k : Int) := by omega
      have k2 : (k : Int) < (la.length : Int) := by omega
      have HS2 := mkHid (HSW.out ((wr.alloc (.cells #[.int .i64 oo, .int .i64 oc, .int .i64 of_, .slice p1 os.length c1] 106)).alloc (.cells #[.int .i64 oo, .int .i64 oc, .int .i64 of_, .slice p2 os.length c2] 106)) ((Fr.alloc [] _ _).trans (Fr.alloc [] _ _) (by simp)))
      generalize os.length = sn at *
      clear hAk hBk hca hcb hpa hpb x4 y4 b0 b1 HSW HK HA HB h0 h0' Fk hll
      go_wp2_with (go_at_call 60; refine Calls.mono HS2.out ?_; rintro e w5 ⟨rfl, hf5⟩)
      go_roundw
      case rel => exact ⟨k + 1, by omega, by go_num, hf.out.trans hf5.out (by simp)⟩
      case measure => simp [intOf]; omega
    · have hke : k = la.length := by omega
      subst hke
      go_wp2_with fail
      go_ret
      exact ⟨rfl, F1.out.trans hf.out (by simp)⟩
theorem sameState_ok (x y z : Nat) (oa ob : Value) (la lb : List OS) (ba bb : Nat) (w : World) (ha : SRep w ba oa la) (hb : SRep w bb ob lb) (hk : la.map osKey = lb.map osKey) (hl : la.length ≤ 1048576) (hsl : ∀ o ∈ la, o.slots.length ≤ 8192) :
    Calls Tryd.prog 22 #[.agg #[.int .i64 (x : Int), .int .i64 (y : Int), .int .i64 (z : Int), oa], .agg #[.int .i64 (x : Int), .int .i64 (y : Int), .int .i64 (z : Int), ob]] w fun e w' => e = .returned (.bool true) ∧ Fr [] w w' := by
  have hll : lb.length = la.length := by have := congrArg List.length hk; simpa using this.symm
  have hsb : ∀ o ∈ lb, o.slots.length ≤ 8192 := fun o ho => by
    have h1 : osKey o ∈ la.map osKey := by rw [hk]; exact List.mem_map_of_mem ho
    obtain ⟨u, hu, he⟩ := List.mem_map.1 h1
    have e2 : u.slots = o.slots := by simp only [osKey, Prod.mk.injEq] at he; exact he.2.2.2
    rw [← e2]; exact hsl u hu
  refine sameState_at x y z oa ob (la.map toOI) (lb.map toOI) w (ha.sat (by omega) (fun o ho => by have := hsl o ho; omega)) (hb.sat (by omega) (fun o ho => by have := hsb o ho; omega)) ?_
  have e : oiKey ∘ toOI = (fun k : Nat × Int × Nat × List Int => ((k.1 : Int), k.2.1, (k.2.2.1 : Int), k.2.2.2)) ∘ osKey := rfl
  rw [List.map_map, List.map_map, e, ← List.map_map, ← List.map_map, hk]
end Go.Proofs.YtklfnjlenbgmoaaDoor
namespace Go.Proofs.YtklfnjlenbgmoaaDoor
open Go.RowKit
set_option linter.unusedVariables false
/-- two heaps with their models, in one memory -/
structure Two (w0 W : World) (a m b c : Nat) (l lg : Lay) (H G : HS) (M C : MS) : Prop where
  p1 : Side [] w0 a m W l H M
  p2 : Side [] w0 b c W lg G C
  sep : ∀ x, x ∈ foot a l ++ mfoot m M → x ∉ foot b lg ++ mfoot c C
theorem Two.swap {w0 W : World} {a m b c : Nat} {l lg : Lay} {H G : HS} {M C : MS} (h : Two w0 W a m b c l lg H G M C) : Two w0 W b c a m lg l G H C M :=
  ⟨h.p2, h.p1, fun x hx hy => h.sep x hy hx⟩
theorem Two.side {w0 W : World} {a m b c : Nat} {l lg : Lay} {H G : HS} {M C : MS} (h : Two w0 W a m b c l lg H G M C) : Side (foot a l ++ mfoot m M) W a m W l H M :=
  ⟨h.p1.rep, h.p1.mrep, h.p1.sep, Fr.refl _ _, fun x hx => .inl (List.mem_append_left _ hx), fun x hx => .inl (List.mem_append_right _ hx)⟩
theorem Two.ge {w0 W : World} {a m b c : Nat} {l lg : Lay} {H G : HS} {M C : MS} (h : Two w0 W a m b c l lg H G M C) : ∀ x ∈ foot a l ++ mfoot m M, w0.heap.size ≤ x := by
  intro x hx
  rcases List.mem_append.1 hx with h1 | h1
  · rcases h.p1.geh x h1 with h2 | h2
    · simp at h2
    · exact h2
  · rcases h.p1.gem x h1 with h2 | h2
    · simp at h2
    · exact h2
theorem Two.first {w0 W W' : World} {a m b c : Nat} {l lg l' : Lay} {H G H' : HS} {M C M' : MS} (h : Two w0 W a m b c l lg H G M C) (hs : Side (foot a l ++ mfoot m M) W a m W' l' H' M') : Two w0 W' a m b c l' lg H' G M' C := by
  have hfr : Fr [] w0 W' := h.p1.fr.trans hs.fr (fun x hx => .inr (h.ge x hx))
  have hz := h.p1.fr.size
  refine ⟨⟨hs.rep, hs.mrep, hs.sep, hfr, fun x hx => .inr ?_, fun x hx => .inr ?_⟩, ⟨h.p2.rep.keep hs.fr (fun g hg hD => h.sep g hD (List.mem_append_left _ hg)), h.p2.mrep.keep hs.fr (fun g hg hD => h.sep g hD (List.mem_append_right _ hg)), h.p2.sep, hfr, h.p2.geh, h.p2.gem⟩, fun x hx hy => ?_⟩
  · rcases hs.geh x hx with h1 | h1
    · exact h.ge x h1
    · omega
  · rcases hs.gem x hx with h1 | h1
    · exact h.ge x h1
    · omega
  · have hlt : x < W.heap.size := by
      rcases List.mem_append.1 hy with h1 | h1
      · exact h.p2.rep.lt x h1
      · exact h.p2.mrep.lt x h1
    have hin : x ∈ foot a l ++ mfoot m M := by
      rcases List.mem_append.1 hx with h1 | h1
      · rcases hs.geh x h1 with h2 | h2
        · exact h2
        · omega
      · rcases hs.gem x h1 with h2 | h2
        · exact h2
        · omega
    exact h.sep x hin hy
theorem Two.idle {w0 W W' : World} {a m b c : Nat} {l lg : Lay} {H G : HS} {M C : MS} (h : Two w0 W a m b c l lg H G M C) (hf : Fr [] W W') : Two w0 W' a m b c l lg H G M C := ⟨h.p1.idle hf, h.p2.idle hf, h.sep⟩
theorem LsAt.keep {w W : World} {ao : Option Addr} {c : Nat} {zs : List Int} (h : LsAt w ao c zs) (hf : Fr [] w W) : LsAt W ao c zs := by
  refine ⟨h.nil, fun hz => ?_, h.short⟩
  obtain ⟨b, off, h1, h2, h3⟩ := h.row hz
  exact ⟨b, off, h1, Nat.lt_of_lt_of_le h2 hf.size, fun j hj => (hf.cell (p := ⟨b, off + j, none⟩) h2 (by simp)).trans (h3 j hj)⟩
/-- one of two pairs goes a step -/
theorem two_step (K O A B C' X : Int) (zs : List Int) (ao : Option Addr) (cc : Nat) (w0 W : World) (a m b c : Nat) (l lg : Lay) (H G : HS) (M C : MS) (h : Two w0 W a m b c l lg H G M C) (hi : Inv H M) (hL : LsAt w0 ao cc zs) (hage : H.age ≤ 1000000) (hT : Tab w0) (hT2 : Tab64 w0) (h2 : 2 ≤ w0.heap.size) :
    Calls Tryd.prog 25 #[.pointer (some ⟨m, 0, none⟩), .pointer (some ⟨a, 0, none⟩), stepV K O A B C' X (.slice ao zs.length cc)] W fun e w' => e = .returned (.bool true) ∧ ∃ l' H' M', Two w0 w' a m b c l' lg H' G M' C ∧ Inv H' M' ∧ H'.age ≤ H.age + 1 ∧ Lk M' (nextM M K A B X zs) := by
  have hz := h.p1.fr.size
  refine Calls.mono (step_any K O A B C' X zs ao cc (foot a l ++ mfoot m M) W a m W l H M h.side hi (hL.keep h.p1.fr) (fun hne b off e hD => ?_) (by omega) (hT.fr h.p1.fr (by omega)) (hT2.keep h.p1.fr (by omega) (by simp)) (by omega) (fun b hb => by have := h.ge b hb; omega)) ?_
  · obtain ⟨b', off', h1, h3, -⟩ := hL.row hne
    rw [e] at h1
    injection h1 with h1
    injection h1 with h1
    have := h.ge b hD
    omega
  · rintro e w' ⟨rfl, l', H', M', hs, hi', ha', hl'⟩
    exact ⟨rfl, l', H', M', h.first hs, hi', ha', hl'⟩
theorem mem_allTo {H : HS} {n o : Nat} : o ∈ allTo H n ↔ o < n ∧ 0 < (H.seats.getD o (0, 0, 0)).2.1 := by
  unfold allTo
  rw [List.mem_filter, List.mem_range]
  simp
theorem Inv.all_has {H : HS} {M : MS} (h : Inv H M) : ∀ j ∈ allTo H H.seats.length, mhas M (j : Int) = true := by
  intro j hj
  obtain ⟨h1, h2⟩ := mem_allTo.1 hj
  have hl := h.len
  have hj0 : j ≠ 0 := fun e => by rw [e, h.seat0] at h2; omega
  have ht := (h.there (j - 1) (by omega)).2 (by rw [show j - 1 + 1 = j from by omega]; omega)
  have := mhas_of (M := M) (j - 1) (by omega) ht
  rwa [show ((j - 1 : Nat) : Int) + 1 = (j : Int) from by omega] at this
theorem Inv.all_in {H : HS} {M : MS} (h : Inv H M) : ∀ i, (M.things.getD i noTh).there = true → i + 1 ∈ allTo H H.seats.length := by
  intro i hb
  exact mem_allTo.2 ⟨h.toInvV.seatIn i (th_in hb) hb, Nat.pos_of_ne_zero ((h.there i (th_in hb)).1 hb)⟩
theorem toOI_keys (l : List OS) : (l.map toOI).map oiKey = (l.map osKey).map natKey2 := by rw [List.map_map, List.map_map]; rfl
/-- the state of a heap, as it is handed on -/
theorem SRep.state {w : World} {base : Nat} {ov : Value} {ls : List OS} {H : HS} {M : MS} (h : SRep w base ov ls) (hi : Inv H M) (hk : ls.map osKey = stKeys H M.things H.order.length) : SAt w ov (ls.map toOI) ∧ (ls.map toOI).map oiKey = keysH H M ∧ ls.length ≤ 1048576 ∧ ∀ o ∈ ls, o.slots.length ≤ 8192 := by
  have hl : ls.length ≤ 1048576 := by
    have e1 : ls.length = (stKeys H M.things H.order.length).length := by rw [← hk, List.length_map]
    rw [e1]
    unfold stKeys
    rw [List.length_map]
    refine Nat.le_trans (List.length_filter_le _ _) ?_
    rw [List.take_length]
    have := hi.safe.order
    omega
  have hs : ∀ o ∈ ls, o.slots.length ≤ 8192 := fun o ho => by
    have : osKey o ∈ stKeys H M.things H.order.length := by rw [← hk]; exact List.mem_map_of_mem ho
    unfold stKeys at this
    obtain ⟨x, hx1, hx2⟩ := List.mem_map.1 this
    have hsl : o.slots = (M.things.getD (x - 1) noTh).slots := by
      have := congrArg (fun z => z.2.2.2) hx2
      exact this.symm
    rw [hsl]
    by_cases hxl : x - 1 < M.things.length
    · have := hi.model.slots (x - 1) hxl; omega
    · rw [List.getD_eq_getElem?_getD, List.getElem?_eq_none (by omega)]; simp [noTh]
  refine ⟨h.sat (by omega) (fun o ho => by have := hs o ho; omega), ?_, hl, hs⟩
  rw [toOI_keys, hk, stKeys_live]
  rfl
theorem keysH_le {H : HS} {M : MS} (h : Inv H M) : ∀ k ∈ keysH H M, k.1 ≤ (M.things.length : Int) := by
  intro k hk
  obtain ⟨u, u1, u2⟩ := List.mem_map.1 hk
  obtain ⟨x, x1, x2⟩ := List.mem_map.1 u1
  obtain ⟨i, e, hi, -⟩ := h.toInvV.liveIn x x1
  rw [← u2, ← x2]
  show (x : Int) ≤ _
  omega
/-- the states of two heaps that say the same are the same -/
theorem two_same {H G : HS} {M C : MS} (hi : Inv H M) (gi : Inv G C) (hl : Lk M C) (oa ob : Value) (la lb : List OS) (ba bb : Nat) (w : World) (ha : SRep w ba oa la) (hb : SRep w bb ob lb) (hka : la.map osKey = stKeys G C.things G.order.length) (hkb : lb.map osKey = stKeys H M.things H.order.length) :
    Calls Tryd.prog 22 #[.agg #[.int .i64 (G.words : Int), .int .i64 (G.oops : Int), .int .i64 (G.mark : Int), oa], .agg #[.int .i64 (H.words : Int), .int .i64 (H.oops : Int), .int .i64 (H.mark : Int), ob]] w fun e w' => e = .returned (.bool true) ∧ Fr [] w w' := by
  obtain ⟨-, -, h1, h2⟩ := ha.state gi hka
  have e1 : H.words = G.words := by rw [hi.words, gi.words, hl.words]
  have e2 : H.oops = G.oops := by rw [hi.oops, gi.oops, hl.oops]
  have e3 : H.mark = G.mark := by rw [hi.mark, gi.mark, hl.mark]
  rw [e1, e2, e3]
  exact sameState_ok G.words G.oops G.mark oa ob la lb ba bb w ha hb (by rw [hka, hkb, keys_one hi.toInvV gi.toInvV hl]) h1 h2
theorem slid_good {M : MS} (h : Good M) : Good { M with things := slidN M.things 0 (thereTo M.things M.things.length) } := good_slid _ _ _ h
theorem MOk.lk {M C : MS} (h : MOk M) (hl : Lk C M) : MOk C :=
  ⟨by rw [hl.len]; exact h.len, fun k hk => by rw [(hl.fields k).2.2.2.2]; exact h.slots k (by rw [← hl.len]; exact hk), fun k hk => by rw [(hl.fields k).2.2.2.1]; exact h.place k (by rw [← hl.len]; exact hk)⟩
/-- a copy of a model lies in memory -/
theorem Cs.mrep {W : World} {base : Nat} {M : MS} {T : List Th} {pt : Option Addr} {ct : Nat} (h : Cs W base T pt ct) : MRep (W.alloc (.cells #[.int .i64 (M.words : Int), .int .i64 (M.oops : Int), .int .i64 (M.mark : Int), .slice pt T.length ct] 55)) W.heap.size ⟨M.words, M.oops, M.mark, T, pt, ct⟩ ∧ ∀ g ∈ mfoot W.heap.size ⟨M.words, M.oops, M.mark, T, pt, ct⟩, g = W.heap.size ∨ (base ≤ g ∧ g < W.heap.size) := by
  refine ⟨⟨heap_alloc_new _ _, own_base (h.row.alloc _) (Nat.zero_le _), fun t ht => own_base ((h.slots t ht).alloc _) (Nat.zero_le _), h.apart⟩, fun g hg => ?_⟩
  simp only [mfoot, List.mem_cons, List.mem_append] at hg
  rcases hg with h1 | h1 | h1
  · exact .inl h1
  · exact .inr (h.row.lt g ((blk_own _ _ _ _).2 h1))
  · obtain ⟨t, ht, hb⟩ := List.mem_flatMap.1 h1
    exact .inr ((h.slots t ht).lt g ((blk_own _ _ _ _).2 hb))
end Go.Proofs.YtklfnjlenbgmoaaDoor
