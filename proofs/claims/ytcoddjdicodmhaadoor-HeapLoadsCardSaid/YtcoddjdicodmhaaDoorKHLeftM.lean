import Derived.Test.YtcoddjdicodmhaaDoorKHHandM
import Derived.Test.YtcoddjdicodmhaaDoorKHSameM
import Derived.BigQuiet
import Derived.Deep.RegionHeld3
namespace Go.Proofs.YtcoddjdicodmhaaDoor
open Go.RowKit
set_option linter.unusedVariables false
attribute [local go_sem ↓] Go.wp_at_zero Go.wp_at_succ
def tailOf (x : HG) (j : Nat) : Int := (x.slots ++ [-77, -78]).getD j 0
/-- a copy of a state, the first k objects written over, and j slots of the next -/
structure Lf (W : World) (G : Nat) (gs : List HG) (k j0 : Nat) : Prop where
  row : ∃ cur, W.heap[G]? = some (.cells cur 106 (0, 0)) ∧ cur[gs.length * 4]? = some (.int .i64 (-79)) ∧ ∀ (i : Nat) (x : HG), gs[i]? = some x → cur[i * 4]? = some (.int .i64 (if i < k then 0 else x.oop)) ∧ cur[i * 4 + 1]? = some (.int .i64 x.cls) ∧ cur[i * 4 + 2]? = some (.int .i64 x.fmt) ∧ cur[i * 4 + 3]? = some (.slice (some ⟨x.g, 0, none⟩) x.slots.length x.cap)
  slots : ∀ (i : Nat) (x : HG), gs[i]? = some x → x.slots.length + 2 ≤ x.cap ∧ ∃ cx, W.heap[x.g]? = some (.cells cx 33 (0, 0)) ∧ ∀ j, j < x.slots.length + 2 → cx[j]? = some (.int .i64 (if i < k ∨ (i = k ∧ j < j0) then 0 else tailOf x j))
  apart : ∀ (i i' : Nat) (x x' : HG), gs[i]? = some x → gs[i']? = some x' → x.g = x'.g → i = i'
theorem Lf.idle {W V : World} {G : Nat} {gs : List HG} {k j0 : Nat} (h : Lf W G gs k j0) (hf : Fr [] W V) : Lf V G gs k j0 := by
  refine ⟨?_, fun i x hx => ?_, h.apart⟩
  · obtain ⟨cur, h1, h2⟩ := h.row
    exact ⟨cur, (hf.block _ (lt_of_heap h1) (by simp)).trans h1, h2⟩
  · obtain ⟨h0, cx, h1, h2⟩ := h.slots i x hx
    exact ⟨h0, cx, (hf.block _ (lt_of_heap h1) (by simp)).trans h1, h2⟩
theorem hgCells_at (l : List HG) : ∀ (i : Nat) (x : HG), l[i]? = some x → (hgCells l)[i * 4]? = some (.int .i64 x.oop) ∧ (hgCells l)[i * 4 + 1]? = some (.int .i64 x.cls) ∧ (hgCells l)[i * 4 + 2]? = some (.int .i64 x.fmt) ∧ (hgCells l)[i * 4 + 3]? = some (.slice (some ⟨x.g, 0, none⟩) x.slots.length x.cap) := by
  induction l with
  | nil => intro i x hx; simp at hx
  | cons o l ih =>
    intro i x hx
    have e : hgCells (o :: l) = hg4 o ++ hgCells l := by simp [hgCells]
    rw [e]
    cases i with
    | zero =>
      have : o = x := by simpa using hx
      subst this
      exact ⟨rfl, rfl, rfl, rfl⟩
    | succ i =>
      have hx' : l[i]? = some x := by simpa using hx
      have e2 : ∀ j, (hg4 o ++ hgCells l)[(i + 1) * 4 + j]? = (hgCells l)[i * 4 + j]? := fun j => by
        rw [List.getElem?_append_right (by simp [hg4]; omega), show (i + 1) * 4 + j - (hg4 o).length = i * 4 + j from by simp [hg4]; omega]
      have e0 := e2 0
      rw [Nat.add_zero, Nat.add_zero] at e0
      rw [e0, e2, e2, e2]
      exact ih i x hx'
theorem getD_pair (ss : List Int) (j : Nat) (hj : j < ss.length + 2) : ((ss ++ [-77, -78]).map (Value.int .i64))[j]? = some (.int .i64 ((ss ++ [-77, -78]).getD j 0)) := by
  have hl : j < (ss ++ [-77, -78]).length := by simpa using hj
  rw [List.getElem?_map, List.getD_eq_getElem?_getD, List.getElem?_eq_getElem hl]
  rfl
theorem Hand.lf {w W : World} {G C : Nat} {gs : List HG} (h : Hand w W G C gs) : Lf W G gs 0 0 := by
  have hr := h.row
  refine ⟨?_, fun i x hx => ?_, fun i i' x x' hx hx' e => ?_⟩
  · rcases hr.2 with ⟨h2, h3⟩ | ⟨g, cap, cur, h2, h3, h4, h5, h6, h7, h8⟩
    · cases h2
    · injection h2 with h2 _ _
      injection h2 with h2
      injection h2 with h2 _ _
      rw [← h2] at h4
      have hc : ∀ j, j < (gs.length + 1) * 4 → cur[j]? = (hgCells gs ++ [.int .i64 (-79), .int .i64 0, .int .i64 0, .slice none 0 0])[j]? := fun j hj => by
        rw [← h8, List.getElem?_take, if_pos hj, Array.getElem?_toList]
      have hlen := hgCells_len gs
      refine ⟨cur, h4, ?_, fun i x hx => ?_⟩
      · rw [hc _ (by omega), List.getElem?_append_right (by omega), hlen, Nat.sub_self]
        rfl
      · have hil := (List.getElem?_eq_some_iff.1 hx).1
        obtain ⟨a0, a1, a2, a3⟩ := hgCells_at gs i x hx
        rw [if_neg (by omega)]
        refine ⟨?_, ?_, ?_, ?_⟩
        · rw [hc _ (by omega), List.getElem?_append_left (by omega)]; exact a0
        · rw [hc _ (by omega), List.getElem?_append_left (by omega)]; exact a1
        · rw [hc _ (by omega), List.getElem?_append_left (by omega)]; exact a2
        · rw [hc _ (by omega), List.getElem?_append_left (by omega)]; exact a3
  · have hs := h.slots x (List.mem_of_getElem? hx)
    rcases hs.2 with ⟨h2, h3⟩ | ⟨g, cap, cur, h2, h3, h4, h5, h6, h7, h8⟩
    · cases h2
    · injection h2 with h2 _ h2c
      injection h2 with h2
      injection h2 with h2 _ _
      rw [← h2] at h4
      refine ⟨by omega, cur, h4, fun j hj => ?_⟩
      rw [if_neg (by omega)]
      have : cur[j]? = (hgTail x)[j]? := by rw [← h8, List.getElem?_take, if_pos (by omega), Array.getElem?_toList]
      rw [this]
      exact getD_pair x.slots j hj
  · have hn := h.apart
    have h1 : (gs.map HG.g)[i]? = some x.g := by rw [List.getElem?_map, hx]; rfl
    have h2 : (gs.map HG.g)[i']? = some x'.g := by rw [List.getElem?_map, hx']; rfl
    rw [e] at h1
    have hi1 := (List.getElem?_eq_some_iff.1 h1).1
    exact (List.getElem?_inj hi1 hn).1 (h1.trans h2.symm)
/-- a slot is written over -/
theorem Lf.setSlot {W : World} {G : Nat} {gs : List HG} {k j0 : Nat} {x : HG} (h : Lf W G gs k j0) (hx : gs[k]? = some x) (hj : j0 < x.slots.length + 2) : Lf (W.setCell ⟨x.g, j0, none⟩ (.int .i64 0)) G gs k (j0 + 1) := by
  obtain ⟨hcap, cx, hb, hc⟩ := h.slots k x hx
  obtain ⟨cur, hr, hr2⟩ := h.row
  have hne : G ≠ x.g := fun e => by rw [e, hb] at hr; simp at hr
  refine ⟨⟨cur, by rw [set_else hne]; exact hr, hr2⟩, fun i y hy => ?_, h.apart⟩
  obtain ⟨h0, cy, h1, h2⟩ := h.slots i y hy
  by_cases e : i = k
  · subst e
    have : y = x := Option.some.inj (hy.symm.trans hx)
    subst this
    refine ⟨h0, _, set_in hb j0 _, fun j hjj => ?_⟩
    have hsz : j0 < cx.size := by
      have := hc j0 hj
      exact (Array.getElem?_eq_some_iff.1 this).1
    by_cases ej : j = j0
    · subst ej
      rw [if_pos (.inr ⟨rfl, by omega⟩), Array.getElem?_setIfInBounds_self_of_lt hsz]
    · rw [Array.getElem?_setIfInBounds_ne (by omega), hc j hjj]
      by_cases ej2 : j < j0
      · rw [if_pos (.inr ⟨rfl, ej2⟩), if_pos (.inr ⟨rfl, by omega⟩)]
      · rw [if_neg (by omega), if_neg (by omega)]
  · have hg : y.g ≠ x.g := fun e2 => e (h.apart i k y x hy hx e2)
    refine ⟨h0, cy, by rw [set_else hg]; exact h1, fun j hjj => ?_⟩
    rw [h2 j hjj]
    by_cases ek : i < k
    · rw [if_pos (.inl ek), if_pos (.inl ek)]
    · rw [if_neg (by omega), if_neg (by omega)]
/-- an object is written over -/
theorem Lf.setOop {W : World} {G : Nat} {gs : List HG} {k : Nat} {x : HG} (h : Lf W G gs k (x.slots.length + 2)) (hx : gs[k]? = some x) : Lf (W.setCell ⟨G, k * 4, none⟩ (.int .i64 0)) G gs (k + 1) 0 := by
  obtain ⟨cur, hr, hr1, hr2⟩ := h.row
  have hkl := (List.getElem?_eq_some_iff.1 hx).1
  have hsz : k * 4 < cur.size := (Array.getElem?_eq_some_iff.1 (hr2 k x hx).1).1
  refine ⟨⟨_, set_in hr (k * 4) _, by rw [Array.getElem?_setIfInBounds_ne (by omega)]; exact hr1, fun i y hy => ?_⟩, fun i y hy => ?_, h.apart⟩
  · obtain ⟨a0, a1, a2, a3⟩ := hr2 i y hy
    refine ⟨?_, by rw [Array.getElem?_setIfInBounds_ne (by omega)]; exact a1, by rw [Array.getElem?_setIfInBounds_ne (by omega)]; exact a2, by rw [Array.getElem?_setIfInBounds_ne (by omega)]; exact a3⟩
    by_cases e : i = k
    · subst e
      rw [if_pos (by omega), Array.getElem?_setIfInBounds_self_of_lt hsz]
    · rw [Array.getElem?_setIfInBounds_ne (by omega), a0]
      by_cases ek : i < k
      · rw [if_pos ek, if_pos (by omega)]
      · rw [if_neg ek, if_neg (by omega)]
  · obtain ⟨h0, cy, h1, h2⟩ := h.slots i y hy
    have hne : y.g ≠ G := fun e => by rw [e, hr] at h1; simp at h1
    refine ⟨h0, cy, by rw [set_else hne]; exact h1, fun j hjj => ?_⟩
    rw [h2 j hjj]
    by_cases e : i = k
    · subst e
      have : y = x := Option.some.inj (hy.symm.trans hx)
      subst this
      rw [if_pos (.inr ⟨rfl, hjj⟩), if_pos (.inl (by omega))]
    · by_cases ek : i < k
      · rw [if_pos (.inl ek), if_pos (.inl (by omega))]
      · rw [if_neg (by omega), if_neg (by omega)]
end Go.Proofs.YtcoddjdicodmhaaDoor
namespace Go.Proofs.YtcoddjdicodmhaaDoor
open Go.RowKit
set_option linter.unusedVariables false
attribute [local go_sem ↓] Go.wp_at_zero Go.wp_at_succ
theorem tail_a (ss : List Int) : (ss ++ [(-77 : Int), -78]).getD ss.length 0 = -77 := by rw [List.getD_eq_getElem?_getD, List.getElem?_append_right (Nat.le_refl _)]; simp
theorem tail_b (ss : List Int) : (ss ++ [(-77 : Int), -78]).getD (ss.length + 1) 0 = -78 := by rw [List.getD_eq_getElem?_getD, List.getElem?_append_right (by omega)]; simp
set_option maxRecDepth 20000 in
set_option maxHeartbeats 2000000 in
theorem left_any (x y z : Int) (ov : Value) (la : List OI) (gs : List HG) (G C : Nat) (w0 w : World) (ha : SAt w0 ov la) (hk : gs.map hgKey = la.map oiKey) (hl0 : Lf w G gs 0 0) (hf0 : Fr [] w0 w) (hlo : ∀ b ∈ G :: gs.map HG.g, w0.heap.size ≤ b) :
    Calls Tryd.prog 19 #[.slice (some ⟨G, 0, none⟩) (la.length + 1) C, .agg #[.int .i64 x, .int .i64 y, .int .i64 z, ov]] w fun e w' => e = .returned (.bool true) ∧ Lf w' G gs gs.length 0 ∧ Fr (G :: gs.map HG.g) w w' := by
  have HA := mkHid ha
  have hl := ha.short
  obtain ⟨p, c, rfl, -⟩ := ha.at_
  have hgl : gs.length = la.length := by have := congrArg List.length hk; simpa using this
  obtain ⟨W1, hW1⟩ : ∃ W1, W1 = w.alloc (.cells #[.int .i64 x, .int .i64 y, .int .i64 z, .slice p la.length c] 38) := ⟨_, rfl⟩
  have F1 : Hid (Fr [] w W1) := by rw [hW1]; exact Fr.alloc [] _ _
  have hb1 : W1.heap[w.heap.size]? = some (.cells #[.int .i64 x, .int .i64 y, .int .i64 z, .slice p la.length c] 38 (0, 0)) := by rw [hW1]; exact heap_alloc_new _ _
  have HL1 := mkHid (hl0.idle F1.out)
  obtain ⟨cur, r1, r2, r3⟩ := hl0.row
  have hGl := lt_of_heap r1
  have hGw : W1.heap[G]? = some (.cells cur 106 (0, 0)) := (F1.out.block _ hGl (by simp)).trans r1
  rw [hgl] at r2
  have hm : w.cell? ⟨G, la.length * 4, none⟩ = some (.int .i64 (-79)) := by rw [cell_in r1]; exact r2
  have e3 : W1.cell? ⟨w.heap.size, 3, none⟩ = some (.slice p la.length c) := by rw [cell_in hb1]; rfl
  have hSl : ∀ i (xx : HG), gs[i]? = some xx → xx.g < w.heap.size := fun i xx hx => by
    obtain ⟨_, cx, h1, _⟩ := hl0.slots i xx hx
    exact lt_of_heap h1
  have HSl := mkHid hSl
  have HB1 := mkHid hb1
  have HK := mkHid hk
  have HLo := mkHid hlo
  have HF0 := mkHid hf0
  have k0 : (0 : Int) ≤ (la.length : Int) := by omega
  have k9 : (la.length : Int) < (la.length : Int) + 1 := by omega
  clear ha hb1 r1 r2 r3 hGw hk hlo hf0 hl0 hSl
  go_enter Tryd.func19, Tryd.ntmps19
  go_wp2_with fail
  rw [← hW1]
  clear hW1 hm
  go_loopw [6] (fun q wr => ∃ k : Nat, k ≤ la.length ∧ q = .int .i64 k ∧ Hid (Lf wr G gs k 0 ∧ Fr (G :: gs.map HG.g) W1 wr)) (fun q _ => la.length - (intOf q).toNat)
  case atStart => exact ⟨0, Nat.zero_le _, rfl, HL1.out, Fr.refl _ _⟩
  case round =>
    obtain ⟨k, hkn, rfl, hq⟩ := hrel
    obtain ⟨hlf, hfr⟩ := hq.out
    have hin : ∀ b ∈ G :: gs.map HG.g, b < w.heap.size := fun b hb => by
      rcases List.mem_cons.1 hb with e | e
      · omega
      · obtain ⟨xx, h1, rfl⟩ := List.mem_map.1 e
        obtain ⟨i, hi, he⟩ := List.getElem_of_mem h1
        exact HSl.out i xx (by rw [List.getElem?_eq_getElem hi, he])
    have b0 := (hfr.block _ (lt_of_heap HB1.out) (fun hb => by have := hin _ hb; omega)).trans HB1.out
    have s3 : wr.cell? ⟨w.heap.size, 3, none⟩ = some (.slice p la.length c) := by rw [cell_in b0]; rfl
    have k1 : (0 : Int) ≤ (k : Int) := by omega
    have Fw : Fr [] w0 wr := (HF0.out.trans F1.out (by simp)).trans hfr (fun b hb => .inr (HLo.out b hb))
    by_cases hlt : k < la.length
    · have k2 : (k : Int) < (la.length : Int) := by omega
      have k3 : (k : Int) < (la.length : Int) + 1 := by omega
      have hAk := HA.out.idle Fw
      obtain ⟨p', c', ee, hpa⟩ := hAk.at_
      injection ee with ee eeb eec
      subst ee
      subst eec
      clear eeb
      obtain ⟨g, off, rfl, hca⟩ := hpa (by omega)
      obtain ⟨o, h0, x0, x1, x2, x3⟩ := hca k hlt
      have x4 := hAk.slots o (List.mem_of_getElem? h0)
      obtain ⟨xg, hxg, hkey⟩ : ∃ xg, gs[k]? = some xg ∧ hgKey xg = oiKey o := by
        have hh := congrArg (fun l => l[k]?) HK.out
        simp only [List.getElem?_map, h0] at hh
        cases hg : gs[k]? with
        | none => rw [hg] at hh; simp at hh
        | some xg => rw [hg] at hh; simp at hh; exact ⟨xg, rfl, hh⟩
      obtain ⟨cur, r1, r2, r3⟩ := hlf.row
      obtain ⟨q0, q1, q2, q3⟩ := r3 k xg hxg
      obtain ⟨hcap, cx, u1, u2⟩ := hlf.slots k xg hxg
      obtain ⟨oo, oc, of_, os, ov⟩ := o
      obtain ⟨ho, hc, hf, hss, gg, cp⟩ := xg
      simp only [hgKey, oiKey, Prod.mk.injEq] at hkey
      obtain ⟨e1, e2, e3, e4⟩ := hkey
      subst e1 e2 e3 e4
      dsimp only at *
      rw [if_neg (by omega)] at q0
      obtain ⟨p1, c1, rfl, -⟩ := x4.at_
      have hgb : g < wr.heap.size := World.block_lt_of_cell? wr _ x0
      have hos := x4.short
      have hGl2 := lt_of_heap r1
      have m0 : wr.cell? ⟨G, k * 4, none⟩ = some (.int .i64 ho) := by rw [cell_in r1]; exact q0
      have m1 : wr.cell? ⟨G, k * 4 + 1, none⟩ = some (.int .i64 hc) := by rw [cell_in r1]; exact q1
      have m2 : wr.cell? ⟨G, k * 4 + 2, none⟩ = some (.int .i64 hf) := by rw [cell_in r1]; exact q2
      have m3 : wr.cell? ⟨G, k * 4 + 3, none⟩ = some (.slice (some ⟨gg, 0, none⟩) hss.length cp) := by rw [cell_in r1]; exact q3
      obtain ⟨V1, hV1⟩ : ∃ V1, V1 = wr.alloc (.cells #[.int .i64 ho, .int .i64 hc, .int .i64 hf, .slice p1 hss.length c1] 106) := ⟨_, rfl⟩
      have FV1 : Fr [] wr V1 := by rw [hV1]; exact Fr.alloc [] _ _
      have hBx : V1.heap[wr.heap.size]? = some (.cells #[.int .i64 ho, .int .i64 hc, .int .i64 hf, .slice p1 hss.length c1] 106 (0, 0)) := by rw [hV1]; exact heap_alloc_new _ _
      have i1 : (hss.length : Int) + 2 ≤ (cp : Int) := by omega
      have i2 : (0 : Int) ≤ (hss.length : Int) + 2 := by omega
      have hmv : ∀ j v, wr.cell? ⟨G, j, none⟩ = some v → V1.cell? ⟨G, j, none⟩ = some v := fun j v h => (FV1.cell (p := ⟨G, j, none⟩) hGl2 (by simp)).trans h
      have n0 := hmv _ _ m0
      have n1 := hmv _ _ m1
      have n2 := hmv _ _ m2
      have y0 : V1.cell? ⟨wr.heap.size, 0, none⟩ = some (.int .i64 ho) := by rw [cell_in hBx]; rfl
      have y1 : V1.cell? ⟨wr.heap.size, 1, none⟩ = some (.int .i64 hc) := by rw [cell_in hBx]; rfl
      have y2 : V1.cell? ⟨wr.heap.size, 2, none⟩ = some (.int .i64 hf) := by rw [cell_in hBx]; rfl
      have y3 : V1.cell? ⟨wr.heap.size, 3, none⟩ = some (.slice p1 hss.length c1) := by rw [cell_in hBx]; rfl
      have hgV := (FV1.block _ (lt_of_heap u1) (by simp)).trans u1
      have hcell : ∀ j, j < hss.length + 2 → V1.cell? ⟨gg, j, none⟩ = some (.int .i64 ((hss ++ [-77, -78]).getD j 0)) := fun j hj => by
        rw [cell_in hgV, u2 j hj, if_neg (by omega)]
        rfl
      have z1 := hcell hss.length (by omega)
      have z2 := hcell (hss.length + 1) (by omega)
      rw [tail_a] at z1
      rw [tail_b] at z2
      have HRdm : Rd V1 (.slice (some ⟨gg, 0, none⟩) hss.length cp) hss := by
        refine ⟨⟨some ⟨gg, 0, none⟩, cp, rfl, fun hp => ⟨gg, 0, rfl, lt_of_heap hgV, fun j hj => ?_⟩⟩, fun c hc => (by cases hc), hos⟩
        rw [Nat.zero_add, hcell j (by omega), List.getD_eq_getElem?_getD, List.getElem?_append_left hj, ← List.getD_eq_getElem?_getD]
      have HSW : Hid (∀ n, Calls Tryd.prog 60 #[.slice (some ⟨gg, 0, none⟩) hss.length cp, .slice p1 hss.length c1] (V1.drewN n) fun e w' => e = .returned (.bool true) ∧ ∃ m, w' = (V1.drewN n).drewN m) := fun n => sameWords_ok hss _ _ (V1.drewN n) (HRdm.idle (Fr.drewN [] _ _)) ((x4.idle FV1).idle (Fr.drewN [] _ _))
      have j1 : (hss.length : Int) ≤ (cp : Int) := by omega
      have j2 : (hss.length : Int) < (hss.length : Int) + 2 := by omega
      have j3 : (hss.length : Int) + 1 < (hss.length : Int) + 2 := by omega
      have j4 : (0 : Int) ≤ (hss.length : Int) := by omega
      have j5 : (0 : Int) ≤ (hss.length : Int) + 1 := by omega
      have hLV := mkHid (And.intro hlf (And.intro FV1 hxg))
      have HFr := mkHid hfr
      have hGV : G < V1.heap.size := by have := FV1.size; omega
      have hXV : wr.heap.size < V1.heap.size := lt_of_heap hBx
      clear hq hlf hfr b0 Fw hAk hpa hca x4 h0 r1 r2 r3 q0 q1 q2 q3 hcell u1 u2 hBx FV1 hmv HRdm
      go_wp2_with fail
      rw [← hV1]
      clear hV1 m0 m1 m2 m3
      go_quiet ((go_at_call 60; exact Calls.quiet_of (HSW.out _)))
      have HXn : Hid (∀ b ∈ G :: gs.map HG.g, b < V1.heap.size) := fun b hb => by have := hin b hb; have := hLV.out.2.1.size; have h9 := HFr.out.size; have h8 := F1.out.size; omega
      have hgm : gg ∈ G :: gs.map HG.g := List.mem_cons_of_mem _ (List.mem_map.2 ⟨_, List.mem_of_getElem? hLV.out.2.2, rfl⟩)
      have HL2 : Hid (Lf (V1.drewN nq) G gs k 0 ∧ Fr [] wr (V1.drewN nq)) := ⟨hLV.out.1.idle (hLV.out.2.1.trans (Fr.drewN [] _ _) (by simp)), hLV.out.2.1.trans (Fr.drewN [] _ _) (by simp)⟩
      have hxg := hLV.out.2.2
      go_wp2_with fail
      generalize V1.drewN nq = V2 at *
      have hWw : w.heap.size ≤ wr.heap.size := by have := HFr.out.size; have := F1.out.size; omega
      generalize hwr : wr.heap.size = X at *
      go_loopw [10] (fun q wv => ∃ j : Nat, j ≤ hss.length + 2 ∧ q = .int .i64 j ∧ Hid (Lf wv G gs k j ∧ Fr (G :: gs.map HG.g) V2 wv)) (fun q _ => hss.length + 2 - (intOf q).toNat)
      case atStart => exact ⟨0, Nat.zero_le _, rfl, HL2.out.1, Fr.refl _ _⟩
      case round =>
        obtain ⟨j, hjn, rfl, hv⟩ := hrel
        obtain ⟨hlf, hfr⟩ := hv.out
        have l1 : (0 : Int) ≤ (j : Int) := by omega
        by_cases hjl : j < hss.length + 2
        · have l2 : (j : Int) < (hss.length : Int) + 2 := by omega
          obtain ⟨hcap', cx, u1, u2⟩ := hlf.slots k _ hxg
          have c0 := u2 j hjl
          have cj : ∃ zz, wr.cell? ⟨gg, j, none⟩ = some (.int .i64 zz) := ⟨_, by rw [cell_in u1]; exact c0⟩
          obtain ⟨zz, cj⟩ := cj
          have fj : wr.frozen? ⟨gg, j, none⟩ = false := frozen_in u1 j
          have HN : Hid (Lf (wr.setCell ⟨gg, j, none⟩ (.int .i64 0)) G gs k (j + 1) ∧ Fr (G :: gs.map HG.g) V2 (wr.setCell ⟨gg, j, none⟩ (.int .i64 0))) := ⟨hlf.setSlot hxg hjl, hfr.trans (Fr.setCell (S := G :: gs.map HG.g) _ _ _ hgm) (fun b hb => .inl hb)⟩
          clear hv hlf hfr u1 u2 c0 hcap'
          go_wp2_with fail
          go_roundw
          case rel => exact ⟨j + 1, by omega, by go_num, HN.out⟩
          case measure => simp [intOf]; omega
        · have hje : j = hss.length + 2 := by omega
          subst hje
          obtain ⟨cur, r1, r2, r3⟩ := hlf.row
          have hGq : ∃ zz, wr.cell? ⟨G, k * 4, none⟩ = some (.int .i64 zz) := ⟨_, by rw [cell_in r1]; exact (r3 k _ hxg).1⟩
          obtain ⟨zz, hGq⟩ := hGq
          have fG : wr.frozen? ⟨G, k * 4, none⟩ = false := frozen_in r1 _
          have HN : Hid (Lf (wr.setCell ⟨G, k * 4, none⟩ (.int .i64 0)) G gs (k + 1) 0 ∧ Fr (G :: gs.map HG.g) W1 (wr.setCell ⟨G, k * 4, none⟩ (.int .i64 0))) := by
            refine ⟨hlf.setOop hxg, ?_⟩
            have h1 := HFr.out.trans HL2.out.2 (by simp)
            exact (h1.trans hfr (fun b hb => .inl hb)).trans (Fr.setCell (S := G :: gs.map HG.g) _ _ _ (by simp)) (fun b hb => .inl hb)
          clear hv hlf hfr r1 r2 r3
          go_wp2_with fail
          trace_state
          go_roundw
          case rel => exact ⟨k + 1, by omega, by go_num, HN.out⟩
          case measure => simp [intOf]; omega
    · have hke : k = la.length := by omega
      subst hke
      go_wp2_with fail
      go_ret
      refine ⟨rfl, by rw [hgl]; exact hlf, (F1.out.mono (by simp)).trans hfr (fun b hb => .inl hb)⟩
end Go.Proofs.YtcoddjdicodmhaaDoor
