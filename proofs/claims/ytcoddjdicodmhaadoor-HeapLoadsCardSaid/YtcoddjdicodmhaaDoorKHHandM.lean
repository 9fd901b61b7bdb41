import Derived.Test.YtcoddjdicodmhaaDoorKHRd
import Derived.Deep.RegionLaw
namespace Go.Proofs.YtcoddjdicodmhaaDoor
open Go.RowKit
set_option linter.unusedVariables false
/-- an object of a state in memory of its own, marks behind its slots -/
structure HG where
  oop : Int
  cls : Int
  fmt : Int
  slots : List Int
  g : Nat
  cap : Nat
def hg4 (x : HG) : List Value := [.int .i64 x.oop, .int .i64 x.cls, .int .i64 x.fmt, .slice (some ⟨x.g, 0, none⟩) x.slots.length x.cap]
def hgCells (l : List HG) : List Value := l.flatMap hg4
def hgKey (x : HG) : Int × Int × Int × List Int := (x.oop, x.cls, x.fmt, x.slots)
theorem hgCells_append (l : List HG) (o : HG) : hgCells (l ++ [o]) = hgCells l ++ hg4 o := by simp [hgCells]
theorem hgCells_len (l : List HG) : (hgCells l).length = l.length * 4 := by
  induction l with
  | nil => rfl
  | cons x l ih =>
    show (hg4 x ++ hgCells l).length = _
    rw [List.length_append, ih]
    simp [hg4]; omega
def hgTail (x : HG) : List Value := (x.slots ++ [-77, -78]).map (Value.int .i64)
/-- a copy of the first objects of a state is being made -/
structure Hd (w W : World) (lv : Value) (gs : List HG) : Prop where
  fr : Fr [] w W
  row : W.ownsRow (w.heap.size + 2) 106 4 lv gs.length (hgCells gs)
  slots : ∀ x ∈ gs, W.ownsRow (w.heap.size + 2) 33 1 (.slice (some ⟨x.g, 0, none⟩) (x.slots.length + 2) x.cap) (x.slots.length + 2) (hgTail x)
  apart : (gs.map HG.g).Nodup
theorem Hd.idle {w W V : World} {lv : Value} {gs : List HG} (h : Hd w W lv gs) (hf : Fr [] W V) : Hd w V lv gs :=
  ⟨h.fr.trans hf (by simp), own_congr h.row fun g hg => hf.block g (h.row.lt g hg).2 (by simp), fun x hx => own_congr (h.slots x hx) fun g hg => hf.block g ((h.slots x hx).lt g hg).2 (by simp), h.apart⟩
theorem own_type {w : World} {b1 b2 : Nat} {t1 t2 : TypeId} {s1 s2 : Nat} {v1 v2 : Value} {n1 n2 : Nat} {x1 x2 : List Value} (h1 : w.ownsRow b1 t1 s1 v1 n1 x1) (h2 : w.ownsRow b2 t2 s2 v2 n2 x2) (ht : t1 ≠ t2) {g : Nat} (e1 : v1.ownBlock = some g) (e2 : v2.ownBlock = some g) : False := by
  rcases h1.2 with ⟨q1, _⟩ | ⟨g1, cap1, cur1, q1, q2, q3, _⟩
  · rw [q1] at e1; simp [Value.ownBlock] at e1
  · rcases h2.2 with ⟨r1, _⟩ | ⟨g2, cap2, cur2, r1, r2, r3, _⟩
    · rw [r1] at e2; simp [Value.ownBlock] at e2
    · rw [q1] at e1
      rw [r1] at e2
      have a1 : g1 = g := by simpa [Value.ownBlock] using e1
      have a2 : g2 = g := by simpa [Value.ownBlock] using e2
      subst a1
      subst a2
      rw [q3] at r3
      simp at r3
      exact ht r3.2
/-- one object more -/
theorem Hd.next {w W V W2 : World} {lv lv' : Value} {gs : List HG} {x : HG} (h : Hd w W lv gs) (hV : Fr [] W V) (ho : V.ownsRow W.heap.size 33 1 (.slice (some ⟨x.g, 0, none⟩) (x.slots.length + 2) x.cap) (x.slots.length + 2) (hgTail x)) (hW : w.heap.size + 2 ≤ W.heap.size)
    (hg : V.grownBy W2 lv.ownBlock) (hown : W2.ownsRow (w.heap.size + 2) 106 4 lv' (gs.length + 1) (hgCells gs ++ hg4 x)) : Hd w W2 lv' (gs ++ [x]) := by
  have h1 := h.idle hV
  have hb : ∀ b, lv.ownBlock = some b → w.heap.size + 2 ≤ b := fun b hb => (h.row.lt b hb).1
  have hsl : ∀ y : HG, V.ownsRow (w.heap.size + 2) 33 1 (.slice (some ⟨y.g, 0, none⟩) (y.slots.length + 2) y.cap) (y.slots.length + 2) (hgTail y) → W2.ownsRow (w.heap.size + 2) 33 1 (.slice (some ⟨y.g, 0, none⟩) (y.slots.length + 2) y.cap) (y.slots.length + 2) (hgTail y) := fun y hy =>
    own_congr hy fun g hgg => hg.block g (hy.lt g hgg).2 (fun e => own_type hy h1.row (by decide) hgg e.symm)
  have ho' := own_base ho (show w.heap.size + 2 ≤ W.heap.size from hW)
  refine ⟨?_, by rw [List.length_append, hgCells_append]; exact hown, fun y hy => ?_, ?_⟩
  · exact (h1.fr).trans (Fr.grown (S := (lv.ownBlock).toList) hg (fun k hk => by rw [hk]; simp)) (fun b hb' => by
      right
      have : lv.ownBlock = some b := by
        cases hl : lv.ownBlock with
        | none => rw [hl] at hb'; simp at hb'
        | some z => rw [hl] at hb'; simp at hb'; rw [hb']
      have := hb b this
      omega)
  · rcases List.mem_append.1 hy with h2 | h2
    · exact hsl y (h1.slots y h2)
    · have e : y = x := by simpa using h2
      rw [e]
      exact hsl x ho'
  · rw [List.map_append, List.nodup_append]
    refine ⟨h.apart, by simp, fun a ha b hb2 => ?_⟩
    have e : b = x.g := by simpa using hb2
    obtain ⟨y, hy, rfl⟩ := List.mem_map.1 ha
    have h3 := ((h.slots y hy).lt y.g rfl).2
    have h4 := (ho.lt x.g rfl).1
    omega
end Go.Proofs.YtcoddjdicodmhaaDoor
namespace Go.Proofs.YtcoddjdicodmhaaDoor
open Go.RowKit
set_option linter.unusedVariables false
attribute [local go_sem ↓] Go.wp_at_zero Go.wp_at_succ
/-- a state in memory of its own, with marks behind its lists -/
structure Hand (w W : World) (G C : Nat) (gs : List HG) : Prop where
  fr : Fr [] w W
  row : W.ownsRow (w.heap.size + 2) 106 4 (.slice (some ⟨G, 0, none⟩) (gs.length + 1) C) (gs.length + 1) (hgCells gs ++ [.int .i64 (-79), .int .i64 0, .int .i64 0, .slice none 0 0])
  slots : ∀ x ∈ gs, W.ownsRow (w.heap.size + 2) 33 1 (.slice (some ⟨x.g, 0, none⟩) (x.slots.length + 2) x.cap) (x.slots.length + 2) (hgTail x)
  apart : (gs.map HG.g).Nodup
set_option maxRecDepth 20000 in
set_option maxHeartbeats 2000000 in
theorem hand_any (x y z : Int) (ov : Value) (la : List OI) (w : World) (ha : SAt w ov la) :
    Calls Tryd.prog 16 #[.agg #[.int .i64 x, .int .i64 y, .int .i64 z, ov]] w fun e w' => ∃ G C gs, e = .returned (.tuple #[.agg #[.int .i64 x, .int .i64 y, .int .i64 z, .slice (some ⟨G, 0, none⟩) la.length C], .slice (some ⟨G, 0, none⟩) (la.length + 1) C]) ∧ gs.map hgKey = la.map oiKey ∧ Hand w w' G C gs := by
  have HA := mkHid ha
  have hl := ha.short
  obtain ⟨p, c, rfl, -⟩ := ha.at_
  obtain ⟨W1, hW1⟩ : ∃ W1, W1 = (w.alloc (.cells #[.int .i64 x, .int .i64 y, .int .i64 z, .slice p la.length c] 38)).alloc (.cells #[.int .i64 0, .int .i64 0, .int .i64 0, .slice none 0 0] 38) := ⟨_, rfl⟩
  have F1 : Hid (Fr [] w W1) := by rw [hW1]; exact (Fr.alloc [] _ _).trans (Fr.alloc [] _ _) (by simp)
  have hS1 : W1.heap.size = w.heap.size + 2 := by rw [hW1]; simp
  have HB1 : Hid (W1.heap[w.heap.size]? = some (.cells #[.int .i64 x, .int .i64 y, .int .i64 z, .slice p la.length c] 38 (0, 0))) := by rw [Hid, hW1, Below.heap_alloc _ _ _ (by simp)]; exact heap_alloc_new _ _
  have HB2 : Hid (W1.heap[w.heap.size + 1]? = some (.cells #[.int .i64 0, .int .i64 0, .int .i64 0, .slice none 0 0] 38 (0, 0))) := by
    have := heap_alloc_new (w.alloc (.cells #[.int .i64 x, .int .i64 y, .int .i64 z, .slice p la.length c] 38)) (.cells #[.int .i64 0, .int .i64 0, .int .i64 0, .slice none 0 0] 38)
    rw [Hid, hW1]
    simpa using this
  obtain ⟨i33, ii33, iz33, is33, ib33⟩ := info_parts info33
  obtain ⟨i106, ii106, iz106, is106, ib106⟩ := info_parts info106
  clear ha
  go_enter Tryd.func16, Tryd.ntmps16
  go_wp2_with fail
  rw [← hW1]
  clear hW1
  go_loopw [4, 5] (fun lv q wr => ∃ (k : Nat) (lp : Option Addr) (lc : Nat), k ≤ la.length ∧ q = .int .i64 k ∧ lv = .slice lp k lc ∧ Hid (∃ gs, gs.map hgKey = (la.take k).map oiKey ∧ Hd w wr (.slice lp k lc) gs ∧ Fr [] W1 wr)) (fun _ q _ => la.length - (intOf q).toNat)
  case atStart => exact ⟨0, none, 0, Nat.zero_le _, rfl, rfl, [], rfl, ⟨F1.out, World.ownsRow_nil _ _ _ _, by simp, by simp⟩, Fr.refl _ _⟩
  case round =>
    obtain ⟨k, lp, lc, hkn, rfl, rfl, hq⟩ := hrel
    obtain ⟨gs, hgk, hd, hf1⟩ := hq.out
    have hgl : gs.length = k := by have := congrArg List.length hgk; simp at this; omega
    have b0 := (hf1.block _ (lt_of_heap HB1.out) (by simp)).trans HB1.out
    have e3 : wr.cell? ⟨w.heap.size, 3, none⟩ = some (.slice p la.length c) := by rw [cell_in b0]; rfl
    have hz := lt_of_heap b0
    have hWr : w.heap.size + 2 ≤ wr.heap.size := by have := hf1.size; omega
    have k1 : (0 : Int) ≤ (k : Int) := by omega
    by_cases hlt : k < la.length
    · have k2 : (k : Int) < (la.length : Int) := by omega
      have Fk := F1.out.trans hf1 (by simp)
      have hAk := HA.out.idle Fk
      obtain ⟨p', c', ee, hpa⟩ := hAk.at_
      injection ee with ee eeb eec
      subst ee
      subst eec
      clear eeb
      obtain ⟨g, off, rfl, hca⟩ := hpa (by omega)
      obtain ⟨o, h0, x0, x1, x2, x3⟩ := hca k hlt
      have x4 := hAk.slots o (List.mem_of_getElem? h0)
      have hkey : Hid ((la.take (k + 1)).map oiKey = (la.take k).map oiKey ++ [oiKey o]) := by
        rw [List.getElem?_eq_getElem hlt] at h0
        have h0' := Option.some.inj h0
        rw [Hid, List.take_succ_eq_append_getElem hlt, List.map_append, h0']
        rfl
      obtain ⟨oo, oc, of_, os, ov⟩ := o
      dsimp only at *
      have hos := x4.short
      obtain ⟨p1, c1, rfl, -⟩ := x4.at_
      have hgb : g < wr.heap.size := World.block_lt_of_cell? wr _ x0
      obtain ⟨V1, hV1⟩ : ∃ V1, V1 = wr.alloc (.cells #[.int .i64 oo, .int .i64 oc, .int .i64 of_, .slice p1 os.length c1] 106) := ⟨_, rfl⟩
      have FV1 : Fr [] wr V1 := by rw [hV1]; exact Fr.alloc [] _ _
      have hBx : V1.heap[wr.heap.size]? = some (.cells #[.int .i64 oo, .int .i64 oc, .int .i64 of_, .slice p1 os.length c1] 106 (0, 0)) := by rw [hV1]; exact heap_alloc_new _ _
      obtain ⟨v2, V2, hr2, ho2, hf2⟩ := run_copy os (.slice p1 os.length c1) V1 (x4.idle FV1)
      have hle2 : V1.heap.size = wr.heap.size + 1 := by rw [hV1]; simp
      rw [hV1] at hr2
      have HR2 := mkHid hr2
      have hb2 := (hf2.block _ (lt_of_heap hBx) (by simp)).trans hBx
      have hz2 := lt_of_heap hb2
      have hfr2 : Fr [] wr V2 := FV1.trans hf2 (by simp)
      have hown2 := (own_base ho2 (show wr.heap.size + 1 ≤ V1.heap.size by omega)).alloc (.cells #[.int .i64 (-77), .int .i64 (-78)] 33)
      have hn2 := World.news_of_block (heap_alloc_new V2 (.cells #[.int .i64 (-77), .int .i64 (-78)] 33))
      have hHD := mkHid hd
      have HX := mkHid (And.intro x4 (And.intro hgk (And.intro hfr2 hb2)))
      clear hq hd x4 hr2 ho2 hAk hpa hca h0 b0 hBx hV1 FV1 hf2 hle2 hb2 hfr2
      go_wp2_with (first
        | (at_builtin; refine Lib.wpList_append_run _ rfl (.const (.slice none 0 0)) (.tmp 22) 80 80 rfl _ _ rfl rfl _ _ HR2.out ?_)
        | (at_builtin; refine wpList_append_lies _ rfl (.tmp 24) (.tmp 25) 80 rfl (wr.heap.size + 1) 33 i33 (.int .i64 0) 1 8 Tryd.underlying80 ii33 iz33 is33 ib33 rfl (by decide) _ _ _ rfl hown2 ⟨V2.heap.size, 0, none⟩ 2 2 [.int .i64 (-77), .int .i64 (-78)] rfl rfl ?c1 ?c2 (by decide) ?c3 ?c4 ?c5 (V2.heap.size + 1) (by simp) ?_)
        | go_in)
      case c2 => exact ⟨rfl, rfl⟩
      case c3 => unfold maxLen; omega
      case c4 => omega
      case c5 => omega
      intro gm cm w3 hown3 hgrow3 hat3 hlt3
      obtain ⟨hx4, hgk', hfr2, hb2⟩ := HX.out
      have hvb : ∀ b, v2.ownBlock = some b → wr.heap.size + 1 ≤ b := fun b hb => (hown2.lt b hb).1
      have hfr3 : Fr [] wr w3 := by
        refine ⟨hgrow3.os.trans hfr2.os, hgrow3.tape.trans hfr2.tape, hgrow3.output.trans hfr2.output, Nat.le_trans hfr2.size (Nat.le_trans (by simp) hgrow3.size), fun i hi hn => ?_⟩
        have := hfr2.size
        rw [hgrow3.block i (by simp; omega) (fun e => by have := hvb _ e.symm; omega), Below.heap_alloc _ _ _ (by omega)]
        exact hfr2.block i hi (by simp)
      have hb3 : w3.heap[wr.heap.size]? = some (.cells #[.int .i64 oo, .int .i64 oc, .int .i64 of_, .slice p1 os.length c1] 106 (0, 0)) := by
        rw [hgrow3.block _ (by simp; omega) (fun e => by have := hvb _ e.symm; omega), Below.heap_alloc _ _ _ hz2]
        exact hb2
      have a3 := (hfr3.cell (p := ⟨w.heap.size, 3, none⟩) (by show w.heap.size < _; omega) (by simp)).trans e3
      have a4 := (hfr3.cell (p := ⟨g, off + k * 4 + 3, none⟩) hgb (by simp)).trans x3
      have f3 : w3.frozen? ⟨wr.heap.size, 3, none⟩ = false := frozen_in hb3 3
      have z3 : w3.cell? ⟨wr.heap.size, 3, none⟩ = some (.slice p1 os.length c1) := by rw [cell_in hb3]; rfl
      have z0 : w3.cell? ⟨wr.heap.size, 0, none⟩ = some (.int .i64 oo) := by rw [cell_in hb3]; rfl
      have z1 : w3.cell? ⟨wr.heap.size, 1, none⟩ = some (.int .i64 oc) := by rw [cell_in hb3]; rfl
      have z2 : w3.cell? ⟨wr.heap.size, 2, none⟩ = some (.int .i64 of_) := by rw [cell_in hb3]; rfl
      have hcm : os.length + 2 ≤ cm := by
        rcases hown3.2 with ⟨h2, _⟩ | ⟨g', cap', cur', h2, h3, h4, h5⟩
        · cases h2
        · injection h2 with _ _ e; have := h5.1; omega
      have i1 : (0 : Int) ≤ (os.length : Int) := by omega
      have i2 : (os.length : Int) ≤ (cm : Int) := by omega
      obtain ⟨V3, hV3⟩ : ∃ V3, V3 = w3.setCell ⟨wr.heap.size, 3, none⟩ (.slice (some ⟨gm, 0, none⟩) os.length cm) := ⟨_, rfl⟩
      have hfrV3 : Fr [] wr V3 := by rw [hV3]; exact hfr3.trans (Fr.setCell (S := [wr.heap.size]) _ _ _ (by simp)) (fun b hb => by simp at hb; subst hb; right; exact Nat.le_refl _)
      have hbV3 : V3.heap[wr.heap.size]? = some (.cells #[.int .i64 oo, .int .i64 oc, .int .i64 of_, .slice (some ⟨gm, 0, none⟩) os.length cm] 106 (0, 0)) := by rw [hV3, set_in hb3]; rfl
      have hownV3 : V3.ownsRow (wr.heap.size + 1) 33 1 (.slice (some ⟨gm, 0, none⟩) (os.length + 2) cm) (os.length + 2) (os.map (Value.int .i64) ++ [.int .i64 (-77), .int .i64 (-78)]) := by
        rw [hV3]
        exact own_congr hown3 fun g' hg' => set_else (by have := (hown3.lt g' hg').1; omega)
      have hz3 := lt_of_heap hbV3
      have hfrV4 : Fr [] wr (V3.alloc (.cells #[.int .i64 oo, .int .i64 oc, .int .i64 of_, .slice (some ⟨gm, 0, none⟩) os.length cm] 106)) := hfrV3.trans (Fr.alloc [] _ _) (by simp)
      have hd4 := hHD.out.idle hfrV4
      have hrow4 := hd4.row
      rw [hgl] at hrow4
      have HD4 := mkHid hd4
      have HO4 := mkHid (hownV3.alloc (.cells #[.int .i64 oo, .int .i64 oc, .int .i64 of_, .slice (some ⟨gm, 0, none⟩) os.length cm] 106))
      have HF4 := mkHid hfrV4
      clear hd4 hfrV4 hownV3 hbV3 hfrV3 hown3 hgrow3 hat3 hb3 hb2 hfr2 HX hgk' hx4 hown2 hn2 hvb hfr3 HR2 x0 x1 x2 x3 e3
      subst hV3
      go_wp2_with (at_builtin; refine wpList_append_lies _ rfl (.tmp 37) (.tmp 39) 36 rfl (w.heap.size + 2) 106 i106 (.agg #[.int .i64 0, .int .i64 0, .int .i64 0, .slice none 0 0]) 4 48 Tryd.underlying36 ii106 iz106 is106 ib106 rfl (by decide) _ _ _ rfl hrow4 ⟨w3.heap.size, 0, none⟩ 1 1 [.int .i64 oo, .int .i64 oc, .int .i64 of_, .slice (some ⟨gm, 0, none⟩) os.length cm] rfl rfl ?n1 ?n2 (by decide) ?n3 ?n4 ?n5 (w3.heap.size + 1) (by simp) ?_)
      case n1 =>
        have hnn := World.news_of_block (heap_alloc_new (w3.setCell ⟨wr.heap.size, 3, none⟩ (.slice (some ⟨gm, 0, none⟩) os.length cm)) (.cells #[.int .i64 oo, .int .i64 oc, .int .i64 of_, .slice (some ⟨gm, 0, none⟩) os.length cm] 106))
        have hsz : (w3.setCell ⟨wr.heap.size, 3, none⟩ (.slice (some ⟨gm, 0, none⟩) os.length cm)).heap.size = w3.heap.size := by simp
        rw [hsz] at hnn
        exact hnn
      case n2 => intro u hu; simp at hu; rcases hu with rfl | rfl | rfl | rfl <;> rfl
      case n3 => unfold maxLen; omega
      case n4 => omega
      case n5 => have := HF4.out.size; omega
      intro gl cl w5 hown5 hgrow5 hat5 hlt5
      have HNx : Hid (∃ gs, gs.map hgKey = (la.take (k + 1)).map oiKey ∧ Hd w w5 (.slice (some ⟨gl, 0, none⟩) (k + 1) cl) gs ∧ Fr [] W1 w5) := by
        have hnx := hHD.out.next (x := ⟨oo, oc, of_, os, gm, cm⟩) HF4.out (own_base (by rw [hgTail, List.map_append]; exact HO4.out) (by omega)) hWr hgrow5 (by rw [hgl]; exact hown5)
        refine ⟨gs ++ [⟨oo, oc, of_, os, gm, cm⟩], by rw [hkey.out, List.map_append, hgk]; rfl, hnx, ?_⟩
        have h3 := HF4.out
        have hlo : ∀ b, (Value.slice lp k lc).ownBlock = some b → w.heap.size + 2 ≤ b := fun b hb => (hrow4.lt b hb).1
        refine ⟨hgrow5.os.trans (h3.os.trans hf1.os), hgrow5.tape.trans (h3.tape.trans hf1.tape), hgrow5.output.trans (h3.output.trans hf1.output), Nat.le_trans hf1.size (Nat.le_trans h3.size hgrow5.size), fun i hi hn => ?_⟩
        have := hf1.size
        have := h3.size
        rw [hgrow5.block i (by omega) (fun e => by have := hlo _ e.symm; omega), h3.block i (by omega) (by simp)]
        exact hf1.block i hi (by simp)
      go_wp2_with fail
      go_roundw
      case rel => exact ⟨k + 1, some ⟨gl, 0, none⟩, cl, by omega, by go_num, rfl, HNx.out⟩
      case measure => simp [intOf]; omega
    · have hke : k = la.length := by omega
      subst hke
      obtain ⟨V1, hV1⟩ : ∃ V1, V1 = wr.alloc (.cells #[.int .i64 (-79), .int .i64 0, .int .i64 0, .slice none 0 0] 106) := ⟨_, rfl⟩
      have FV1 : Fr [] wr V1 := by rw [hV1]; exact Fr.alloc [] _ _
      have hd1 := hd.idle FV1
      have hrow1 := hd1.row
      rw [hgl, hV1] at hrow1
      have hnn := World.news_of_block (heap_alloc_new wr (.cells #[.int .i64 (-79), .int .i64 0, .int .i64 0, .slice none 0 0] 106))
      have b1 := (hf1.block _ (lt_of_heap HB2.out) (by simp)).trans HB2.out
      have HD1 := mkHid hd1
      have HBb := mkHid (And.intro ((FV1.block _ (lt_of_heap b0) (by simp)).trans b0) ((FV1.block _ (lt_of_heap b1) (by simp)).trans b1))
      have hV1s : V1.heap.size = wr.heap.size + 1 := by rw [hV1]; simp
      have HGK := mkHid hgk
      clear hq hd hd1 FV1 b1 b0 hgk
      go_wp2_with (at_builtin; refine wpList_append_lies _ rfl (.tmp 41) (.tmp 43) 36 rfl (w.heap.size + 2) 106 i106 (.agg #[.int .i64 0, .int .i64 0, .int .i64 0, .slice none 0 0]) 4 48 Tryd.underlying36 ii106 iz106 is106 ib106 rfl (by decide) _ _ _ rfl hrow1 ⟨wr.heap.size, 0, none⟩ 1 1 [.int .i64 (-79), .int .i64 0, .int .i64 0, .slice none 0 0] rfl rfl ?q1 ?q2 (by decide) ?q3 ?q4 ?q5 (wr.heap.size + 1) (by simp) ?_)
      case q2 => exact ⟨rfl, rfl, rfl⟩
      case q3 => unfold maxLen; omega
      case q4 => omega
      case q5 => omega
      intro G C w5 hown5 hgrow5 hat5 hlt5
      rw [← hV1] at hgrow5
      have hlo : ∀ b, (Value.slice lp la.length lc).ownBlock = some b → w.heap.size + 2 ≤ b := fun b hb => (hrow1.lt b hb).1
      have c0 : w5.heap[w.heap.size]? = some (.cells #[.int .i64 x, .int .i64 y, .int .i64 z, .slice p la.length c] 38 (0, 0)) := by
        rw [hgrow5.block _ (by omega) (fun e => by have := hlo _ e.symm; omega)]; exact HBb.out.1
      have c1 : w5.heap[w.heap.size + 1]? = some (.cells #[.int .i64 0, .int .i64 0, .int .i64 0, .slice none 0 0] 38 (0, 0)) := by
        rw [hgrow5.block _ (by omega) (fun e => by have := hlo _ e.symm; omega)]; exact HBb.out.2
      have hC : la.length + 1 ≤ C := by
        rcases hown5.2 with ⟨h2, _⟩ | ⟨g', cap', cur', h2, h3, h4, h5⟩
        · cases h2
        · injection h2 with _ _ e; have := h5.1; omega
      have s0 : w5.cell? ⟨w.heap.size, 0, none⟩ = some (.int .i64 x) := by rw [cell_in c0]; rfl
      have s1 : w5.cell? ⟨w.heap.size, 1, none⟩ = some (.int .i64 y) := by rw [cell_in c0]; rfl
      have s2 : w5.cell? ⟨w.heap.size, 2, none⟩ = some (.int .i64 z) := by rw [cell_in c0]; rfl
      have s3 : w5.cell? ⟨w.heap.size, 3, none⟩ = some (.slice p la.length c) := by rw [cell_in c0]; rfl
      have t0 : w5.cell? ⟨w.heap.size + 1, 0, none⟩ = some (.int .i64 0) := by rw [cell_in c1]; rfl
      have t1 : w5.cell? ⟨w.heap.size + 1, 1, none⟩ = some (.int .i64 0) := by rw [cell_in c1]; rfl
      have t2 : w5.cell? ⟨w.heap.size + 1, 2, none⟩ = some (.int .i64 0) := by rw [cell_in c1]; rfl
      have t3 : w5.cell? ⟨w.heap.size + 1, 3, none⟩ = some (.slice none 0 0) := by rw [cell_in c1]; rfl
      have f0 := frozen_in c0 3
      have y0 := frozen_in c1 0
      have y1 := frozen_in c1 1
      have y2 := frozen_in c1 2
      have y3 := frozen_in c1 3
      have i2 : (la.length : Int) ≤ (C : Int) := by omega
      have HE : Hid (∀ V, Fr [w.heap.size, w.heap.size + 1] w5 V → Hand w V G C gs) := by
        intro V hV
        have h1 := HD1.out
        have hsl : ∀ y : HG, V1.ownsRow (w.heap.size + 2) 33 1 (.slice (some ⟨y.g, 0, none⟩) (y.slots.length + 2) y.cap) (y.slots.length + 2) (hgTail y) → V.ownsRow (w.heap.size + 2) 33 1 (.slice (some ⟨y.g, 0, none⟩) (y.slots.length + 2) y.cap) (y.slots.length + 2) (hgTail y) := fun y hy =>
          own_congr hy fun g hgg => by
            have hl2 := hy.lt g hgg
            have := hgrow5.size
            rw [hV.block g (by omega) (by simp; omega)]
            exact hgrow5.block g hl2.2 (fun e => own_type hy h1.row (by decide) hgg e.symm)
        refine ⟨?_, ?_, fun x hx => hsl x (h1.slots x hx), h1.apart⟩
        · have F5 : Fr [] w w5 := by
            refine ⟨hgrow5.os.trans h1.fr.os, hgrow5.tape.trans h1.fr.tape, hgrow5.output.trans h1.fr.output, Nat.le_trans h1.fr.size hgrow5.size, fun i hi hn => ?_⟩
            have := h1.fr.size
            rw [hgrow5.block i (by omega) (fun e => by have := hlo _ e.symm; omega)]
            exact h1.fr.block i hi (by simp)
          exact F5.trans hV (fun b hb => by simp at hb; right; omega)
        · rw [hgl]
          exact own_congr hown5 fun g hgg => hV.block g (hown5.lt g hgg).2 (by have := (hown5.lt g hgg).1; simp; omega)
      clear HD1 HBb hown5 hgrow5 hlo hrow1 hV1 hnn hV1s HB1 HB2 F1 hf1 hat5
      have hc0 : w5.heap[w.heap.size + 1]? = some (.cells #[.int .i64 0, .int .i64 0, .int .i64 0, .slice none 0 0] 38 (0, 0)) := c1
      have HC1 := mkHid c1
      clear c0 c1 hc0
      go_wp2_with fail
      obtain ⟨V, hV⟩ : ∃ V, V = ((((w5.setCell ⟨w.heap.size, 3, none⟩ (.slice (some ⟨G, 0, none⟩) la.length C)).setCell ⟨w.heap.size + 1, 0, none⟩ (.int .i64 x)).setCell ⟨w.heap.size + 1, 1, none⟩ (.int .i64 y)).setCell ⟨w.heap.size + 1, 2, none⟩ (.int .i64 z)).setCell ⟨w.heap.size + 1, 3, none⟩ (.slice (some ⟨G, 0, none⟩) la.length C) := ⟨_, rfl⟩
      have hVb : V.heap[w.heap.size + 1]? = some (.cells #[.int .i64 x, .int .i64 y, .int .i64 z, .slice (some ⟨G, 0, none⟩) la.length C] 38 (0, 0)) := by
        have h0 : (w5.setCell ⟨w.heap.size, 3, none⟩ (.slice (some ⟨G, 0, none⟩) la.length C)).heap[w.heap.size + 1]? = some (.cells #[.int .i64 0, .int .i64 0, .int .i64 0, .slice none 0 0] 38 (0, 0)) := by rw [set_else (by omega)]; exact HC1.out
        rw [hV, set_in (set_in (set_in (set_in h0 0 _) 1 _) 2 _) 3 _]
        rfl
      have F : Fr [w.heap.size, w.heap.size + 1] w5 V := by
        rw [hV]
        exact ((((Fr.setCell (S := [w.heap.size, w.heap.size + 1]) w5 ⟨w.heap.size, 3, none⟩ _ (by simp)).trans (Fr.setCell (S := [w.heap.size, w.heap.size + 1]) _ ⟨w.heap.size + 1, 0, none⟩ (.int .i64 x) (by simp)) (fun b hb => .inl hb)).trans (Fr.setCell (S := [w.heap.size, w.heap.size + 1]) _ ⟨w.heap.size + 1, 1, none⟩ (.int .i64 y) (by simp)) (fun b hb => .inl hb)).trans (Fr.setCell (S := [w.heap.size, w.heap.size + 1]) _ ⟨w.heap.size + 1, 2, none⟩ (.int .i64 z) (by simp)) (fun b hb => .inl hb)).trans (Fr.setCell (S := [w.heap.size, w.heap.size + 1]) _ ⟨w.heap.size + 1, 3, none⟩ _ (by simp)) (fun b hb => .inl hb)
      rw [← hV]
      clear hV
      have x0 : V.cell? ⟨w.heap.size + 1, 0, none⟩ = some (.int .i64 x) := by rw [cell_in hVb]; rfl
      have x1 : V.cell? ⟨w.heap.size + 1, 1, none⟩ = some (.int .i64 y) := by rw [cell_in hVb]; rfl
      have x2 : V.cell? ⟨w.heap.size + 1, 2, none⟩ = some (.int .i64 z) := by rw [cell_in hVb]; rfl
      have x3 : V.cell? ⟨w.heap.size + 1, 3, none⟩ = some (.slice (some ⟨G, 0, none⟩) la.length C) := by rw [cell_in hVb]; rfl
      refine bodyPost_ret (v := .tuple #[.agg #[.int .i64 x, .int .i64 y, .int .i64 z, .slice (some ⟨G, 0, none⟩) la.length C], .slice (some ⟨G, 0, none⟩) (la.length + 1) C]) (by simp [results, Tryd.results16, go_sem, x0, x1, x2, x3]) rfl ?_
      exact ⟨G, C, gs, rfl, by rw [HGK.out, List.take_length], HE.out V F⟩
end Go.Proofs.YtcoddjdicodmhaaDoor
