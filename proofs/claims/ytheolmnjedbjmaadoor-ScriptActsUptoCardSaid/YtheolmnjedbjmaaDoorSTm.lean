import Derived.Test.YtheolmnjedbjmaaDoorSTl
namespace Go.Proofs.YtheolmnjedbjmaaDoor
open Go.RowKit
set_option linter.unusedVariables false
set_option linter.unusedSimpArgs false
/-- how things stand behind 'hand' -/
structure DD (W V : World) (pb g oi cc : Nat) (a : AK) (q : Option Addr) (c hb gb nb tb cF cN cT : Nat) (curF curN curT : Array Value) : Prop where
  blW : Bl W V
  pbx : V.heap[pb]? = some (.cells (plC g oi cc) 31 (0, 0))
  hf : Hf V hb gb nb tb a cF cN cT
  hg : Hg V hb gb nb tb a cF cN cT curF curN
  tbx : V.heap[tb]? = some (.cells curT 9 (0, 0))
  tsz : a.names.length + 8 ≤ curT.size
  tbW : W.heap.size ≤ tb
  aw : Aw V g oi a q c
theorem DD.bl {W V V' : World} {pb g oi cc : Nat} {a : AK} {q : Option Addr} {c hb gb nb tb cF cN cT : Nat} {curF curN curT : Array Value} (h : DD W V pb g oi cc a q c hb gb nb tb cF cN cT curF curN curT) (k : Bl V V') : DD W V' pb g oi cc a q c hb gb nb tb cF cN cT curF curN curT :=
  ⟨h.blW.trans k, (k.block _ (lt_of_heap h.pbx)).trans h.pbx, h.hf.bl k, h.hg.bl k, (k.block _ (lt_of_heap h.tbx)).trans h.tbx, h.tsz, h.tbW, h.aw.bl k⟩
theorem DD.of {W wr w : World} {g oi cc : Nat} {a : AK} {q : Option Addr} {c tb cT gb cF : Nat} {vN : Value} (hb0 : Bl W wr) (hA : Aw W g oi a q c) (h : Hs (wr.alloc (.cells (plC g oi cc) 31)) w (wr.alloc (.cells (plC g oi cc) 31)).heap.size (plC g oi cc) ((wr.alloc (.cells (plC g oi cc) 31)).heap.size + 1) tb a cT (.slice (some ⟨gb, 0, none⟩) 1 cF) (.slice (some ⟨gb, 0, none⟩) 9 cF) vN 8) :
    ∃ nb cN curF curN curT, DD W w wr.heap.size g oi cc a q c ((wr.alloc (.cells (plC g oi cc) 31)).heap.size + 1) gb nb tb cF cN cT curF curN curT := by
  obtain ⟨nb, cN, curF, curN, curT, hf, hg, htb, hts, hle⟩ := h.hg
  have b1 : Bl W (wr.alloc (.cells (plC g oi cc) 31)) := hb0.trans (Bl.alloc _ _)
  exact ⟨nb, cN, curF, curN, curT, b1.trans h.bl, (h.bl.block _ (by simp)).trans (heap_alloc_new wr _), hf, hg, htb, hts, Nat.le_trans b1.size hle, hA.bl (b1.trans h.bl)⟩
/-- how things stand ahead of the second asking -/
structure DE (W V : World) (hb gb nb tb ab : Nat) (a : AK) (cF cN cT : Nat) (curF curN : Array Value) (pv : Option Addr) (cv : Nat) : Prop where
  blW : Bl W V
  hg : Hg V hb gb nb tb a cF cN cT curF curN
  abx : V.heap[ab]? = some (.cells #[.int .i64 a.kind, .string a.name, .string a.other, .slice pv a.names.length cv, .string a.text, .int .i64 a.num, .int .i64 a.fuel] 38 (0, 0))
  r1 : Rs V pv a.names.reverse
  r2 : Rs V (some ⟨tb, 0, none⟩) a.names.reverse
theorem DE.bl {W V V' : World} {hb gb nb tb ab : Nat} {a : AK} {cF cN cT : Nat} {curF curN : Array Value} {pv : Option Addr} {cv : Nat} (h : DE W V hb gb nb tb ab a cF cN cT curF curN pv cv) (k : Bl V V') : DE W V' hb gb nb tb ab a cF cN cT curF curN pv cv :=
  ⟨h.blW.trans k, h.hg.bl k, (k.block _ (lt_of_heap h.abx)).trans h.abx, h.r1.bl k, h.r2.bl k⟩
/-- how things stand ahead of the names' being laid back -/
structure D8 (W V : World) (hb gb nb tb ab : Nat) (a : AK) (cF cN cT : Nat) (curF curN curT : Array Value) (pv : Option Addr) (cv : Nat) : Prop where
  blW : Bl W V
  hg : Hg V hb gb nb tb a cF cN cT curF curN
  abx : V.heap[ab]? = some (.cells #[.int .i64 a.kind, .string a.name, .string a.other, .slice pv a.names.length cv, .string a.text, .int .i64 a.num, .int .i64 a.fuel] 38 (0, 0))
  r1 : ∀ j (hj : j < a.names.reverse.length), ∃ rb, pv = some ⟨rb, 0, none⟩ ∧ rb ≠ tb ∧ V.cell? ⟨rb, 0 + j, none⟩ = some (.string a.names.reverse[j])
  tbx : V.heap[tb]? = some (.cells curT 9 (0, 0))
  tsz : a.names.length + 8 ≤ curT.size
  tbW : W.heap.size ≤ tb
theorem D8.of {W V5 V7 wr : World} {pb g oi cc : Nat} {a : AK} {q : Option Addr} {c hb gb nb tb cF cN cT ab cv : Nat} {pv : Option Addr} {curF curN curT : Array Value} (h : DD W V5 pb g oi cc a q c hb gb nb tb cF cN cT curF curN curT) (k : Bl V5 V7) (hab : V5.heap.size ≤ ab) (l : L2 V7 wr ab a pv cv a.names.length) : D8 W wr hb gb nb tb ab a cF cN cT curF curN curT pv cv := by
  have hlt : ∀ b, b < V5.heap.size → wr.heap[b]? = V5.heap[b]? := fun b hb => by
    rw [l.fr.block b (Nat.lt_of_lt_of_le hb k.size) (by simp; omega), k.block b hb]
  have htb := lt_of_heap h.tbx
  refine ⟨⟨(l.fr.os.trans k.os).trans h.blW.os, (l.fr.tape.trans k.tape).trans h.blW.tape, (l.fr.output.trans k.output).trans h.blW.output, Nat.le_trans h.blW.size (Nat.le_trans k.size l.fr.size), fun b hb => (hlt b (Nat.lt_of_lt_of_le hb h.blW.size)).trans (h.blW.block b hb)⟩, h.hg.frx k l.fr hab, l.box, fun j hj => ?_, (hlt tb htb).trans h.tbx, h.tsz, h.tbW⟩
  have hj2 : j < a.names.length := by rw [List.length_reverse] at hj; exact hj
  obtain ⟨rb, cap, cur, e, hrb, hcur, -, -, -, hv⟩ := own_cells l.row (by omega)
  injection e with e1
  refine ⟨rb, e1, by have := k.size; omega, ?_⟩
  rw [Nat.zero_add]
  refine lit_in hcur j _ (hv j _ ?_)
  unfold strs
  rw [List.take_of_length_le (by rw [List.length_reverse]; exact Nat.le_refl _), List.getElem?_map, List.getElem?_eq_getElem hj]
  rfl
theorem D8.fr {W V wr : World} {hb gb nb tb ab : Nat} {a : AK} {cF cN cT : Nat} {curF curN curT : Array Value} {pv : Option Addr} {cv : Nat} (h : D8 W V hb gb nb tb ab a cF cN cT curF curN curT pv cv) (k : Fr [tb] V wr) : Bl W wr ∧ Hg wr hb gb nb tb a cF cN cT curF curN ∧ wr.heap[ab]? = some (.cells #[.int .i64 a.kind, .string a.name, .string a.other, .slice pv a.names.length cv, .string a.text, .int .i64 a.num, .int .i64 a.fuel] 38 (0, 0)) ∧ ∀ j (hj : j < a.names.reverse.length), ∃ rb, pv = some ⟨rb, 0, none⟩ ∧ wr.cell? ⟨rb, 0 + j, none⟩ = some (.string a.names.reverse[j]) := by
  refine ⟨Below.trans h.blW (k.below h.blW.size (by intro b hb; have := h.tbW; simp at hb; omega)), h.hg.fr k (fun c T fz e => ?_), ?_, fun j hj => ?_⟩
  · rw [h.tbx] at e
    cases e
    decide
  · rw [k.block ab (lt_of_heap h.abx) (by
      simp
      intro e
      have h1 := h.abx
      rw [e, h.tbx] at h1
      cases h1)]
    exact h.abx
  · obtain ⟨rb, e, hne, hc⟩ := h.r1 j hj
    refine ⟨rb, e, ?_⟩
    have hlt : rb < V.heap.size := by
      rcases Nat.lt_or_ge rb V.heap.size with h1 | h1
      · exact h1
      · simp [World.cell?, Array.getElem?_eq_none h1] at hc
    rw [World.cell?_of_block (w := V) (k.block rb hlt (by simpa using hne))]
    exact hc
theorem D8.l3 {W V : World} {hb gb nb tb ab : Nat} {a : AK} {cF cN cT : Nat} {curF curN curT : Array Value} {pv : Option Addr} {cv : Nat} (h : D8 W V hb gb nb tb ab a cF cN cT curF curN curT pv cv) : L3 V V tb a 0 := ⟨⟨curT, h.tbx, by have := h.tsz; omega, fun i hi h0 => by omega⟩, Fr.refl _ _⟩
theorem D8.de {W V wr : World} {hb gb nb tb ab : Nat} {a : AK} {cF cN cT : Nat} {curF curN curT : Array Value} {pv : Option Addr} {cv : Nat} (h : D8 W V hb gb nb tb ab a cF cN cT curF curN curT pv cv) (l : L3 V wr tb a a.names.length) : DE W wr hb gb nb tb ab a cF cN cT curF curN pv cv := by
  obtain ⟨h1, h2, h3, h4⟩ := h.fr l.fr
  obtain ⟨cur, hc, hs, hv⟩ := l.tw
  exact ⟨h1, h2, h3, fun j hj => by
    obtain ⟨rb, e, hcell⟩ := h4 j hj
    exact ⟨rb, 0, e, hcell⟩, fun j hj => ⟨tb, 0, rfl, by
      rw [Nat.zero_add]
      exact lit_in hc j _ (hv j hj (by rw [List.length_reverse] at hj; exact hj))⟩⟩
end Go.Proofs.YtheolmnjedbjmaaDoor
