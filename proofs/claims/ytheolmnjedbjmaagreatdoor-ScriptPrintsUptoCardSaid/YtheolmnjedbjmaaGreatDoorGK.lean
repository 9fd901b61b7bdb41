import Derived.Test.YtheolmnjedbjmaaGreatDoorSHi
import Derived.Laws.Rows
namespace Go.Proofs.YtheolmnjedbjmaaGreatDoor
open Go.RowKit
set_option linter.unusedVariables false
set_option linter.unusedSimpArgs false
attribute [local go_sem ↓] Go.wp_at_zero Go.wp_at_succ
/-- acts as the cells of a row -/
def rowQ : List AQ → List Value
  | [] => []
  | x :: l => (akC x.1 x.2.1 x.2.2).toList ++ rowQ l
theorem rowQ_snoc : ∀ (l : List AQ) (x : AQ), rowQ (l ++ [x]) = rowQ l ++ (akC x.1 x.2.1 x.2.2).toList
  | [], x => by simp [rowQ]
  | y :: l, x => by
    have := rowQ_snoc l x
    simp [rowQ, this]
theorem akC_len (a : AK) (p : Option Addr) (c : Nat) : (akC a p c).toList.length = 7 := rfl
theorem rowQ_at : ∀ (l : List AQ) (i : Nat) (hi : i < l.length) (f : Nat) (v : Value), (akC l[i].1 l[i].2.1 l[i].2.2)[f]? = some v → (rowQ l)[i * 7 + f]? = some v
  | [], i, hi, f, v, h => absurd hi (by simp)
  | x :: l, 0, hi, f, v, h => by
    have hf : f < 7 := by
      obtain ⟨h1, -⟩ := Array.getElem?_eq_some_iff.1 h
      exact h1
    unfold rowQ
    rw [List.getElem?_append_left (by rw [akC_len]; omega), Array.getElem?_toList]
    simpa using h
  | x :: l, i + 1, hi, f, v, h => by
    have := rowQ_at l i (by simpa using hi) f v (by simpa using h)
    unfold rowQ
    rw [List.getElem?_append_right (by rw [akC_len]; omega), akC_len, show (i + 1) * 7 + f - 7 = i * 7 + f by omega]
    exact this
/-- the boxes of 'turned', while it makes its list -/
structure Tu (W w : World) (ws os : Int) (p : Option Addr) (n cc : Nat) (acts : List AQ) (v : Value) (m : Nat) : Prop where
  b0 : w.heap[W.heap.size]? = some (.cells (plN ws os p n cc) 24 (0, 0))
  b1 : w.heap[W.heap.size + 1]? = some (.cells (plN 0 0 none 0 0) 24 (0, 0))
  ow : w.ownsRow W.heap.size 40 7 v m (rowQ (acts.reverse.take m))
  bl : Bl W w
theorem rowQ_next (acts : List AQ) (k m : Nat) (hk : k < acts.length) (hm : m + k + 1 = acts.length) : rowQ (acts.reverse.take (m + 1)) = rowQ (acts.reverse.take m) ++ (akC acts[k].1 acts[k].2.1 acts[k].2.2).toList := by
  have hl : m < acts.reverse.length := by rw [List.length_reverse]; omega
  rw [List.take_succ_eq_append_getElem hl, rowQ_snoc]
  have e : acts.reverse[m] = acts[k] := by
    rw [List.getElem_reverse]
    congr 1
    omega
  rw [e]
theorem plN_all (ws os : Int) (p : Option Addr) (n cc : Nat) : (plN ws os p n cc).all (·.oneCell') = true := by
  unfold plN
  simp [Value.oneCell']
set_option maxRecDepth 100000 in
set_option maxHeartbeats 8000000 in
theorem turned_ok (W : World) (ws os : Int) (g off cc n : Nat) (p : Option Addr) (acts : List AQ) (hl : acts.length = n) (hn : n ≤ 1048576) (hpA : 0 < n → p = some ⟨g, off, none⟩) (hA : ∀ i (hi : i < acts.length), Aw W g (off + i * 7) acts[i].1 acts[i].2.1 acts[i].2.2) : Calls Tryz.prog 12 #[.agg #[.int .i64 ws, .int .i64 os, .slice p n cc]] W fun e w' => ∃ pT cT, e = .returned (.agg #[.int .i64 ws, .int .i64 os, .slice pT n cT]) ∧ Bl W w' ∧ (0 < n → ∃ gT, pT = some ⟨gT, 0, none⟩ ∧ W.heap.size ≤ gT ∧ ∀ i (hi : i < acts.reverse.length), Aw w' gT (0 + i * 7) acts.reverse[i].1 acts.reverse[i].2.1 acts.reverse[i].2.2) := by
  obtain ⟨W1, hW1⟩ : ∃ X, (W.alloc (.cells (plN ws os p n cc) 24)).alloc (.cells (plN 0 0 none 0 0) 24) = X := ⟨_, rfl⟩
  have z0 : (W.alloc (.cells (plN ws os p n cc) 24)).heap.size = W.heap.size + 1 := by simp
  have b1 : Bl W W1 := by rw [← hW1]; exact (Bl.alloc _ _).trans (Bl.alloc _ _)
  have qp : W1.heap[W.heap.size]? = some (.cells (plN ws os p n cc) 24 (0, 0)) := by
    rw [← hW1]
    exact (Below.heap_alloc _ _ _ (by simp)).trans (heap_alloc_new W _)
  have qh : W1.heap[W.heap.size + 1]? = some (.cells (plN 0 0 none 0 0) 24 (0, 0)) := by
    rw [← hW1, ← z0]
    exact heap_alloc_new _ _
  have H1 : Hid (Tu W W1 ws os p n cc acts (.slice none 0 0) (n - n)) := ⟨qp, qh, by rw [Nat.sub_self]; exact own_nil _ _ _ _, b1⟩
  have r2 := lit_in qp 2 (.slice p n cc) rfl
  have HA := mkHid hA
  have HPA := mkHid hpA
  clear hA hpA qp qh z0 b1
  go_enter Tryz.func12, Tryz.ntmps12
  go_wp2_with fail
  clear r2
  go_loopw [3, 4] (fun o x wr => ∃ i : Nat, i ≤ n ∧ x = .int .i64 ((i : Int) - 1) ∧ Hid (Tu W wr ws os p n cc acts o (n - i))) (fun _ x _ => (intOf x + 1).toNat)
  case atStart => exact ⟨n, Nat.le_refl _, rfl, H1.out⟩
  case round =>
    clear H1 hW1
    obtain ⟨i, hi, rfl, hst⟩ := hrel
    rcases i with _ | k
    · have hT := hst.out
      obtain ⟨pT, cT, rfl⟩ := own_slice hT.ow
      have e2 := lit_in hT.b0 2 (.slice p n cc) rfl
      have f2 := frozen_in hT.b0 2
      have q3 := set_in hT.b0 2 (.slice pT (n - 0) cT)
      have q4 := ((Fr.setCell (S := [W.heap.size]) wr ⟨W.heap.size, 2, none⟩ (.slice pT (n - 0) cT) (by simp)).block (W.heap.size + 1) (lt_of_heap hT.b1) (by simp)).trans hT.b1
      have ow3 := ow_set (i := 2) (y := .slice pT (n - 0) cT) hT.ow hT.b0 (by decide)
      have bl3 := bl_setCell hT.bl W.heap.size 2 (.slice pT (n - 0) cT) (Nat.le_refl _)
      rw [Nat.sub_zero] at q3 q4 ow3 bl3
      obtain ⟨W3, hW3⟩ : ∃ X, wr.setCell ⟨W.heap.size, 2, none⟩ (.slice pT n cT) = X := ⟨_, rfl⟩
      rw [hW3] at q3 q4 ow3 bl3
      have d0 := lit_in q3 0 (.int .i64 ws) rfl
      have d1 := lit_in q3 1 (.int .i64 os) rfl
      have d2 := lit_in q3 2 (.slice pT n cT) rfl
      obtain ⟨W4, hW4⟩ : ∃ X, W3.setRow (W.heap.size + 1) (plN ws os pT n cT) = X := ⟨_, rfl⟩
      have H4 : Hid (W4.heap[W.heap.size + 1]? = some (.cells (plN ws os pT n cT) 24 (0, 0)) ∧ Bl W W4 ∧ (0 < n → ∃ gT, pT = some ⟨gT, 0, none⟩ ∧ W.heap.size ≤ gT ∧ ∀ i (hi : i < acts.reverse.length), Aw W4 gT (0 + i * 7) acts.reverse[i].1 acts.reverse[i].2.1 acts.reverse[i].2.2)) := by
        refine ⟨by rw [← hW4]; exact setRow_heap _ _ _ _ _ _ q4, by rw [← hW4]; exact bl_setRow bl3 _ _ (by omega), fun h0 => ?_⟩
        obtain ⟨gT, cap, cur, e, h1, h2, -, -, -, h6⟩ := own_cells ow3 h0
        injection e with e1 e2 e3
        refine ⟨gT, e1, h1, fun i hi => ?_⟩
        have hgne : gT ≠ W.heap.size + 1 := fun h => by
          rw [h, q4] at h2
          cases h2
        have hg4 : W4.heap[gT]? = some (.cells cur 40 (0, 0)) := by
          rw [← hW4, setRow_other _ _ _ _ hgne]
          exact h2
        have hb4 : Bl W W4 := by rw [← hW4]; exact bl_setRow bl3 _ _ (by omega)
        rw [List.take_of_length_le (by rw [List.length_reverse]; omega)] at h6
        refine ⟨fun f v hv => ?_, ?_, lt_of_heap hg4⟩
        · rw [Nat.zero_add]
          exact lit_in hg4 _ _ (h6 _ _ (rowQ_at _ i hi f v hv))
        · have hi2 : acts.length - 1 - i < acts.length := by rw [List.length_reverse] at hi; omega
          have h := (HA.out (acts.length - 1 - i) hi2).names.bl hb4
          rw [List.getElem_reverse]
          exact h
      have q4h := mkHid q4
      rw [Nat.sub_zero] at hst
      clear hst hT q3 q4 ow3 bl3 HA HPA
      simp only [Nat.sub_zero] at *
      go_wp2_with (refine wpList_store_row rfl 24 _ _ rfl (W.heap.size + 1) (plN ws os pT n cT) rfl rfl 24 _ q4h.out (by kernel_rfl) rfl (plN_all _ _ _ _ _) ?_; rw [hW4])
      refine bodyPost_ret (v := .agg (plN ws os pT n cT)) (results_cell_row Tryz.results12 _ _ (W.heap.size + 1) 24 _ (0, 0) _ rfl H4.out.1 Tryz.underlying24 rfl (by kernel_rfl)) rfl ?_
      exact ⟨pT, cT, rfl, H4.out.2.1, H4.out.2.2⟩
    · have ek : ((k + 1 : Nat) : Int) - 1 = (k : Int) := by omega
      rw [ek]
      have k0 : (0 : Int) ≤ (k : Int) := by omega
      have hT := hst.out
      obtain rfl := HPA.out (by omega)
      have h1 := (HA.out k (by omega)).bl hT.bl
      have hnx := rowQ_next acts k (n - (k + 1)) (by omega) (by omega)
      obtain ⟨⟨a, q, c⟩, hacts⟩ : ∃ x, acts[k]'(by omega) = x := ⟨_, rfl⟩
      rw [hacts] at h1 hnx
      simp only at h1 hnx
      have e2 := lit_in hT.b0 2 (.slice (some ⟨g, off, none⟩) n cc) rfl
      have c0 := h1.cells 0 (.int .i64 a.kind) rfl
      have c1 := h1.cells 1 (.string a.name) rfl
      have c2 := h1.cells 2 (.string a.other) rfl
      have c3 := h1.cells 3 (.slice q a.names.length c) rfl
      have c4 := h1.cells 4 (.string a.text) rfl
      have c5 := h1.cells 5 (.int .i64 a.num) rfl
      have c6 := h1.cells 6 (.int .i64 a.fuel) rfl
      rw [Nat.add_zero] at c0
      obtain ⟨v2, w2, hr2, ho2, hp2, -⟩ := push_actN hT.ow hT.bl.size a q c (by omega)
      have HR2 := mkHid hr2
      have HX : Hid (Tu W w2 ws os (some ⟨g, off, none⟩) n cc acts v2 (n - k)) := ⟨hp2.hb hT.b0 (fun c fz e => by cases e), hp2.hb hT.b1 (fun c fz e => by cases e), by
        rw [show n - k = n - (k + 1) + 1 by omega, hnx]
        exact ho2, Below.trans hT.bl hp2.below⟩
      clear hst hT hr2 ho2 hp2 h1 hnx hacts
      go_wp2_with (at_builtin; refine Lib.wpList_append_run _ rfl (.tmp 13) (.tmp 19) 22 22 rfl _ _ rfl rfl _ _ HR2.out ?_)
      go_roundw
      case rel => exact ⟨k, by omega, by go_num, HX.out⟩
      case measure => simp [intOf]
end Go.Proofs.YtheolmnjedbjmaaGreatDoor
namespace Go.Proofs.YtheolmnjedbjmaaGreatDoor
open Go.RowKit
set_option linter.unusedVariables false
set_option linter.unusedSimpArgs false
attribute [local go_sem ↓] Go.wp_at_zero Go.wp_at_succ
/-- a whole struct is stored in the midst of a row -/
theorem run_storeVar_at (w : World) (g o : Nat) (t ty : TypeId) (old cells : Array Value) (hg : w.heap[g]? = some (.cells old t (0, 0))) (hi : (Tryz.prog.info? ty).map (·.size) = some cells.size)
    (hfit : o + cells.size ≤ old.size) (h1 : cells.all (·.oneCell') = true) :
    (storeVar ty ⟨g, o, none⟩ (.agg cells)).run Tryz.prog w = .ok () (w.setRow g (old.toList.take o ++ cells.toList ++ old.toList.drop (o + cells.size)).toArray) := by
  have := run_storeCells_at Tryz.prog g o t cells.toList 0 old w hg (by simp; omega) (fun v hv => (Array.all_eq_true_iff_forall_mem.1 h1) v (by simpa using hv))
  cases hq : Tryz.prog.info? ty with
  | none => simp [hq] at hi
  | some i =>
    have hs : cells.size = i.size := by simp [hq] at hi; omega
    simp only [Nat.add_zero, Array.length_toList] at this
    simp [storeVar, sizeOf, typeInfo, hq, Value.cells, hs, ← this]
    rw [← hs]
    rw [List.append_assoc] at this
    exact this
theorem stepM {ops : Array Oper} {o : Oper} {a : Act} {w : World} {K : Act → World → Prop} {Q : Exit → Act → World → Prop} {E : Prop} (hw : Region.wanted o (yielded ops a.tmps) = true) (ty : TypeId) (x y : Operand) (ho : o.op = .store ty x y)
    (g off : Nat) (cells : Array Value) (hx : a.eval x = .pointer (some ⟨g, off, none⟩)) (hy : a.eval y = .agg cells)
    (t : TypeId) (old : Array Value) (hg : w.heap[g]? = some (.cells old t (0, 0))) (hi : (Tryz.prog.info? ty).map (·.size) = some cells.size)
    (hfit : off + cells.size ≤ old.size) (h1 : cells.all (·.oneCell') = true) (h : K (a.put o.dst undef) (w.setRow g (old.toList.take off ++ cells.toList ++ old.toList.drop (off + cells.size)).toArray)) : if Region.wanted o (yielded ops a.tmps) = true then Oper.wp Tryz.prog o a w K Q else E := by
  rw [if_pos hw]
  unfold Oper.wp execOp
  simp only [ho, hx, hy, Instr.storeAt, Instr.sureAddr, Sem.run_bind, Sem.run_pure, Result.andThen_ok, run_storeVar_at w g off t ty old cells hg hi hfit h1]
  exact h
theorem akC_l7 (a : AK) (p : Option Addr) (c : Nat) : (akC a p c).toList.length = 7 := rfl
theorem Fr.row (S : List Nat) (w : World) (g : Nat) (cs : Array Value) (hg : g ∈ S) : Fr S w (w.setRow g cs) := by
  have hz : (w.setRow g cs).heap.size = w.heap.size := by simp [World.setRow]
  refine ⟨rfl, rfl, rfl, by rw [hz]; exact Nat.le_refl _, fun k hk hn => ?_⟩
  exact setRow_other w g k cs (fun e => hn (e ▸ hg))
/-- the acts as they lie in what was handed in -/
def zipQ (acts : List AQ) (ts : List (Nat × Nat)) : List AQ := List.zipWith (fun (x : AQ) t => ((x.1, some ⟨t.1, 0, none⟩, t.2) : AQ)) acts ts
theorem zipQ_len (acts : List AQ) (ts : List (Nat × Nat)) (h : ts.length = acts.length) : (zipQ acts ts).length = acts.length := by
  unfold zipQ
  rw [List.length_zipWith]
  omega
theorem zipQ_at (acts : List AQ) (ts : List (Nat × Nat)) (i : Nat) (h : i < (zipQ acts ts).length) (h1 : i < acts.length) (h2 : i < ts.length) : (zipQ acts ts)[i] = (acts[i].1, some ⟨ts[i].1, 0, none⟩, ts[i].2) := by
  simp [zipQ]
theorem zipQ_map : ∀ (acts : List AQ) (ts : List (Nat × Nat)), ts.length = acts.length → (zipQ acts ts).map (·.1) = acts.map (·.1)
  | [], [], _ => rfl
  | x :: l, t :: ts, h => by
    have := zipQ_map l ts (by simpa using h)
    unfold zipQ at this ⊢
    rw [List.zipWith_cons_cons, List.map_cons, List.map_cons, this]
  | [], t :: ts, h => by simp at h
  | x :: l, [], h => by simp at h
abbrev hdQ (ws os : Int) (gb n cF : Nat) (pN : Option Addr) (cN : Nat) : Array Value := #[.int .i64 ws, .int .i64 os, .slice (some ⟨gb, 0, none⟩) n cF, .slice (some ⟨gb, 0, none⟩) (n + 8) cF, .slice pN n cN]
/-- what was handed in stands, and nothing older has changed -/
structure Hx (W V : World) (pb hb gb cF cN cc n : Nat) (ws os : Int) (p pN : Option Addr) (acts : List AQ) (ts : List (Nat × Nat)) : Prop where
  bl : Bl W V
  pbx : V.heap[pb]? = some (.cells (plN ws os p n cc) 24 (0, 0))
  hbx : V.heap[hb]? = some (.cells (hdQ ws os gb n cF pN cN) 32 (0, 0))
  hf : HfN V hb ws os acts ts gb cF pN cN n
  row : ∃ cur, V.heap[gb]? = some (.cells cur 40 (0, 0)) ∧ cur.size = cF * 7
  fit : n + 8 ≤ cF
  low : W.heap.size ≤ gb
theorem Hx.ext {W V V' : World} {pb hb gb cF cN cc n : Nat} {ws os : Int} {p pN : Option Addr} {acts : List AQ} {ts : List (Nat × Nat)} (h : Hx W V pb hb gb cF cN cc n ws os p pN acts ts) (k : Bl V V') : Hx W V' pb hb gb cF cN cc n ws os p pN acts ts := by
  obtain ⟨cur, hc, hz⟩ := h.row
  exact ⟨h.bl.trans k, (k.block _ (lt_of_heap h.pbx)).trans h.pbx, (k.block _ (lt_of_heap h.hbx)).trans h.hbx, h.hf.bl k, ⟨cur, (k.block _ (lt_of_heap hc)).trans hc, hz⟩, h.fit, h.low⟩
theorem Hx.of {W W1 w : World} {pb hb : Nat} {ws os : Int} {p : Option Addr} {n cc : Nat} {acts : List AQ} {ts : List (Nat × Nat)} {gb cF : Nat} {vN : Value} {pb1 : Nat} {P1 : Array Value} (b : Bl W W1) (hp : W1.heap[pb]? = some (.cells (plN ws os p n cc) 24 (0, 0))) (h : Hn W1 w pb1 P1 hb ws os acts ts (.slice (some ⟨gb, 0, none⟩) n cF) (.slice (some ⟨gb, 0, none⟩) (n + 8) cF) vN 8) (ht : ts.length = n) (hl : acts.length = n) : ∃ pN cN, Hx W w pb hb gb cF cN cc n ws os p pN acts ts := by
  obtain ⟨pN, cN, rfl, hf, curF, h1, h2, h3, h4⟩ := h.hf ht hl
  exact ⟨pN, cN, b.trans h.bl, (h.bl.block _ (lt_of_heap hp)).trans hp, h.box, hf, ⟨curF, h1, h2⟩, h3, Nat.le_trans b.size h4⟩
theorem Hx.aw {W V : World} {pb hb gb cF cN cc n : Nat} {ws os : Int} {p pN : Option Addr} {acts : List AQ} {ts : List (Nat × Nat)} (h : Hx W V pb hb gb cF cN cc n ws os p pN acts ts) (ht : ts.length = acts.length) : ∀ i (hi : i < (zipQ acts ts).length), Aw V gb (0 + i * 7) (zipQ acts ts)[i].1 (zipQ acts ts)[i].2.1 (zipQ acts ts)[i].2.2 := fun i hi => by
  have h1 : i < acts.length := by rw [zipQ_len acts ts ht] at hi; exact hi
  rw [zipQ_at acts ts i hi h1 (by omega), Nat.zero_add]
  exact h.hf.act i h1 (by omega)
/-- the acts lie turned in another play's box -/
structure Tz (W V : World) (hb ob gb cF cT n : Nat) (ws os : Int) (pT : Option Addr) (rev : List AQ) : Prop where
  bl : Bl W V
  h0 : V.cell? ⟨hb, 0, none⟩ = some (.int .i64 ws)
  h1 : V.cell? ⟨hb, 1, none⟩ = some (.int .i64 os)
  h2 : V.cell? ⟨hb, 2, none⟩ = some (.slice (some ⟨gb, 0, none⟩) n cF)
  hne : hb ≠ gb
  obx : V.heap[ob]? = some (.cells (plN ws os pT n cT) 24 (0, 0))
  row : ∃ cur, V.heap[gb]? = some (.cells cur 40 (0, 0)) ∧ cur.size = cF * 7
  fit : n + 8 ≤ cF
  low : W.heap.size ≤ gb
  aw : 0 < n → ∃ gT, pT = some ⟨gT, 0, none⟩ ∧ gT ≠ gb ∧ ∀ i (hi : i < rev.length), Aw V gT (0 + i * 7) rev[i].1 rev[i].2.1 rev[i].2.2
  nm : ∀ i (hi : i < rev.length), Rs W rev[i].2.1 rev[i].1.names
theorem Hx.turn {W V V1 : World} {pb hb gb cF cN cc n : Nat} {ws os : Int} {p pN : Option Addr} {acts : List AQ} {ts : List (Nat × Nat)} (h : Hx W V pb hb gb cF cN cc n ws os p pN acts ts) (k : Bl V V1) (pT : Option Addr) (cT : Nat) (rev : List AQ) (hT : 0 < n → ∃ gT, pT = some ⟨gT, 0, none⟩ ∧ V.heap.size ≤ gT ∧ ∀ i (hi : i < rev.length), Aw V1 gT (0 + i * 7) rev[i].1 rev[i].2.1 rev[i].2.2) (hN : ∀ i (hi : i < rev.length), Rs W rev[i].2.1 rev[i].1.names) :
    Tz W ((V1.alloc (.cells (plN 0 0 none 0 0) 24)).setRow V1.heap.size (plN ws os pT n cT)) hb V1.heap.size gb cF cT n ws os pT rev := by
  have h2 := h.ext k
  obtain ⟨cur, hc, hz⟩ := h2.row
  obtain ⟨V2, hV2⟩ : ∃ X, (V1.alloc (.cells (plN 0 0 none 0 0) 24)).setRow V1.heap.size (plN ws os pT n cT) = X := ⟨_, rfl⟩
  have b2 : Bl V1 V2 := by rw [← hV2]; exact bl_setRow (Bl.alloc _ _) _ _ (Nat.le_refl _)
  have ho : V2.heap[V1.heap.size]? = some (.cells (plN ws os pT n cT) 24 (0, 0)) := by rw [← hV2]; exact setRow_heap _ _ _ _ _ _ (heap_alloc_new V1 _)
  rw [hV2]
  have h3 := h2.ext b2
  obtain ⟨cur, hc, hz⟩ := h3.row
  refine ⟨h3.bl, lit_in h3.hbx 0 _ rfl, lit_in h3.hbx 1 _ rfl, lit_in h3.hbx 2 _ rfl, fun e => ?_, ho, ⟨cur, hc, hz⟩, h3.fit, h3.low, fun h0 => ?_, hN⟩
  · have := h3.hbx
    rw [e, hc] at this
    cases this
  · obtain ⟨gT, e, h4, h5⟩ := hT h0
    obtain ⟨c0, hc0, -⟩ := h.row
    have := lt_of_heap hc0
    exact ⟨gT, e, by omega, fun i hi => (h5 i hi).bl b2⟩
/-- while the acts are put over what was handed in -/
structure Lp (V wr : World) (gb cF : Nat) (rev : List AQ) (i : Nat) : Prop where
  fr : Fr [gb] V wr
  row : ∃ cur, wr.heap[gb]? = some (.cells cur 40 (0, 0)) ∧ cur.size = cF * 7 ∧ ∀ k (hk : k < rev.length), k < i → ∀ (f : Nat) (v : Value), (akC rev[k].1 rev[k].2.1 rev[k].2.2)[f]? = some v → cur[k * 7 + f]? = some v
theorem Tz.start {W V : World} {hb ob gb cF cT n : Nat} {ws os : Int} {pT : Option Addr} {rev : List AQ} (h : Tz W V hb ob gb cF cT n ws os pT rev) : Lp V V gb cF rev 0 := by
  obtain ⟨cur, h1, h2⟩ := h.row
  exact ⟨Fr.refl _ _, cur, h1, h2, fun k hk h0 => absurd h0 (by omega)⟩
theorem Tz.fr {W V : World} {hb ob gb cF cT n : Nat} {ws os : Int} {pT : Option Addr} {rev : List AQ} (h : Tz W V hb ob gb cF cT n ws os pT rev) {wr : World} (f : Fr [gb] V wr) : Bl W wr ∧ wr.cell? ⟨hb, 0, none⟩ = some (.int .i64 ws) ∧ wr.cell? ⟨hb, 1, none⟩ = some (.int .i64 os) ∧ wr.cell? ⟨hb, 2, none⟩ = some (.slice (some ⟨gb, 0, none⟩) n cF) ∧ wr.heap[ob]? = some (.cells (plN ws os pT n cT) 24 (0, 0)) ∧ (0 < n → ∃ gT, pT = some ⟨gT, 0, none⟩ ∧ ∀ i (hi : i < rev.length), Aw wr gT (0 + i * 7) rev[i].1 rev[i].2.1 rev[i].2.2) := by
  have bW : Bl W wr := Below.trans h.bl (f.below h.bl.size (by intro b hb; have := h.low; simp at hb; omega))
  have hbl : hb < V.heap.size := World.block_lt_of_cell? V _ h.h0
  have hbk := f.block hb hbl (by simp [h.hne])
  refine ⟨bW, ?_, ?_, ?_, ?_, fun h0 => ?_⟩
  · rw [World.cell?_of_block (w := V) hbk]; exact h.h0
  · rw [World.cell?_of_block (w := V) hbk]; exact h.h1
  · rw [World.cell?_of_block (w := V) hbk]; exact h.h2
  · refine (f.block ob (lt_of_heap h.obx) ?_).trans h.obx
    obtain ⟨cur, hc, -⟩ := h.row
    simp
    rintro rfl
    have := h.obx
    rw [hc] at this
    cases this
  · obtain ⟨gT, e, h1, h2⟩ := h.aw h0
    refine ⟨gT, e, fun i hi => ?_⟩
    have a := h2 i hi
    have hg := f.block gT a.lt (by simp [h1])
    exact ⟨fun f2 v hv => by rw [World.cell?_of_block (w := V) hg]; exact a.cells f2 v hv, (h.nm i hi).bl bW, Nat.lt_of_lt_of_le a.lt f.size⟩
theorem row_put (L c : List Value) (o i : Nat) (h : o + c.length ≤ L.length) : (L.take o ++ c ++ L.drop (o + c.length))[i]? = if i < o then L[i]? else if i < o + c.length then c[i - o]? else L[i]? := by
  have ht : (L.take o).length = o := by rw [List.length_take]; omega
  split
  · rename_i h1
    rw [List.append_assoc, List.getElem?_append_left (by omega), List.getElem?_take_of_lt h1]
  · rename_i h1
    split
    · rename_i h2
      rw [List.append_assoc, List.getElem?_append_right (by omega), ht, List.getElem?_append_left (by omega)]
    · rename_i h2
      rw [List.getElem?_append_right (by rw [List.length_append, ht]; omega), List.length_append, ht, List.getElem?_drop]
      congr 1
      omega
theorem Lp.put {V wr : World} {gb cF n : Nat} {rev : List AQ} {i : Nat} (h : Lp V wr gb cF rev i) (hi : i < rev.length) (hn : rev.length = n) (hF : n + 8 ≤ cF) : ∃ cur : Array Value, wr.drew.heap[gb]? = some (.cells cur 40 (0, 0)) ∧ i * 7 + 7 ≤ cur.size ∧ Lp V (wr.drew.setRow gb (cur.toList.take (i * 7) ++ (akC rev[i].1 rev[i].2.1 rev[i].2.2).toList ++ cur.toList.drop (i * 7 + (akC rev[i].1 rev[i].2.1 rev[i].2.2).size)).toArray) gb cF rev (i + 1) := by
  obtain ⟨cur, h1, h2, h3⟩ := h.row
  refine ⟨cur, h1, by omega, (h.fr.trans (Fr.drew [] wr) (by simp)).trans (Fr.row [gb] _ gb _ (by simp)) (by simp), _, setRow_heap _ _ _ _ _ _ (show wr.drew.heap[gb]? = _ from h1), ?_, fun k hk hki f v hv => ?_⟩
  · simp [akC]
    omega
  · have hf7 : f < 7 := (Array.getElem?_eq_some_iff.1 hv).1
    have hc : i * 7 + 7 ≤ cur.toList.length := by rw [Array.length_toList]; omega
    have e := row_put cur.toList (akC rev[i].1 rev[i].2.1 rev[i].2.2).toList (i * 7) (k * 7 + f) (by rw [akC_l7]; exact hc)
    rw [akC_l7] at e
    rw [show (akC rev[i].1 rev[i].2.1 rev[i].2.2).size = 7 from rfl, List.getElem?_toArray, e]
    rcases Nat.lt_or_ge k i with hlt | hge
    · rw [if_pos (by omega), Array.getElem?_toList]
      exact h3 k hk hlt f v hv
    · have hke : k = i := by omega
      subst hke
      rw [if_neg (by omega), if_pos (by omega), show k * 7 + f - k * 7 = f by omega, Array.getElem?_toList]
      exact hv
/-- behind the loop: both plays hold the turned acts -/
structure Yz (W V : World) (hb ob gb cF cT n : Nat) (ws os : Int) (pT : Option Addr) (rev : List AQ) : Prop where
  bl : Bl W V
  h0 : V.cell? ⟨hb, 0, none⟩ = some (.int .i64 ws)
  h1 : V.cell? ⟨hb, 1, none⟩ = some (.int .i64 os)
  h2 : V.cell? ⟨hb, 2, none⟩ = some (.slice (some ⟨gb, 0, none⟩) n cF)
  o0 : V.cell? ⟨ob, 0, none⟩ = some (.int .i64 ws)
  o1 : V.cell? ⟨ob, 1, none⟩ = some (.int .i64 os)
  o2 : V.cell? ⟨ob, 2, none⟩ = some (.slice pT n cT)
  a1 : ∀ i (hi : i < rev.length), Aw V gb (0 + i * 7) rev[i].1 rev[i].2.1 rev[i].2.2
  a2 : 0 < n → ∃ gT, pT = some ⟨gT, 0, none⟩ ∧ ∀ i (hi : i < rev.length), Aw V gT (0 + i * 7) rev[i].1 rev[i].2.1 rev[i].2.2
theorem Yz.ext {W V V' : World} {hb ob gb cF cT n : Nat} {ws os : Int} {pT : Option Addr} {rev : List AQ} (h : Yz W V hb ob gb cF cT n ws os pT rev) (k : Bl V V') : Yz W V' hb ob gb cF cT n ws os pT rev :=
  ⟨h.bl.trans k, cell_bl k h.h0, cell_bl k h.h1, cell_bl k h.h2, cell_bl k h.o0, cell_bl k h.o1, cell_bl k h.o2, fun i hi => (h.a1 i hi).bl k, fun h0 => by
    obtain ⟨gT, e, h1⟩ := h.a2 h0
    exact ⟨gT, e, fun i hi => (h1 i hi).bl k⟩⟩
theorem Tz.done {W V wr : World} {hb ob gb cF cT n : Nat} {ws os : Int} {pT : Option Addr} {rev : List AQ} (h : Tz W V hb ob gb cF cT n ws os pT rev) (l : Lp V wr gb cF rev n) (hn : rev.length = n) : Yz W wr hb ob gb cF cT n ws os pT rev := by
  obtain ⟨b, c0, c1, c2, c3, c4⟩ := h.fr l.fr
  obtain ⟨cur, r1, r2, r3⟩ := l.row
  refine ⟨b, c0, c1, c2, lit_in c3 0 _ rfl, lit_in c3 1 _ rfl, lit_in c3 2 _ rfl, fun i hi => ⟨fun f v hv => ?_, (h.nm i hi).bl b, lt_of_heap r1⟩, c4⟩
  rw [Nat.zero_add]
  exact lit_in r1 _ _ (r3 i hi (by omega) f v hv)
end Go.Proofs.YtheolmnjedbjmaaGreatDoor
