import Derived.Test.YtdflpoldlokijaaDoorG13CTwin
namespace Go.Proofs.YtdflpoldlokijaaDoor
open Go.RowKit
set_option linter.unusedVariables false
set_option linter.unusedSimpArgs false
def setSeg (cur : Array Value) (k : Nat) : List Value → Array Value
  | [] => cur
  | v :: r => setSeg (cur.setIfInBounds k v) (k + 1) r
theorem setSeg_size : ∀ (vs : List Value) (cur : Array Value) (k : Nat), (setSeg cur k vs).size = cur.size
  | [], _, _ => rfl
  | v :: r, cur, k => by unfold setSeg; rw [setSeg_size r]; simp
theorem setSeg_list : ∀ (vs : List Value) (cur : Array Value) (k : Nat), k + vs.length ≤ cur.size → (setSeg cur k vs).toList = cur.toList.take k ++ vs ++ cur.toList.drop (k + vs.length)
  | [], cur, k, h => by simp [setSeg]
  | v :: r, cur, k, h => by
    simp only [List.length_cons] at h
    unfold setSeg
    rw [setSeg_list r _ (k + 1) (by simp; omega)]
    have hk : k < cur.toList.length := by simp; omega
    simp only [Array.toList_setIfInBounds, List.length_cons]
    rw [List.take_set, List.drop_set_of_lt (by omega), List.take_succ_eq_append_getElem hk, List.set_append_right _ _ (by simp; omega)]
    simp [show k - min k cur.size = 0 by omega, show k + 1 + r.length = k + (r.length + 1) by omega]
theorem setRow_same (w : World) (g : Nat) (cur : Array Value) (t : TypeId) (h : w.heap[g]? = some (.cells cur t (0, 0))) : w.setRow g cur = w := by
  have hlt : g < w.heap.size := (Array.getElem?_eq_some_iff.1 h).1
  have hv : w.heap[g] = .cells cur t (0, 0) := (Array.getElem?_eq_some_iff.1 h).2
  unfold World.setRow
  cases w with
  | mk heap tape drawn os output =>
    congr 1
    apply Array.ext
    · simp
    · intro k h1 h2
      simp only [Array.getElem_modify]
      split
      · rename_i hk; subst hk; simp at hv; simp [hv]
      · rfl
theorem run_storeCells_off {P : Program} (g off : Nat) (t : TypeId) : ∀ (vs : List Value) (i : Nat) (cur : Array Value) (w : World), w.heap[g]? = some (.cells cur t (0, 0)) → off + i + vs.length ≤ cur.size → (∀ v ∈ vs, v.oneCell' = true) →
    (storeCells ⟨g, off, none⟩ vs i).run P w = .ok () (w.setRow g (setSeg cur (off + i) vs))
  | [], i, cur, w, hg, hl, _ => by
    simp only [storeCells, setSeg]
    show Result.ok () w = _
    rw [setRow_same w g cur t hg]
  | v :: rest, i, cur, w, hg, hl, h1 => by
    have hi : off + i < cur.size := by simp at hl; omega
    have hadd : (⟨g, off, none⟩ : Addr).add i = ⟨g, off + i, none⟩ := by unfold Addr.add; split <;> simp_all
    have hcell : w.cell? ⟨g, off + i, none⟩ = some cur[off + i] := by simp [World.cell?, hg, hi]
    have hfro : w.frozen? ⟨g, off + i, none⟩ = false := by simp [World.frozen?, hg]
    have hst : (store ((⟨g, off, none⟩ : Addr).add i) v).run P w = .ok () (w.setRow g (cur.setIfInBounds (off + i) v)) := by
      rw [hadd, run_store P w _ v _ (h1 v (by simp)), hcell]
      simp [hfro, setCell_eq_setRow w g (off + i) cur t (0, 0) v hg]
    have ih := run_storeCells_off (P := P) g off t rest (i + 1) (cur.setIfInBounds (off + i) v) (w.setRow g (cur.setIfInBounds (off + i) v)) (setRow_heap w g cur _ t _ hg) (by simp at hl ⊢; omega) (fun x hx => h1 x (by simp [hx]))
    simp only [storeCells, Sem.run_bind, hst, Result.andThen_ok, ih, setRow_setRow]
    rfl
theorem run_storeVar_off {P : Program} (w : World) (g off : Nat) (t ty : TypeId) (old cells : Array Value) (hg : w.heap[g]? = some (.cells old t (0, 0))) (hi : (P.info? ty).map (·.size) = some cells.size)
    (ho : off + cells.size ≤ old.size) (h1 : cells.all (·.oneCell') = true) :
    (storeVar ty ⟨g, off, none⟩ (.agg cells)).run P w = .ok () (w.setRow g (setSeg old off cells.toList)) := by
  have := run_storeCells_off (P := P) g off t cells.toList 0 old w hg (by simp; omega) (fun v hv => (Array.all_eq_true_iff_forall_mem.1 h1) v (by simpa using hv))
  cases hq : P.info? ty with
  | none => simp [hq] at hi
  | some i =>
    have hs : cells.size = i.size := by simp [hq] at hi; omega
    simp [storeVar, sizeOf, typeInfo, hq, Value.cells, hs, this]
theorem wp_store_off {P : Program} {o : Oper} {a : Act} {w : World} {K : Act → World → Prop} {Q : Exit → Act → World → Prop} (ty : TypeId) (x y : Operand) (ho : o.op = .store ty x y)
    (g off : Nat) (cells : Array Value) (hx : a.eval x = .pointer (some ⟨g, off, none⟩)) (hy : a.eval y = .agg cells)
    (t : TypeId) (old : Array Value) (hg : w.heap[g]? = some (.cells old t (0, 0))) (hi : (P.info? ty).map (·.size) = some cells.size)
    (hold : off + cells.size ≤ old.size) (h1 : cells.all (·.oneCell') = true)
    (h : K (a.put o.dst undef) (w.setRow g (setSeg old off cells.toList))) : o.wp P a w K Q := by
  unfold Oper.wp execOp
  simp only [ho, hx, hy, Instr.storeAt, Instr.sureAddr, Sem.run_bind, Sem.run_pure, Result.andThen_ok, run_storeVar_off w g off t ty old cells hg hi hold h1]
  exact h
/-- a struct stored within a row, as one step of a region that draws -/
theorem step_store_off {P : Program} {ops : Array Oper} {o : Oper} {a : Act} {w : World} {K : Act → World → Prop} {Q : Exit → Act → World → Prop} {E : Prop} (hgd : o.guard = none) (ty : TypeId) (x y : Operand) (ho : o.op = .store ty x y)
    (g off : Nat) (cells : Array Value) (hx : a.eval x = .pointer (some ⟨g, off, none⟩)) (hy : a.eval y = .agg cells)
    (t : TypeId) (old : Array Value) (hg : w.heap[g]? = some (.cells old t (0, 0))) (hi : (P.info? ty).map (·.size) = some cells.size)
    (hold : off + cells.size ≤ old.size) (h1 : cells.all (·.oneCell') = true)
    (h : K (a.put o.dst undef) (w.setRow g (setSeg old off cells.toList))) : if Region.wanted o (yielded ops a.tmps) = true then Oper.wp P o a w K Q else E := by
  have hw : Region.wanted o (yielded ops a.tmps) = true := by simp [Region.wanted, hgd]
  rw [if_pos hw]
  exact wp_store_off ty x y ho g off cells hx hy t old hg hi hold h1 h
theorem plCells_set (p : Pl) : ∀ (l : List Pl) (i : Nat), i < l.length → plCells (l.set i p) = (plCells l).take (i * 6) ++ plc p ++ (plCells l).drop (i * 6 + 6)
  | [], i, h => by simp at h
  | q :: l, 0, h => by
    simp only [List.set_cons_zero, Nat.zero_mul, List.take_zero, List.nil_append, Nat.zero_add]
    show plc p ++ plCells l = plc p ++ (plc q ++ plCells l).drop 6
    rw [show (6 : Nat) = (plc q).length from rfl, List.drop_left]
  | q :: l, i + 1, h => by
    have ih := plCells_set p l i (by simpa using h)
    show plc q ++ plCells (l.set i p) = (plc q ++ plCells l).take ((i + 1) * 6) ++ plc p ++ (plc q ++ plCells l).drop ((i + 1) * 6 + 6)
    rw [ih, List.take_append, List.drop_append]
    have e : (plc q).length = 6 := rfl
    have t1 : (plc q).take ((i + 1) * 6) = plc q := List.take_of_length_le (by rw [e]; omega)
    have t2 : (plc q).drop ((i + 1) * 6 + 6) = [] := List.drop_of_length_le (by rw [e]; omega)
    rw [e, t1, t2, show (i + 1) * 6 - 6 = i * 6 by omega, show (i + 1) * 6 + 6 - 6 = i * 6 + 6 by omega]
    simp
theorem six_set {w : World} {g o : Nat} {old : Array Value} {t : TypeId} (h : w.heap[g]? = some (.cells old t (0, 0))) (a b c d e f : Value) :
    (((((w.setCell ⟨g, o, none⟩ a).setCell ⟨g, o + 1, none⟩ b).setCell ⟨g, o + 2, none⟩ c).setCell ⟨g, o + 3, none⟩ d).setCell ⟨g, o + 4, none⟩ e).setCell ⟨g, o + 5, none⟩ f = w.setRow g (setSeg old o [a, b, c, d, e, f]) := by
  rw [setCell_eq_setRow w g o old t (0, 0) a h]
  rw [setCell_eq_setRow _ g (o + 1) _ t (0, 0) b (setRow_heap w g old _ t (0, 0) h), setRow_setRow]
  rw [setCell_eq_setRow _ g (o + 2) _ t (0, 0) c (setRow_heap w g old _ t (0, 0) h), setRow_setRow]
  rw [setCell_eq_setRow _ g (o + 3) _ t (0, 0) d (setRow_heap w g old _ t (0, 0) h), setRow_setRow]
  rw [setCell_eq_setRow _ g (o + 4) _ t (0, 0) e (setRow_heap w g old _ t (0, 0) h), setRow_setRow]
  rw [setCell_eq_setRow _ g (o + 5) _ t (0, 0) f (setRow_heap w g old _ t (0, 0) h), setRow_setRow]
  rfl
/-- a place is written -/
theorem RR.put {w : World} {B a : Nat} {C : Cx} {wv : Value} {sc : List Nat} {ps : Option Addr} {cs : Nat} {pls : List Pl} {g : Nat} {k : Nat} (h : RR w B a C wv sc ps cs pls (some ⟨g, 0, none⟩) k) (i : Nat) (hi : i < pls.length) (p : Pl) :
    ∃ old, w.heap[g]? = some (.cells old 93 (0, 0)) ∧ i * 6 + 6 ≤ old.size ∧ RR (w.setRow g (setSeg old (i * 6) (plc p))) B a C wv sc ps cs (pls.set i p) (some ⟨g, 0, none⟩) k ∧ Fr [g] w (w.setRow g (setSeg old (i * 6) (plc p))) ∧ B ≤ g := by
  have h1 := h.pl
  rcases h1.2 with ⟨e, e0⟩ | ⟨g', cap, cur, e, q1, q2, q3, q4, q5, q6⟩
  · omega
  · injection e with e1 _ e3
    injection e1 with e1
    injection e1 with e1
    subst e1 e3
    have hlen : (plc p).length = 6 := rfl
    have f : Fr [g] w (w.setRow g (setSeg cur (i * 6) (plc p))) := Fr.setRow (S := [g]) w g _ (by simp)
    have hga : a ≠ g := fun e => ty_ne h.top q2 (by decide) e
    have hgs : ∀ x ∈ blk ps, x ≠ g := fun x hx e => by
      obtain ⟨c2, hc⟩ := row_block h.scs ((blk_own ps sc.length cs x).2 hx)
      exact ty_ne hc q2 (by decide) e
    have hsz : i * 6 + (plc p).length ≤ cur.size := by rw [hlen, q5]; omega
    have hS : ∀ x ∈ [g], B ≤ x := fun x hx => by simp at hx; rw [hx]; exact q1
    refine ⟨cur, q2, by rw [q5]; omega, ⟨?_, h.base, h.words.keep f fun hp x hx hm => by have := h.wlo hp x hx; have := hS x hm; omega, h.wlo, own_congr h.scs fun x hx => f.block x (own_lt h.scs x hx).2 (by simp; exact hgs x ((blk_own _ _ _ _).1 hx)), ?_, h.tb.fr f fun hm => by have := hS 0 hm; have := h.b0; omega, h.b0, h.short, h.lits, by rw [List.length_set]; exact h.plen, h.scn, h.sc1, h.sc32, h.wcap, h.rng⟩, f, q1⟩
    · rw [List.length_set]
      exact (f.block a (lt_of_heap h.top) (by simp; exact hga)).trans h.top
    · rw [List.length_set]
      refine ⟨by rw [plCells_len, List.length_set], .inr ⟨g, pls.length, setSeg cur (i * 6) (plc p), rfl, q1, setRow_heap w g cur _ 93 (0, 0) q2, Nat.le_refl _, q4, by rw [setSeg_size]; exact q5, ?_⟩⟩
      have hcl : cur.toList = plCells pls := by
        rw [← q6, List.take_of_length_le (by simp [q5])]
      rw [List.take_of_length_le (by simp [setSeg_size, q5]), setSeg_list _ _ _ hsz, hcl, plCells_set p pls i hi, hlen]
/-- a body more -/
theorem RR.more {w : World} {B a : Nat} {C : Cx} {wv : Value} {sc : List Nat} {ps : Option Addr} {cs : Nat} {pls : List Pl} {pp : Option Addr} {k : Nat} (h : RR w B a C wv sc ps cs pls pp k) (k2 : Nat) : RR (w.setCell ⟨a, 7, none⟩ (I k2)) B a C wv sc ps cs pls pp k2 ∧ Fr [a] w (w.setCell ⟨a, 7, none⟩ (I k2)) := by
  have f : Fr [a] w (w.setCell ⟨a, 7, none⟩ (I k2)) := Fr.setCell (S := [a]) w ⟨a, 7, none⟩ _ (by simp)
  have hS : ∀ x ∈ [a], B ≤ x := fun x hx => by simp at hx; rw [hx]; exact h.base
  have hsa : ∀ x ∈ blk ps, x ≠ a := fun x hx e => by
    obtain ⟨c2, hc⟩ := row_block h.scs ((blk_own ps sc.length cs x).2 hx)
    exact ty_ne hc h.top (by decide) e
  have hpa : ∀ x ∈ blk pp, x ≠ a := fun x hx e => by
    obtain ⟨c2, hc⟩ := row_block h.pl ((blk_own pp pls.length pls.length x).2 hx)
    exact ty_ne hc h.top (by decide) e
  exact ⟨⟨by rw [set_in h.top 7 _]; rfl, h.base, h.words.keep f fun hp g hg hm => by have := h.wlo hp g hg; have := hS g hm; omega, h.wlo,
    own_congr h.scs fun g hg => f.block g (own_lt h.scs g hg).2 (by simp; exact hsa g ((blk_own _ _ _ _).1 hg)), own_congr h.pl fun g hg => f.block g (own_lt h.pl g hg).2 (by simp; exact hpa g ((blk_own _ _ _ _).1 hg)),
    h.tb.fr f fun hm => by have := hS 0 hm; have := h.b0; omega, h.b0, h.short, h.lits, h.plen, h.scn, h.sc1, h.sc32, h.wcap, h.rng⟩, f⟩
end Go.Proofs.YtdflpoldlokijaaDoor
namespace Go.Proofs.YtdflpoldlokijaaDoor
open Go.RowKit
set_option linter.unusedVariables false
set_option linter.unusedSimpArgs false
attribute [local go_sem ↓] Go.wp_at_zero Go.wp_at_succ
def onwP (C : Cx) (fin : Nat) : Int := if bel (C.w (fin - 1)) ((C.ws.length : Int) - fin) then (fin : Int) + C.w (fin - 1) else -1
def bwdP (C : Cx) (fin at_ : Nat) : Int := if inR (C.w (fin - 1)) ((fin : Int) - at_ + 1) fin then (fin : Int) - C.w (fin - 1) else -1
section
variable {w : World} {B a : Nat} {C : Cx} {wv : Value} {sc : List Nat} {ps : Option Addr} {cs : Nat} {pls : List Pl} {pp : Option Addr} {k : Nat}
set_option maxRecDepth 100000 in
set_option maxHeartbeats 4000000 in
theorem onward_ok (h : RR w B a C wv sc ps cs pls pp k) (g off fin : Nat) (hc : w.cell? ⟨g, off + 3, none⟩ = some (.int .i64 (fin : Int))) (h1 : 1 ≤ fin) (h2 : fin ≤ C.ws.length) :
    Calls Tryd.prog 45 #[.pointer (some ⟨a, 0, none⟩), .pointer (some ⟨g, off, none⟩)] w fun e w' => e = .returned (.int .i64 (onwP C fin)) ∧ ∃ n, w' = w.drewN n := by
  have hsh := h.short
  have hrng := h.rng (fin - 1)
  obtain ⟨pw, cw, rfl, hw⟩ := h.word
  obtain ⟨gw, ow, rfl, hgB, hwc⟩ := hw (by omega)
  obtain ⟨c0, -⟩ := h.cells
  have x0 := hwc (fin - 1) (by omega)
  have e1 : IntKind.i64.wrap ((fin : Int) - 1) = ((fin - 1 : Nat) : Int) := by rw [iwrap_id (by omega) (by omega)]; omega
  obtain ⟨fm, hfm⟩ : ∃ fm, fin - 1 = fm := ⟨_, rfl⟩
  have hfm' : fin = fm + 1 := by omega
  have HO : Hid (onwP C fin = if bel (C.w fm) ((C.ws.length : Int) - fin) then (fin : Int) + C.w fm else -1) := by show onwP C fin = _; unfold onwP; rw [hfm]
  rw [hfm] at x0 e1 hrng
  have f1 : (0 : Int) ≤ (fm : Int) := by omega
  have f2 : (fm : Int) < (C.ws.length : Int) := by omega
  have f3 : (fm : Int) + 1 = (fin : Int) := by omega
  have HB : Hid (∀ q, Calls Tryd.prog 65 #[.int .i64 (C.w fm), .int .i64 ((C.ws.length : Int) - (fin : Int))] (w.drewN q) fun e w' => e = .returned (.bool (bel (C.w fm) ((C.ws.length : Int) - (fin : Int)))) ∧ w' = w.drewN q) := fun q => below_ok _ _ _
  have h2' : (fin : Int) ≤ (C.ws.length : Int) := by omega
  have h1' : (1 : Int) ≤ (fin : Int) := by omega
  have HD : Hid (∀ V : World, ∀ n m, V = (w.drewN n).drewN m → ∃ n, V = w.drewN n) := fun V n m e => ⟨n + m, by rw [e, World.drewN_drewN]⟩
  cases hb : bel (C.w fm) ((C.ws.length : Int) - (fin : Int))
  · rw [hb] at HB HO
    simp only [Bool.false_eq_true, if_false] at HO
    clear h hwc hb hw hfm hfm' f3
    generalize C.w fm = far at *
    go_enter Tryd.func45, Tryd.ntmps45
    go_wp2_with fail
    go_quiet (fail)
    go_wp2_with fail
    obtain ⟨W, hW⟩ : ∃ W, w.drewN nq = W := ⟨_, rfl⟩
    rw [hW]
    have HB2 : Hid (∀ q, Calls Tryd.prog 65 #[.int .i64 far, .int .i64 ((C.ws.length : Int) - (fin : Int))] (W.drewN q) fun e w' => e = .returned (.bool false) ∧ w' = W.drewN q) := fun q => by
      rw [← hW, World.drewN_drewN]; exact HB.out _
    have c0 : W.cell? ⟨a, 0, none⟩ = some (.slice (some ⟨gw, ow, none⟩) C.ws.length cw) := by rw [← hW]; exact c0
    have hc : W.cell? ⟨g, off + 3, none⟩ = some (.int .i64 (fin : Int)) := by rw [← hW]; exact hc
    have HW := mkHid hW
    clear hW
    go_quiet (first
      | (go_at_call 65; refine (HB2.out _).mono ?_; rintro e w'' ⟨rfl, rfl⟩; exact ⟨rfl, _, rfl⟩))
    go_wp2_with fail
    go_ret
    exact ⟨by rw [HO.out]; rfl, _, by rw [← HW.out, World.drewN_drewN]⟩
  · rw [hb] at HB HO
    simp only [if_true] at HO
    have hb2 : 0 ≤ C.w fm ∧ C.w fm < (C.ws.length : Int) - (fin : Int) := by simpa [bel] using hb
    obtain ⟨b1, b2⟩ := hb2
    clear h hwc hb hw hfm hfm' f3
    generalize C.w fm = far at *
    go_enter Tryd.func45, Tryd.ntmps45
    go_wp2_with fail
    go_quiet (fail)
    go_wp2_with fail
    obtain ⟨W, hW⟩ : ∃ W, w.drewN nq = W := ⟨_, rfl⟩
    rw [hW]
    have HB2 : Hid (∀ q, Calls Tryd.prog 65 #[.int .i64 far, .int .i64 ((C.ws.length : Int) - (fin : Int))] (W.drewN q) fun e w' => e = .returned (.bool true) ∧ w' = W.drewN q) := fun q => by
      rw [← hW, World.drewN_drewN]; exact HB.out _
    have c0 : W.cell? ⟨a, 0, none⟩ = some (.slice (some ⟨gw, ow, none⟩) C.ws.length cw) := by rw [← hW]; exact c0
    have hc : W.cell? ⟨g, off + 3, none⟩ = some (.int .i64 (fin : Int)) := by rw [← hW]; exact hc
    have HW := mkHid hW
    clear hW
    go_quiet (first
      | (go_at_call 65; refine (HB2.out _).mono ?_; rintro e w'' ⟨rfl, rfl⟩; exact ⟨rfl, _, rfl⟩))
    go_wp2_with fail
    go_ret
    exact ⟨by rw [HO.out]; rfl, _, by rw [← HW.out, World.drewN_drewN]⟩
set_option maxRecDepth 100000 in
set_option maxHeartbeats 4000000 in
theorem backward_ok (h : RR w B a C wv sc ps cs pls pp k) (g off fin : Nat) (hc : w.cell? ⟨g, off + 3, none⟩ = some (.int .i64 (fin : Int))) (h1 : 1 ≤ fin) (h2 : fin ≤ C.ws.length) (at_ : Nat) (hat : at_ < fin) :
    Calls Tryd.prog 46 #[.pointer (some ⟨a, 0, none⟩), .pointer (some ⟨g, off, none⟩), .int .i64 at_] w fun e w' => e = .returned (.int .i64 (bwdP C fin at_)) ∧ ∃ n, w' = w.drewN n := by
  have hsh := h.short
  have hrng := h.rng (fin - 1)
  obtain ⟨pw, cw, rfl, hw⟩ := h.word
  obtain ⟨gw, ow, rfl, hgB, hwc⟩ := hw (by omega)
  obtain ⟨c0, -⟩ := h.cells
  have x0 := hwc (fin - 1) (by omega)
  have e1 : IntKind.i64.wrap ((fin : Int) - 1) = ((fin - 1 : Nat) : Int) := by rw [iwrap_id (by omega) (by omega)]; omega
  obtain ⟨fm, hfm⟩ : ∃ fm, fin - 1 = fm := ⟨_, rfl⟩
  have hfm' : fin = fm + 1 := by omega
  have HO : Hid (bwdP C fin at_ = if inR (C.w fm) ((fin : Int) - at_ + 1) fin then (fin : Int) - C.w fm else -1) := by show bwdP C fin at_ = _; unfold bwdP; rw [hfm]
  rw [hfm] at x0 e1 hrng
  have f1 : (0 : Int) ≤ (fm : Int) := by omega
  have f2 : (fm : Int) < (C.ws.length : Int) := by omega
  have f3 : (fm : Int) + 1 = (fin : Int) := by omega
  have HB : Hid (∀ q, Calls Tryd.prog 22 #[.int .i64 (C.w fm), .int .i64 ((fin : Int) - (at_ : Int) + 1), .int .i64 (fin : Int)] (w.drewN q) fun e w' => e = .returned (.bool (inR (C.w fm) ((fin : Int) - (at_ : Int) + 1) (fin : Int))) ∧ w' = w.drewN q) := fun q => within_ok _ _ _ _
  have hat' : (at_ : Int) < (fin : Int) := by omega
  have h2' : (fin : Int) ≤ (C.ws.length : Int) := by omega
  have h1' : (1 : Int) ≤ (fin : Int) := by omega
  have HD : Hid (∀ V : World, ∀ n m, V = (w.drewN n).drewN m → ∃ n, V = w.drewN n) := fun V n m e => ⟨n + m, by rw [e, World.drewN_drewN]⟩
  cases hb : inR (C.w fm) ((fin : Int) - (at_ : Int) + 1) (fin : Int)
  · rw [hb] at HB HO
    simp only [Bool.false_eq_true, if_false] at HO
    clear h hwc hb hw hfm hfm' f3
    generalize C.w fm = far at *
    go_enter Tryd.func46, Tryd.ntmps46
    go_wp2_with fail
    go_quiet (fail)
    go_wp2_with fail
    obtain ⟨W, hW⟩ : ∃ W, w.drewN nq = W := ⟨_, rfl⟩
    rw [hW]
    have HB2 : Hid (∀ q, Calls Tryd.prog 22 #[.int .i64 far, .int .i64 ((fin : Int) - (at_ : Int) + 1), .int .i64 (fin : Int)] (W.drewN q) fun e w' => e = .returned (.bool false) ∧ w' = W.drewN q) := fun q => by
      rw [← hW, World.drewN_drewN]; exact HB.out _
    have c0 : W.cell? ⟨a, 0, none⟩ = some (.slice (some ⟨gw, ow, none⟩) C.ws.length cw) := by rw [← hW]; exact c0
    have hc : W.cell? ⟨g, off + 3, none⟩ = some (.int .i64 (fin : Int)) := by rw [← hW]; exact hc
    have HW := mkHid hW
    clear hW
    go_quiet (first
      | (go_at_call 22; refine (HB2.out _).mono ?_; rintro e w'' ⟨rfl, rfl⟩; exact ⟨rfl, _, rfl⟩))
    go_wp2_with fail
    go_ret
    exact ⟨by rw [HO.out]; rfl, _, by rw [← HW.out, World.drewN_drewN]⟩
  · rw [hb] at HB HO
    simp only [if_true] at HO
    have hb2 : (fin : Int) - (at_ : Int) + 1 ≤ C.w fm ∧ C.w fm ≤ (fin : Int) := by simpa [inR] using hb
    obtain ⟨b1, b2⟩ := hb2
    clear h hwc hb hw hfm hfm' f3
    generalize C.w fm = far at *
    go_enter Tryd.func46, Tryd.ntmps46
    go_wp2_with fail
    go_quiet (fail)
    go_wp2_with fail
    obtain ⟨W, hW⟩ : ∃ W, w.drewN nq = W := ⟨_, rfl⟩
    rw [hW]
    have HB2 : Hid (∀ q, Calls Tryd.prog 22 #[.int .i64 far, .int .i64 ((fin : Int) - (at_ : Int) + 1), .int .i64 (fin : Int)] (W.drewN q) fun e w' => e = .returned (.bool true) ∧ w' = W.drewN q) := fun q => by
      rw [← hW, World.drewN_drewN]; exact HB.out _
    have c0 : W.cell? ⟨a, 0, none⟩ = some (.slice (some ⟨gw, ow, none⟩) C.ws.length cw) := by rw [← hW]; exact c0
    have hc : W.cell? ⟨g, off + 3, none⟩ = some (.int .i64 (fin : Int)) := by rw [← hW]; exact hc
    have HW := mkHid hW
    clear hW
    go_quiet (first
      | (go_at_call 22; refine (HB2.out _).mono ?_; rintro e w'' ⟨rfl, rfl⟩; exact ⟨rfl, _, rfl⟩))
    go_wp2_with fail
    go_ret
    exact ⟨by rw [HO.out]; rfl, _, by rw [← HW.out, World.drewN_drewN]⟩
end
end Go.Proofs.YtdflpoldlokijaaDoor
