import Derived.Test.YtclkoffnjiiioaaDoorIOp
import Derived.Test.YtclkoffnjiiioaaDoorCLast
namespace Go.Proofs.YtclkoffnjiiioaaDoor
open Go.RowKit
set_option linter.unusedVariables false
set_option linter.unusedSimpArgs false
attribute [local go_sem ↓] Go.wp_at_zero Go.wp_at_succ
/-- one of two may come up -/
theorem wpLast_two {P : Program} {ops : Array Oper} {Q : Exit → Act → World → Prop} {md : Region.Mode} {S : World → Prop} {L : Nat} {i j : Nat} {oi oj : Oper} {fuel : Nat} {listed : Array Bool} {a : Act} {w : World} (hr : Region.ready md ops listed = [i, j]) (hi : ops[i]? = some oi) (hj : ops[j]? = some oj) (hiL : i ≠ L) (hjL : j ≠ L)
    (h1 : ∀ K' : Act → World → Prop, Shut (∀ a w, S w → (S w → wpLast P md ops Q S L fuel (listed.setIfInBounds i true) a w) → K' a w) → if Region.wanted oi (yielded ops a.tmps) = true then Oper.wp P oi a w K' Q else K' (a.put oi.dst undef) w)
    (h2 : ∀ K' : Act → World → Prop, Shut (∀ a w, S w → (S w → wpLast P md ops Q S L fuel (listed.setIfInBounds j true) a w) → K' a w) → if Region.wanted oj (yielded ops a.tmps) = true then Oper.wp P oj a w K' Q else K' (a.put oj.dst undef) w) : wpLast P md ops Q S L (fuel + 1) listed a w := by
  refine ⟨fun h0 => (by rw [hr] at h0; cases h0), fun k hk => ?_⟩
  rw [hr] at hk
  have e : k = i ∨ k = j := by simpa using hk
  rcases e with e | e
  · subst e
    exact wpOp_step hi (fun K' hK => h1 K' (fun a w hS hW => hK a w ⟨fun _ => hS, hW hS⟩))
  · subst e
    exact wpOp_step hj (fun K' hK => h2 K' (fun a w hS hW => hK a w ⟨fun _ => hS, hW hS⟩))
def headW (a b d : Int) : List UInt8 := [99, 111, 100, 101] ++ numsW [a, b, d] ++ [10]
set_option maxRecDepth 100000 in
set_option maxHeartbeats 8000000 in
theorem writeHead_ok {W : World} {B : Nat} {v : Value} {bs : List UInt8} (h : Pg W B v bs) (a b d : Int) (ls ws : Value) (h1 : ls.oneCell' = true) (h2 : ws.oneCell' = true) (ha : -9223372036854775808 ≤ a ∧ a ≤ 9223372036854775807) (hb : -9223372036854775808 ≤ b ∧ b ≤ 9223372036854775807) (hd : -9223372036854775808 ≤ d ∧ d ≤ 9223372036854775807) (hl : bs.length ≤ 17592186044416) :
    Calls Tryd.prog 15 #[v, .agg #[.int .i64 a, .int .i64 b, .int .i64 d, ls, ws]] W fun e w' => WrP W B bs (headW a b d) e w' := by
  obtain ⟨bx, hbx⟩ : ∃ o : Obj, o = .cells #[.int .i64 a, .int .i64 b, .int .i64 d, ls, ws] 25 := ⟨_, rfl⟩
  have hg : (W.alloc bx).heap[W.heap.size]? = some (.cells #[.int .i64 a, .int .i64 b, .int .i64 d, ls, ws] 25 (0, 0)) := by rw [hbx]; exact heap_alloc_new W _
  have HS : Hid (∀ U, Pf B (W.alloc bx) U → U.cell? ⟨W.heap.size, 0, none⟩ = some (.int .i64 a) ∧ U.cell? ⟨W.heap.size, 1, none⟩ = some (.int .i64 b) ∧ U.cell? ⟨W.heap.size, 2, none⟩ = some (.int .i64 d)) := fun U hU => by
    have := hU.hb hg (by intro c fz e; injection e with _ e; cases e)
    exact ⟨cell_in this 0, cell_in this 1, cell_in this 2⟩
  have h0 : Pg ((W.alloc bx).drew) B v bs := (h.al bx).dr 1
  have hlo := h.low
  have hlo1 : B ≤ (W.alloc bx).heap.size := (h.al bx).low
  have f0 : Pf B (W.alloc bx) ((W.alloc bx).drew) := (Pf.refl B _).dn hlo1 1
  have fW : Pf B W (W.alloc bx) := (Pf.refl B W).alloc hlo bx
  -- what comes behind the append and the row of numbers, in either order
  have HNum : Hid (∀ (V : World) (pg : Value) (g : Nat), Pg V B pg (bs ++ [99, 111, 100, 101]) → V.heap[g]? = some (.cells #[.int .i64 a, .int .i64 b, .int .i64 d] 3 (0, 0)) → Calls Tryd.prog 27 #[pg, .slice (some ⟨g, 0, none⟩) 3 3] V fun e w' => WrP V B (bs ++ [99, 111, 100, 101]) (numsW [a, b, d]) e w') := fun V pg g hp hg3 => by
    refine numbers_ok hp [a, b, d] (some ⟨g, 0, none⟩) 3 (fun n hn => ?_) (by simp) (by simp; omega) (fun W' hW' _ => ⟨g, 0, rfl, fun i hi => ?_⟩)
    · simp at hn
      rcases hn with rfl | rfl | rfl
      · exact ha
      · exact hb
      · exact hd
    · have h3 := hW'.hb hg3 (by intro c fz e; injection e with _ e; cases e)
      rw [cell_in h3]
      match i, hi with
      | 0, _ => rfl
      | 1, _ => rfl
      | 2, _ => rfl
  have HEl : Hid (∀ (V : World) (pg : Value), Pg V B pg (bs ++ [99, 111, 100, 101] ++ numsW [a, b, d]) → Calls Tryd.prog 26 #[pg] V fun e w' => WrP V B (bs ++ [99, 111, 100, 101] ++ numsW [a, b, d]) [10] e w') := fun V pg hp => endLine_ok hp (by
    have := numsW_len [a, b, d] (fun n hn => by simp at hn; rcases hn with rfl | rfl | rfl; exact ha; exact hb; exact hd)
    simp only [List.length_append, List.length_cons, List.length_nil] at this ⊢
    omega)
  have HFin : Hid (∀ v' w', Pg w' B v' (bs ++ [99, 111, 100, 101] ++ numsW [a, b, d] ++ [10]) → Pf B (W.alloc bx) w' → WrP W B bs (headW a b d) (.returned v') w') := fun v' w' h1 h2 => ⟨v', rfl, by unfold headW; rw [← List.append_assoc, ← List.append_assoc]; exact h1, fW.trans h2⟩
  -- the two orders
  obtain ⟨va, wa, hra, hpa, hfa⟩ := h0.str ⟨#[99, 111, 100, 101]⟩ (by show bs.length + 4 ≤ _; omega)
  have hfa2 : Pf B (W.alloc bx) wa := f0.trans hfa
  have h0b : Pg (((W.alloc bx).alloc (.cells #[.int .i64 a, .int .i64 b, .int .i64 d] 3)).drew) B v bs := ((h.al bx).al _).dr 1
  obtain ⟨vb, wb, hrb, hpb, hfb⟩ := h0b.str ⟨#[99, 111, 100, 101]⟩ (by show bs.length + 4 ≤ _; omega)
  have hfb1 : Pf B (W.alloc bx) (((W.alloc bx).alloc (.cells #[.int .i64 a, .int .i64 b, .int .i64 d] 3)).drew) := ((Pf.refl B _).alloc hlo1 _).dn hlo1 1
  have hgb3 : (((W.alloc bx).alloc (.cells #[.int .i64 a, .int .i64 b, .int .i64 d] 3)).drew).heap[(W.alloc bx).heap.size]? = some (.cells #[.int .i64 a, .int .i64 b, .int .i64 d] 3 (0, 0)) := heap_alloc_new (W.alloc bx) _
  have hsz : (W.alloc bx).heap.size = W.heap.size + 1 := by simp
  rw [hsz] at hgb3
  have HRa := mkHid hra
  have HRb := mkHid hrb
  have HA : Hid (Pg wa B va (bs ++ [99, 111, 100, 101]) ∧ Pf B (W.alloc bx) wa) := ⟨hpa, hfa2⟩
  have HAl : Hid (Pg (wa.alloc (.cells #[.int .i64 a, .int .i64 b, .int .i64 d] 3)) B va (bs ++ [99, 111, 100, 101]) ∧ Pf B (W.alloc bx) (wa.alloc (.cells #[.int .i64 a, .int .i64 b, .int .i64 d] 3)) ∧ (wa.alloc (.cells #[.int .i64 a, .int .i64 b, .int .i64 d] 3)).heap[wa.heap.size]? = some (.cells #[.int .i64 a, .int .i64 b, .int .i64 d] 3 (0, 0))) := ⟨hpa.al _, hfa2.alloc hlo1 _, heap_alloc_new wa _⟩
  have HBl : Hid (Pf B (W.alloc bx) (((W.alloc bx).alloc (.cells #[.int .i64 a, .int .i64 b, .int .i64 d] 3)).drew)) := hfb1
  have HBb : Hid (Pg wb B vb (bs ++ [99, 111, 100, 101]) ∧ Pf B (W.alloc bx) wb ∧ wb.heap[W.heap.size + 1]? = some (.cells #[.int .i64 a, .int .i64 b, .int .i64 d] 3 (0, 0))) := ⟨hpb, hfb1.trans hfb, hfb.hb hgb3 (by intro c fz e; injection e with _ e; cases e)⟩
  have HF0 := mkHid f0
  have HBx := mkHid hbx
  clear h hg h0 hlo hlo1 f0 fW hra hpa hfa hfa2 h0b hrb hpb hfb hfb1 hgb3 hsz ha hb hd
  rw [hbx] at HS HRa HRb HA HAl HBl HBb HF0 HFin
  clear HBx hbx bx
  go_enter Tryd.func15, Tryd.ntmps15
  go_upto_region 1 with fail
  refine wp_region_last (L := 11) (S := (fun U => U.cell? ⟨W.heap.size, 0, none⟩ = some (.int .i64 a) ∧ U.cell? ⟨W.heap.size, 1, none⟩ = some (.int .i64 b) ∧ U.cell? ⟨W.heap.size, 2, none⟩ = some (.int .i64 d))) (by kernel_rfl) (HS.out _ HF0.out) (fun hHeld => ?_)
  refine wpLast_take (i := 0) (v := ?_) rfl (by kernel_rfl) (by kernel_rfl) (by kernel_rfl) (by decide) (by kernel_rfl) (fun _ _ _ h => h) (Or.inl ⟨by rfl, ?_⟩) (by assumption) ?_
  rotate_left
  · (intro w hSw; (try dsimp only at hSw); first | (go_simp; done) | (go_simp; with_reducible rfl))
  try simp only [Act.put, List.getElem_toArray, List.getElem_cons_zero, List.getElem_cons_succ, List.setIfInBounds_toArray, List.set_cons_zero, List.set_cons_succ]
  refine wpLast_take (i := 2) (v := ?_) rfl (by kernel_rfl) (by kernel_rfl) (by kernel_rfl) (by decide) (by kernel_rfl) (fun _ _ _ h => h) (Or.inl ⟨by rfl, ?_⟩) (by assumption) ?_
  rotate_left
  · (intro w hSw; (try dsimp only at hSw); first | (go_simp; done) | (go_simp; with_reducible rfl))
  try simp only [Act.put, List.getElem_toArray, List.getElem_cons_zero, List.getElem_cons_succ, List.setIfInBounds_toArray, List.set_cons_zero, List.set_cons_succ]
  refine wpLast_take (i := 3) (v := ?_) rfl (by kernel_rfl) (by kernel_rfl) (by kernel_rfl) (by decide) (by kernel_rfl) (fun _ _ _ h => h) (Or.inl ⟨by rfl, ?_⟩) (by assumption) ?_
  rotate_left
  · (intro w hSw; (try dsimp only at hSw); first | (go_simp; done) | (go_simp; with_reducible rfl))
  try simp only [Act.put, List.getElem_toArray, List.getElem_cons_zero, List.getElem_cons_succ, List.setIfInBounds_toArray, List.set_cons_zero, List.set_cons_succ]
  refine wpLast_take (i := 4) (v := ?_) rfl (by kernel_rfl) (by kernel_rfl) (by kernel_rfl) (by decide) (by kernel_rfl) (fun _ _ _ h => h) (Or.inl ⟨by rfl, ?_⟩) (by assumption) ?_
  rotate_left
  · (intro w hSw; (try dsimp only at hSw); first | (go_simp; done) | (go_simp; with_reducible rfl))
  try simp only [Act.put, List.getElem_toArray, List.getElem_cons_zero, List.getElem_cons_succ, List.setIfInBounds_toArray, List.set_cons_zero, List.set_cons_succ]
  refine wpLast_take (i := 5) (v := ?_) rfl (by kernel_rfl) (by kernel_rfl) (by kernel_rfl) (by decide) (by kernel_rfl) (fun _ _ _ h => h) (Or.inl ⟨by rfl, ?_⟩) (by assumption) ?_
  rotate_left
  · (intro w hSw; (try dsimp only at hSw); first | (go_simp; done) | (go_simp; with_reducible rfl))
  try simp only [Act.put, List.getElem_toArray, List.getElem_cons_zero, List.getElem_cons_succ, List.setIfInBounds_toArray, List.set_cons_zero, List.set_cons_succ]
  refine wpLast_take (i := 6) (v := ?_) rfl (by kernel_rfl) (by kernel_rfl) (by kernel_rfl) (by decide) (by kernel_rfl) (fun _ _ _ h => h) (Or.inl ⟨by rfl, ?_⟩) (by assumption) ?_
  rotate_left
  · (intro w hSw; (try dsimp only at hSw); first | (go_simp; done) | (go_simp; with_reducible rfl))
  try simp only [Act.put, List.getElem_toArray, List.getElem_cons_zero, List.getElem_cons_succ, List.setIfInBounds_toArray, List.set_cons_zero, List.set_cons_succ]
  refine wpLast_take (i := 7) (v := ?_) rfl (by kernel_rfl) (by kernel_rfl) (by kernel_rfl) (by decide) (by kernel_rfl) (fun _ _ _ h => h) (Or.inl ⟨by rfl, ?_⟩) (by assumption) ?_
  rotate_left
  · (intro w hSw; (try dsimp only at hSw); first | (go_simp; done) | (go_simp; with_reducible rfl))
  try simp only [Act.put, List.getElem_toArray, List.getElem_cons_zero, List.getElem_cons_succ, List.setIfInBounds_toArray, List.set_cons_zero, List.set_cons_succ]
  refine wpLast_two (i := 1) (j := 8) (by kernel_rfl) rfl rfl (by decide) (by decide) (fun K hK => ?_) (fun K hK => ?_)
  · refine step_append_run rfl (.tmp 5) (.const (.string ⟨#[99, 111, 100, 101]⟩)) 47 9 rfl v (.string ⟨#[99, 111, 100, 101]⟩) (by simp [Act.eval]) (by simp [Act.eval]) _ _ HRa.out ?_
    refine hK.out _ _ (HS.out _ HA.out.2) (fun hHeld => ?_)
    clear hK K
    try simp only [Act.put, List.getElem_toArray, List.getElem_cons_zero, List.getElem_cons_succ, List.setIfInBounds_toArray, List.set_cons_zero, List.set_cons_succ]
    refine wpLast_one (i := 8) (by kernel_rfl) rfl (by decide) (fun K hK => ?_)
    go_simp
    refine hK.out _ _ (HS.out _ HAl.out.2.1) (fun hHeld => ?_)
    clear hK K
    try simp only [Act.put, List.getElem_toArray, List.getElem_cons_zero, List.getElem_cons_succ, List.setIfInBounds_toArray, List.set_cons_zero, List.set_cons_succ]
    refine wpLast_one (i := 9) (by kernel_rfl) rfl (by decide) (fun K hK => ?_)
    go_simp
    go_wp2_with fail
    refine (HNum.out _ _ _ HAl.out.1 HAl.out.2.2).mono ?_
    rintro e w7 ⟨v7, rfl, hp7, hf7⟩
    have H7 := mkHid (And.intro hp7 hf7)
    clear hp7 hf7
    refine hK.out _ _ (HS.out _ (HAl.out.2.1.trans H7.out.2)) (fun hHeld => ?_)
    clear hK K
    try simp only [Act.put, List.getElem_toArray, List.getElem_cons_zero, List.getElem_cons_succ, List.setIfInBounds_toArray, List.set_cons_zero, List.set_cons_succ]
    refine wpLast_one (i := 10) (by kernel_rfl) rfl (by decide) (fun K hK => ?_)
    go_simp
    go_wp2_with fail
    refine (HEl.out _ _ H7.out.1).mono ?_
    rintro e w8 ⟨v8, rfl, hp8, hf8⟩
    have H8 := mkHid (HFin.out v8 w8 hp8 ((HAl.out.2.1.trans H7.out.2).trans hf8))
    have H9 := mkHid hf8
    clear hp8 hf8
    refine hK.out _ _ (HS.out _ ((HAl.out.2.1.trans H7.out.2).trans H9.out)) (fun hHeld => ?_)
    clear hK K
    try simp only [Act.put, List.getElem_toArray, List.getElem_cons_zero, List.getElem_cons_succ, List.setIfInBounds_toArray, List.set_cons_zero, List.set_cons_succ]
    refine wpLast_end (by kernel_rfl) rfl (by kernel_rfl) (fun K hK => ?_)
    go_simp
    refine hK.out _ _ ?_
    clear hK K
    try simp only [Act.put, List.getElem_toArray, List.getElem_cons_zero, List.getElem_cons_succ, List.setIfInBounds_toArray, List.set_cons_zero, List.set_cons_succ]
    go_wp2_with fail
    go_ret
    exact H8.out
  · go_simp
    refine hK.out _ _ (HS.out _ HBl.out) (fun hHeld => ?_)
    clear hK K
    try simp only [Act.put, List.getElem_toArray, List.getElem_cons_zero, List.getElem_cons_succ, List.setIfInBounds_toArray, List.set_cons_zero, List.set_cons_succ]
    refine wpLast_one (i := 1) (by kernel_rfl) rfl (by decide) (fun K hK => ?_)
    refine step_append_run rfl (.tmp 5) (.const (.string ⟨#[99, 111, 100, 101]⟩)) 47 9 rfl v (.string ⟨#[99, 111, 100, 101]⟩) (by simp [Act.eval]) (by simp [Act.eval]) _ _ HRb.out ?_
    refine hK.out _ _ (HS.out _ HBb.out.2.1) (fun hHeld => ?_)
    clear hK K
    try simp only [Act.put, List.getElem_toArray, List.getElem_cons_zero, List.getElem_cons_succ, List.setIfInBounds_toArray, List.set_cons_zero, List.set_cons_succ]
    refine wpLast_one (i := 9) (by kernel_rfl) rfl (by decide) (fun K hK => ?_)
    go_simp
    go_wp2_with fail
    refine (HNum.out _ _ _ HBb.out.1 HBb.out.2.2).mono ?_
    rintro e w7 ⟨v7, rfl, hp7, hf7⟩
    have H7 := mkHid (And.intro hp7 hf7)
    clear hp7 hf7
    refine hK.out _ _ (HS.out _ (HBb.out.2.1.trans H7.out.2)) (fun hHeld => ?_)
    clear hK K
    try simp only [Act.put, List.getElem_toArray, List.getElem_cons_zero, List.getElem_cons_succ, List.setIfInBounds_toArray, List.set_cons_zero, List.set_cons_succ]
    refine wpLast_one (i := 10) (by kernel_rfl) rfl (by decide) (fun K hK => ?_)
    go_simp
    go_wp2_with fail
    refine (HEl.out _ _ H7.out.1).mono ?_
    rintro e w8 ⟨v8, rfl, hp8, hf8⟩
    have H8 := mkHid (HFin.out v8 w8 hp8 ((HBb.out.2.1.trans H7.out.2).trans hf8))
    have H9 := mkHid hf8
    clear hp8 hf8
    refine hK.out _ _ (HS.out _ ((HBb.out.2.1.trans H7.out.2).trans H9.out)) (fun hHeld => ?_)
    clear hK K
    try simp only [Act.put, List.getElem_toArray, List.getElem_cons_zero, List.getElem_cons_succ, List.setIfInBounds_toArray, List.set_cons_zero, List.set_cons_succ]
    refine wpLast_end (by kernel_rfl) rfl (by kernel_rfl) (fun K hK => ?_)
    go_simp
    refine hK.out _ _ ?_
    clear hK K
    try simp only [Act.put, List.getElem_toArray, List.getElem_cons_zero, List.getElem_cons_succ, List.setIfInBounds_toArray, List.set_cons_zero, List.set_cons_succ]
    go_wp2_with fail
    go_ret
    exact H8.out
end Go.Proofs.YtclkoffnjiiioaaDoor
