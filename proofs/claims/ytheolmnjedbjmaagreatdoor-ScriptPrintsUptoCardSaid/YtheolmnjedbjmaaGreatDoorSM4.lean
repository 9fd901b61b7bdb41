import Derived.Test.YtheolmnjedbjmaaGreatDoorSNv
import Derived.Test.YtheolmnjedbjmaaGreatDoorSM2
namespace Go.Proofs.YtheolmnjedbjmaaGreatDoor
open Go.RowKit
set_option linter.unusedVariables false
set_option linter.unusedSimpArgs false
attribute [local go_sem ↓] Go.wp_at_zero Go.wp_at_succ

/-- the state behind the number's word -/
structure St4 (W W2 : World) (B wb fb i : Nat) (C : Array Value) (tf : TypeId) (v : Value) (bs : Bs) (long : Bool) : Prop where
  wr : Wb W2 B wb v bs long
  hf : W2.heap[fb]? = some (.cells C tf (0, 0))
  ch : Wf B [wb, fb] W W2
  f2 : W2.frozen? ⟨fb, i, none⟩ = false
  c2 : ∃ y, W2.cell? ⟨fb, i, none⟩ = some y
set_option maxRecDepth 100000 in
set_option maxHeartbeats 8000000 in
theorem wnum_ok (W : World) (B wb fb i n c : Nat) (p : Option Addr) (long : Bool) (bs : Bs) (C : Array Value) (tf : TypeId) (x : Int) (hx : -9223372036854775808 ≤ x ∧ x ≤ 9223372036854775807) (hw : Wb W B wb (.slice p n c) bs long) (hn1 : bs.length = n) (hBw : B ≤ wb) (hBf : B ≤ fb) (hne : wb ≠ fb) (hf : W.heap[fb]? = some (.cells C tf (0, 0))) (htf : tf ≠ 5) (hi : C[i]? = some (.int .i64 x)) (hn : n ≤ 1100000) :
    Calls Tryz.prog 159 #[.pointer (some ⟨wb, 0, none⟩), .pointer (some ⟨fb, i, none⟩)] W fun e w' => (∃ u, e = .returned u) ∧ ∃ v', Wb w' B wb v' (bs ++ 32 :: Lib.itoa x) long ∧ w'.heap[fb]? = some (.cells (C.setIfInBounds i (.int .i64 0)) tf (0, 0)) ∧ Wf B [wb, fb] W w' := by
  have hb := hw.box
  have HS : Hid (∀ U, Bl W U → U.cell? ⟨wb, 0, none⟩ = some (.slice p n c) ∧ U.cell? ⟨fb, i, none⟩ = some (.int .i64 x) ∧ U.frozen? ⟨wb, 0, none⟩ = false) := fun U hU => by
    have q := (hU.block _ (lt_of_heap hb)).trans hb
    exact ⟨cell_in q 0, lit_in ((hU.block _ (lt_of_heap hf)).trans hf) i _ hi, frozen_in q 0⟩
  have HTX : Hid (Calls Tryz.prog 22 #[.slice p n c, .slice (some ⟨W.heap.size, 0, none⟩) 1 1] (W.drew.alloc (.cells #[.int .i64 x] 3)) fun e w' => WrV (W.drew.alloc (.cells #[.int .i64 x] 3)) B bs (32 :: Lib.itoa x) e w') := by
    have e1 : numsW [x] = 32 :: Lib.itoa x := by simp [numsW]
    rw [← e1]
    exact numbers_v (((hw.page).dr 1).al _) [x] (some ⟨W.heap.size, 0, none⟩) 1 (fun z hz => by simp at hz; subst hz; exact hx) (by simp) (by omega) (fun U hU _ => ⟨W.heap.size, 0, rfl, fun j hj => by
      have hj0 : j = 0 := by simpa using hj
      subst hj0
      exact cell_in (hU.hb (heap_alloc_new W.drew _) (fun c fz e => by cases e)) 0⟩)
  have HP3 : Hid (∀ U, Pf B (W.drew.alloc (.cells #[.int .i64 x] 3)) U → U.heap[wb]? = some (.cells #[.slice p n c, .bool long] 97 (0, 0)) ∧ U.heap[fb]? = some (.cells C tf (0, 0))) := fun U hU =>
    ⟨hU.hb ((((bl_drew W).trans (Bl.alloc _ _)).block _ (lt_of_heap hb)).trans hb) (n5 (by decide)), hU.hb ((((bl_drew W).trans (Bl.alloc _ _)).block _ (lt_of_heap hf)).trans hf) (n5 htf)⟩
  have HS3 : Hid (∀ U, Pf B (W.drew.alloc (.cells #[.int .i64 x] 3)) U → U.cell? ⟨wb, 0, none⟩ = some (.slice p n c) ∧ U.cell? ⟨fb, i, none⟩ = some (.int .i64 x) ∧ U.frozen? ⟨wb, 0, none⟩ = false) := fun U hU => by
    obtain ⟨q, qf⟩ := HP3.out U hU
    exact ⟨cell_in q 0, lit_in qf i _ hi, frozen_in q 0⟩
  have HG3 : Hid (∀ U v3 bs3 W4, Pv U B v3 bs3 ∧ Pf B (W.drew.alloc (.cells #[.int .i64 x] 3)) U → U.setCell ⟨wb, 0, none⟩ v3 = W4 → Hid (St4 W W4 B wb fb i C tf v3 bs3 long)) := fun U v3 bs3 W4 hU e => by
    subst e
    obtain ⟨q, qf⟩ := HP3.out U hU.2
    have f := Fr.setCell (S := [wb]) U ⟨wb, 0, none⟩ v3 (by simp)
    have q2 := set_in q 0 v3
    have qf2 : (U.setCell ⟨wb, 0, none⟩ v3).heap[fb]? = some (.cells C tf (0, 0)) := (f.block fb (lt_of_heap qf) (by simpa using Ne.symm hne)).trans qf
    refine ⟨⟨by simpa using q2, hU.1.fr f (fun cur fz h => ?_) hBw⟩, qf2, ((((bl_drew W).trans (Bl.alloc _ _)).wf B _).trans (hU.2.wf _)).trans ((f.wf B).mono (fun b hb => by simp at hb; simp [hb])), frozen_in qf2 i, _, lit_in qf2 i _ hi⟩
    rw [q] at h; cases h
  have HE : Hid (∀ W2 W3 v' bs', Hid (St4 W W2 B wb fb i C tf v' bs' long) → W2.setCell ⟨fb, i, none⟩ (.int .i64 0) = W3 → Wb W3 B wb v' bs' long ∧ W3.heap[fb]? = some (.cells (C.setIfInBounds i (.int .i64 0)) tf (0, 0)) ∧ Wf B [wb, fb] W W3) := fun W2 W3 v' bs' h e => by
    subst e
    have h2 := h.out
    have f := Fr.setCell (S := [fb]) W2 ⟨fb, i, none⟩ (.int .i64 0) (by simp)
    refine ⟨⟨(f.block wb (lt_of_heap h2.wr.box) (by simpa using hne)).trans h2.wr.box, h2.wr.page.fr f (fun cur fz h => ?_) hBf⟩, set_in h2.hf i _, h2.ch.trans ((f.wf B).mono (fun b hb => by simp at hb; simp [hb]))⟩
    rw [h2.hf] at h
    exact htf (by cases h; rfl)
  have HNE := mkHid hne
  clear hw hb hf hi
  go_enter Tryz.func159, Tryz.ntmps159
  go_upto_region 0 with fail
  refine wp_region_last (L := 12) (S := fun U => U.cell? ⟨wb, 0, none⟩ = some (.slice p n c) ∧ U.cell? ⟨fb, i, none⟩ = some (.int .i64 x) ∧ U.frozen? ⟨wb, 0, none⟩ = false) (by kernel_rfl) (HS.out _ (bl_drew W)) (fun hHeld => ?_)
  refine wpLast_take (i := 0) (v := ?_) rfl (by kernel_rfl) (by kernel_rfl) (by kernel_rfl) (by decide) (by kernel_rfl) (fun _ _ _ h => h) (Or.inl ⟨by rfl, ?_⟩) (by assumption) ?_
  rotate_left
  · (intro w hSw; (try dsimp only at hSw); (try go_split_ands); first | (go_simp; done) | (go_simp; with_reducible rfl))
  try simp only [Act.put, List.getElem_toArray, List.getElem_cons_zero, List.getElem_cons_succ, List.setIfInBounds_toArray, List.set_cons_zero, List.set_cons_succ]
  refine wpLast_take (i := 1) (v := ?_) rfl (by kernel_rfl) (by kernel_rfl) (by kernel_rfl) (by decide) (by kernel_rfl) (fun _ _ _ h => h) (Or.inl ⟨by rfl, ?_⟩) (by assumption) ?_
  rotate_left
  · (intro w hSw; (try dsimp only at hSw); (try go_split_ands); first | (go_simp; done) | (go_simp; with_reducible rfl))
  try simp only [Act.put, List.getElem_toArray, List.getElem_cons_zero, List.getElem_cons_succ, List.setIfInBounds_toArray, List.set_cons_zero, List.set_cons_succ]
  refine wpLast_take (i := 2) (v := ?_) rfl (by kernel_rfl) (by kernel_rfl) (by kernel_rfl) (by decide) (by kernel_rfl) (fun _ _ _ h => h) (Or.inl ⟨by rfl, ?_⟩) (by assumption) ?_
  rotate_left
  · (intro w hSw; (try dsimp only at hSw); (try go_split_ands); first | (go_simp; done) | (go_simp; with_reducible rfl))
  try simp only [Act.put, List.getElem_toArray, List.getElem_cons_zero, List.getElem_cons_succ, List.setIfInBounds_toArray, List.set_cons_zero, List.set_cons_succ]
  refine wpLast_take (i := 3) (v := ?_) rfl (by kernel_rfl) (by kernel_rfl) (by kernel_rfl) (by decide) (by kernel_rfl) (fun _ _ _ h => h) (Or.inl ⟨by rfl, ?_⟩) (by assumption) ?_
  rotate_left
  · (intro w hSw; (try dsimp only at hSw); (try go_split_ands); first | (go_simp; done) | (go_simp; with_reducible rfl))
  try simp only [Act.put, List.getElem_toArray, List.getElem_cons_zero, List.getElem_cons_succ, List.setIfInBounds_toArray, List.set_cons_zero, List.set_cons_succ]
  refine wpLast_take (i := 4) (v := ?_) rfl (by kernel_rfl) (by kernel_rfl) (by kernel_rfl) (by decide) (by kernel_rfl) (fun _ _ _ h => h) (Or.inl ⟨by rfl, ?_⟩) (by assumption) ?_
  rotate_left
  · (intro w hSw; (try dsimp only at hSw); (try go_split_ands); first | (go_simp; done) | (go_simp; with_reducible rfl))
  try simp only [Act.put, List.getElem_toArray, List.getElem_cons_zero, List.getElem_cons_succ, List.setIfInBounds_toArray, List.set_cons_zero, List.set_cons_succ]
  refine wpLast_take (i := 5) (v := ?_) rfl (by kernel_rfl) (by kernel_rfl) (by kernel_rfl) (by decide) (by kernel_rfl) (fun _ _ _ h => h) (Or.inl ⟨by rfl, ?_⟩) (by assumption) ?_
  rotate_left
  · (intro w hSw; (try dsimp only at hSw); (try go_split_ands); first | (go_simp; done) | (go_simp; with_reducible rfl))
  try simp only [Act.put, List.getElem_toArray, List.getElem_cons_zero, List.getElem_cons_succ, List.setIfInBounds_toArray, List.set_cons_zero, List.set_cons_succ]
  refine wpLast_take (i := 6) (v := ?_) rfl (by kernel_rfl) (by kernel_rfl) (by kernel_rfl) (by decide) (by kernel_rfl) (fun _ _ _ h => h) (Or.inl ⟨by rfl, ?_⟩) (by assumption) ?_
  rotate_left
  · (intro w hSw; (try dsimp only at hSw); (try go_split_ands); first | (go_simp; done) | (go_simp; with_reducible rfl))
  try simp only [Act.put, List.getElem_toArray, List.getElem_cons_zero, List.getElem_cons_succ, List.setIfInBounds_toArray, List.set_cons_zero, List.set_cons_succ]
  refine wpLast_take (i := 7) (v := ?_) rfl (by kernel_rfl) (by kernel_rfl) (by kernel_rfl) (by decide) (by kernel_rfl) (fun _ _ _ h => h) (Or.inl ⟨by rfl, ?_⟩) (by assumption) ?_
  rotate_left
  · (intro w hSw; (try dsimp only at hSw); (try go_split_ands); first | (go_simp; done) | (go_simp; with_reducible rfl))
  try simp only [Act.put, List.getElem_toArray, List.getElem_cons_zero, List.getElem_cons_succ, List.setIfInBounds_toArray, List.set_cons_zero, List.set_cons_succ]
  refine wpLast_one (i := 8) (by kernel_rfl) rfl (by decide) (fun K hK => ?_)
  go_simp
  refine hK.out _ _ (HS.out _ ((bl_drew W).trans (Bl.alloc _ _))) (fun hHeld => ?_)
  clear hK K
  try simp only [Act.put, List.getElem_toArray, List.getElem_cons_zero, List.getElem_cons_succ, List.setIfInBounds_toArray, List.set_cons_zero, List.set_cons_succ]
  refine wpLast_one (i := 9) (by kernel_rfl) rfl (by decide) (fun K hK => ?_)
  refine stepE (by rfl) 22 Tryz.f22 Tryz.func22 (by kernel_rfl) (by kernel_rfl) _ _ rfl _ (by first | (simp [Act.eval]; done) | (simp [Act.eval]; rfl)) _ (HTX.out) ?_
  rintro _ w3 ⟨v3, rfl, q3⟩
  refine hK.out _ _ (HS3.out _ q3.2) (fun hHeld => ?_)
  clear hK K
  try simp only [Act.put, List.getElem_toArray, List.getElem_cons_zero, List.getElem_cons_succ, List.setIfInBounds_toArray, List.set_cons_zero, List.set_cons_succ]
  refine wpLast_one (i := 10) (by kernel_rfl) rfl (by decide) (fun K hK => ?_)
  go_simp
  refine hK.out _ _ (by assumption) (fun hHeld => ?_)
  clear hK K
  try simp only [Act.put, List.getElem_toArray, List.getElem_cons_zero, List.getElem_cons_succ, List.setIfInBounds_toArray, List.set_cons_zero, List.set_cons_succ]
  refine wpLast_take (i := 11) (v := ?_) rfl (by kernel_rfl) (by kernel_rfl) (by kernel_rfl) (by decide) (by kernel_rfl) (fun _ _ _ h => h) (Or.inl ⟨by rfl, ?_⟩) (by assumption) ?_
  rotate_left
  · (intro w hSw; (try dsimp only at hSw); (try go_split_ands); first | (go_simp; done) | (go_simp; with_reducible rfl))
  try simp only [Act.put, List.getElem_toArray, List.getElem_cons_zero, List.getElem_cons_succ, List.setIfInBounds_toArray, List.set_cons_zero, List.set_cons_succ]
  obtain ⟨p3, c3, rfl⟩ := q3.1.slice
  generalize (bs ++ 32 :: Lib.itoa x).length = n3 at *
  obtain ⟨W4, hW4⟩ : ∃ X, w3.setCell ⟨wb, 0, none⟩ (.slice p3 n3 c3) = X := ⟨_, rfl⟩
  have H4 := HG3.out w3 _ _ W4 q3 hW4
  have h4f := H4.out.f2
  obtain ⟨y4, h4c⟩ := H4.out.c2
  have hz3 : w3.frozen? ⟨wb, 0, none⟩ = false := (HS3.out _ q3.2).2.2
  refine wpLast_end (by kernel_rfl) rfl (by kernel_rfl) (fun K hK => ?_)
  (try go_split_ands); go_simp
  refine hK.out _ _ ?_
  clear hK K
  try simp only [Act.put, List.getElem_toArray, List.getElem_cons_zero, List.getElem_cons_succ, List.setIfInBounds_toArray, List.set_cons_zero, List.set_cons_succ]
  go_wp2_with fail
  refine bodyPost_end (results_none rfl _ _ _) rfl ?_
  exact ⟨⟨_, rfl⟩, _, HE.out _ _ _ _ H4 rfl⟩
end Go.Proofs.YtheolmnjedbjmaaGreatDoor

