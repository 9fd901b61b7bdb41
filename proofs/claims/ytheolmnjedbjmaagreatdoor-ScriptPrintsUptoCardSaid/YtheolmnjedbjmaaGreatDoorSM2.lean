import Derived.Test.YtheolmnjedbjmaaGreatDoorSM1
namespace Go.Proofs.YtheolmnjedbjmaaGreatDoor
open Go.RowKit
set_option linter.unusedVariables false
set_option linter.unusedSimpArgs false
attribute [local go_sem ↓] Go.wp_at_zero Go.wp_at_succ

/-- what a writer may change: the boxes of S, and pages from B on -/
structure Wf (B : Nat) (S : List Nat) (w w' : World) : Prop where
  os : w'.os = w.os
  tape : w'.tape = w.tape
  output : w'.output = w.output
  size : w.heap.size ≤ w'.heap.size
  block : ∀ (k : Nat) (o : Obj), w.heap[k]? = some o → k ∉ S → (k < B ∨ ∀ c fz, o ≠ .cells c 5 fz) → w'.heap[k]? = some o
theorem Wf.refl (B : Nat) (S : List Nat) (w : World) : Wf B S w w := ⟨rfl, rfl, rfl, Nat.le_refl _, fun _ _ h _ _ => h⟩
theorem Wf.trans {B : Nat} {S : List Nat} {a b c : World} (h : Wf B S a b) (k : Wf B S b c) : Wf B S a c :=
  ⟨k.os.trans h.os, k.tape.trans h.tape, k.output.trans h.output, Nat.le_trans h.size k.size, fun j o hj hn ht => k.block j o (h.block j o hj hn ht) hn ht⟩
theorem Wf.mono {B : Nat} {S S' : List Nat} {w w' : World} (h : Wf B S w w') (hs : ∀ b ∈ S, b ∈ S' ∨ w.heap.size ≤ b) : Wf B S' w w' :=
  ⟨h.os, h.tape, h.output, h.size, fun k o hk hn ht => h.block k o hk (fun hm => by
    rcases hs k hm with h1 | h1
    · exact hn h1
    · have := lt_of_heap hk; omega) ht⟩
theorem Bl.wf {w w' : World} (h : Bl w w') (B : Nat) (S : List Nat) : Wf B S w w' := ⟨h.os, h.tape, h.output, h.size, fun k o hk _ _ => (h.block k (lt_of_heap hk)).trans hk⟩
theorem Fr.wf {S : List Nat} {w w' : World} (h : Fr S w w') (B : Nat) : Wf B S w w' := ⟨h.os, h.tape, h.output, h.size, fun k o hk hn _ => (h.block k (lt_of_heap hk) hn).trans hk⟩
theorem Pf.wf {B : Nat} {w w' : World} (h : Pf B w w') (S : List Nat) : Wf B S w w' := ⟨h.below.os, h.below.tape, h.below.output, h.below.size, fun k o hk _ ht => by
  rcases ht with h1 | h1
  · exact (h.below.block k h1).trans hk
  · exact h.hb hk h1⟩
theorem lit_in {w : World} {a : Nat} {C : Array Value} {t : TypeId} (h : w.heap[a]? = some (.cells C t (0, 0))) (i : Nat) (v : Value) (hi : C[i]? = some v) : w.cell? ⟨a, i, none⟩ = some v := by rw [cell_in h i, hi]
theorem frozen_bl {W W' : World} (k : Bl W W') {p : Addr} (h : p.block < W.heap.size) : W'.frozen? p = W.frozen? p := World.frozen?_of_block (w := W) (k.block p.block h)
theorem Pv.fr {W C : World} {B : Nat} {v : Value} {bs : Bs} (h : Pv W B v bs) {b : Nat} (f : Fr [b] W C) (hb : ∀ cur fz, W.heap[b]? ≠ some (.cells cur 5 fz)) (hB : B ≤ b) : Pv C B v bs := by
  rcases h with h | h
  · exact Or.inl (h.fr f hb hB)
  · obtain ⟨g, cap, cur, fz, e, hg, h2, r⟩ := h.at_
    refine Or.inr ⟨⟨g, cap, cur, fz, e, hg, ?_, r⟩, Nat.le_trans h.low f.size, h.tab.on (f.below h.low (by simp; omega))⟩
    rw [f.block g (lt_of_heap h2) (by simp; intro e; subst e; exact hb _ _ h2)]
    exact h2
/-- the state behind the mark 'long' -/
structure St2 (W W2 : World) (B wb fb i : Nat) (C : Array Value) (tf : TypeId) (v : Value) (bs : Bs) (s : ByteArray) (x : Bool) : Prop where
  wr : Wb W2 B wb v bs x
  hf : W2.heap[fb]? = some (.cells C tf (0, 0))
  ch : Wf B [wb, fb] W W2
  c1 : W2.cell? ⟨wb, 1, none⟩ = some (.bool x)
  c0 : W2.cell? ⟨wb, 0, none⟩ = some v
  c2 : W2.cell? ⟨fb, i, none⟩ = some (.string s)
  f1 : W2.frozen? ⟨wb, 0, none⟩ = false
  f2 : W2.frozen? ⟨fb, i, none⟩ = false
/-- what the writer's text leaves -/
def txF (long : Bool) (bs s : Bs) : Bool × Bs := if (isL long bs || decide (262144 < bs.length + s.length)) = true then (true, bs) else (false, bs ++ 32 :: wordB s)
set_option maxRecDepth 100000 in
set_option maxHeartbeats 8000000 in
theorem wtext_ok' (W : World) (B wb fb i n c : Nat) (p : Option Addr) (long : Bool) (bs : Bs) (C : Array Value) (tf : TypeId) (s : ByteArray) (hw : Wb W B wb (.slice p n c) bs long) (hn1 : bs.length = n) (hBw : B ≤ wb) (hBf : B ≤ fb) (hne : wb ≠ fb) (hf : W.heap[fb]? = some (.cells C tf (0, 0))) (htf : tf ≠ 5) (hi : C[i]? = some (.string s)) (hn : n ≤ 1100000) (hs : s.size ≤ 2305843009213693952) :
    Calls Tryz.prog 160 #[.pointer (some ⟨wb, 0, none⟩), .pointer (some ⟨fb, i, none⟩)] W fun e w' => (∃ u, e = .returned u) ∧ ∃ v', Wb w' B wb v' (txF long bs s.data.toList).2 (txF long bs s.data.toList).1 ∧ w'.heap[fb]? = some (.cells (C.setIfInBounds i (.string ⟨#[]⟩)) tf (0, 0)) ∧ Wf B [wb, fb] W w' := by
  have hb := hw.box
  have HS : Hid (∀ U, Bl W U → U.cell? ⟨wb, 0, none⟩ = some (.slice p n c) ∧ U.cell? ⟨wb, 1, none⟩ = some (.bool long) ∧ U.cell? ⟨fb, i, none⟩ = some (.string s) ∧ U.frozen? ⟨wb, 1, none⟩ = false) := fun U hU => by
    have q := (hU.block _ (lt_of_heap hb)).trans hb
    exact ⟨cell_in q 0, cell_in q 1, lit_in ((hU.block _ (lt_of_heap hf)).trans hf) i _ hi, frozen_in q 1⟩
  have HIL : Hid (∀ U, Bl W U → Calls Tryz.prog 45 #[.pointer (some ⟨wb, 0, none⟩)] U fun e w' => e = .returned (.bool (long || decide (262144 < n))) ∧ Bl U w') := fun U hU => isLong_ok U wb p n c long (by omega) ((hU.block _ (lt_of_heap hb)).trans hb)
  have HG : Hid (∀ U W2 x, Bl W U → U.setCell ⟨wb, 1, none⟩ (.bool x) = W2 → Hid (St2 W W2 B wb fb i C tf (.slice p n c) bs s x)) := fun U W2 x hU e => by
    subst e
    have q := (hU.block _ (lt_of_heap hb)).trans hb
    have qf := (hU.block _ (lt_of_heap hf)).trans hf
    have f := Fr.setCell (S := [wb]) U ⟨wb, 1, none⟩ (.bool x) (by simp)
    have q2 := set_in q 1 (.bool x)
    have qf2 : (U.setCell ⟨wb, 1, none⟩ (.bool x)).heap[fb]? = some (.cells C tf (0, 0)) := (f.block fb (lt_of_heap qf) (by simpa using Ne.symm hne)).trans qf
    refine ⟨⟨by simpa using q2, (hw.page.bl hU).fr f (fun cur fz h => ?_) hBw⟩, qf2, (hU.wf B _).trans ((f.wf B).mono (fun b hb => by simp at hb; simp [hb])), ?_, ?_, lit_in qf2 i _ hi, frozen_in q2 0, frozen_in qf2 i⟩
    · rw [q] at h; cases h
    · exact lit_in q2 1 _ (by simp)
    · exact lit_in q2 0 _ (by simp)
  have HE : Hid (∀ W2 W3 v' bs' x, Hid (St2 W W2 B wb fb i C tf v' bs' s x) → W2.setCell ⟨fb, i, none⟩ (.string ⟨#[]⟩) = W3 → Wb W3 B wb v' bs' x ∧ W3.heap[fb]? = some (.cells (C.setIfInBounds i (.string ⟨#[]⟩)) tf (0, 0)) ∧ Wf B [wb, fb] W W3) := fun W2 W3 v' bs' x h e => by
    subst e
    have h2 := h.out
    have f := Fr.setCell (S := [fb]) W2 ⟨fb, i, none⟩ (.string ⟨#[]⟩) (by simp)
    refine ⟨⟨(f.block wb (lt_of_heap h2.wr.box) (by simpa using hne)).trans h2.wr.box, h2.wr.page.fr f (fun cur fz h => ?_) hBf⟩, set_in h2.hf i _, h2.ch.trans ((f.wf B).mono (fun b hb => by simp at hb; simp [hb]))⟩
    rw [h2.hf] at h
    exact htf (by cases h; rfl)
  have HTX : Hid (∀ (W2 : World) (x : Bool), Hid (St2 W W2 B wb fb i C tf (.slice p n c) bs s x) → s.size ≤ 262144 → Calls Tryz.prog 162 #[.slice p n c, .string s] W2.drew fun e w' => WrV W2.drew B bs (32 :: wordB s.data.toList) e w') := fun W2 x h hsz => text_v' ((h.out.wr.page).dr 1) s (by omega)
  have HP3 : Hid (∀ (W2 : World) (x : Bool), Hid (St2 W W2 B wb fb i C tf (.slice p n c) bs s x) → ∀ U, Pf B W2.drew U → U.heap[wb]? = some (.cells #[.slice p n c, .bool x] 97 (0, 0)) ∧ U.heap[fb]? = some (.cells C tf (0, 0))) := fun W2 x h U hU =>
    ⟨hU.hb (show W2.drew.heap[wb]? = _ from h.out.wr.box) (n5 (by decide)), hU.hb (show W2.drew.heap[fb]? = _ from h.out.hf) (n5 htf)⟩
  have HS3 : Hid (∀ (W2 : World) (x : Bool), Hid (St2 W W2 B wb fb i C tf (.slice p n c) bs s x) → ∀ U, Pf B W2.drew U → U.cell? ⟨wb, 0, none⟩ = some (.slice p n c) ∧ U.cell? ⟨fb, i, none⟩ = some (.string s) ∧ U.frozen? ⟨wb, 0, none⟩ = false) := fun W2 x h U hU => by
    obtain ⟨q, qf⟩ := HP3.out W2 x h U hU
    exact ⟨cell_in q 0, lit_in qf i _ hi, frozen_in q 0⟩
  have HG3 : Hid (∀ (W2 : World) (x : Bool), Hid (St2 W W2 B wb fb i C tf (.slice p n c) bs s x) → ∀ U v3 bs3 W4, Pv U B v3 bs3 ∧ Pf B W2.drew U → U.setCell ⟨wb, 0, none⟩ v3 = W4 → Hid (St2 W W4 B wb fb i C tf v3 bs3 s x)) := fun W2 x h U v3 bs3 W4 hU e => by
    subst e
    obtain ⟨q, qf⟩ := HP3.out W2 x h U hU.2
    have f := Fr.setCell (S := [wb]) U ⟨wb, 0, none⟩ v3 (by simp)
    have q2 := set_in q 0 v3
    have qf2 : (U.setCell ⟨wb, 0, none⟩ v3).heap[fb]? = some (.cells C tf (0, 0)) := (f.block fb (lt_of_heap qf) (by simpa using Ne.symm hne)).trans qf
    refine ⟨⟨by simpa using q2, hU.1.fr f (fun cur fz h => ?_) hBw⟩, qf2, ((h.out.ch.trans ((bl_drew W2).wf B _)).trans (hU.2.wf _)).trans ((f.wf B).mono (fun b hb => by simp at hb; simp [hb])), ?_, ?_, lit_in qf2 i _ hi, frozen_in q2 0, frozen_in qf2 i⟩
    · rw [q] at h; cases h
    · exact lit_in q2 1 _ (by simp)
    · exact lit_in q2 0 _ (by simp)
  have HNE := mkHid hne
  clear hw hb hf hi
  have hsz : s.data.toList.length = s.size := by rw [Array.length_toList]; rfl
  by_cases hl : (long || decide (262144 < n)) = true
  · have HF : Hid (txF long bs s.data.toList = (true, bs)) := by unfold txF isL; rw [hn1, hl]; rfl
    rw [HF.out]
    rw [hl] at HIL
    go_enter Tryz.func160, Tryz.ntmps160
    go_upto_region 0 with fail
    refine wp_region_last (L := 18) (S := fun U => U.cell? ⟨wb, 0, none⟩ = some (.slice p n c) ∧ U.cell? ⟨wb, 1, none⟩ = some (.bool long) ∧ U.cell? ⟨fb, i, none⟩ = some (.string s) ∧ U.frozen? ⟨wb, 1, none⟩ = false) (by kernel_rfl) (HS.out _ (bl_drew W)) (fun hHeld => ?_)
    refine wpLast_take (i := 0) (v := ?_) rfl (by kernel_rfl) (by kernel_rfl) (by kernel_rfl) (by decide) (by kernel_rfl) (fun _ _ _ h => h) (Or.inl ⟨by rfl, ?_⟩) (by assumption) ?_
    rotate_left
    · (intro w hSw; (try dsimp only at hSw); (try go_split_ands); first | (go_simp; done) | (go_simp; with_reducible rfl))
    try simp only [Act.put, List.getElem_toArray, List.getElem_cons_zero, List.getElem_cons_succ, List.setIfInBounds_toArray, List.set_cons_zero, List.set_cons_succ]
    refine wpLast_take (i := 1) (v := ?_) rfl (by kernel_rfl) (by kernel_rfl) (by kernel_rfl) (by decide) (by kernel_rfl) (fun _ _ _ h => h) (Or.inl ⟨by rfl, ?_⟩) (by assumption) ?_
    rotate_left
    · (intro w hSw; (try dsimp only at hSw); (try go_split_ands); first | (go_simp; done) | (go_simp; with_reducible rfl))
    try simp only [Act.put, List.getElem_toArray, List.getElem_cons_zero, List.getElem_cons_succ, List.setIfInBounds_toArray, List.set_cons_zero, List.set_cons_succ]
    refine wpLast_one (i := 2) (by kernel_rfl) rfl (by decide) (fun K hK => ?_)
    refine stepE (by rfl) 45 Tryz.f45 Tryz.func45 (by kernel_rfl) (by kernel_rfl) _ _ rfl _ (by first | (simp [Act.eval]; done) | (simp [Act.eval]; rfl)) _ (HIL.out _ (bl_drew W)) ?_
    rintro _ w1 ⟨rfl, b1⟩
    refine hK.out _ _ (HS.out _ ((bl_drew W).trans b1)) (fun hHeld => ?_)
    clear hK K
    try simp only [Act.put, List.getElem_toArray, List.getElem_cons_zero, List.getElem_cons_succ, List.setIfInBounds_toArray, List.set_cons_zero, List.set_cons_succ]
    refine wpLast_take (i := 3) (v := ?_) rfl (by kernel_rfl) (by kernel_rfl) (by kernel_rfl) (by decide) (by kernel_rfl) (fun _ _ _ h => h) (Or.inl ⟨by rfl, ?_⟩) (by assumption) ?_
    rotate_left
    · (intro w hSw; (try dsimp only at hSw); (try go_split_ands); first | (go_simp; done) | (go_simp; with_reducible rfl))
    try simp only [Act.put, List.getElem_toArray, List.getElem_cons_zero, List.getElem_cons_succ, List.setIfInBounds_toArray, List.set_cons_zero, List.set_cons_succ]
    refine wpLast_take (i := 4) (v := undef) rfl (by kernel_rfl) (by kernel_rfl) (by kernel_rfl) (by decide) (by kernel_rfl) (fun _ _ _ h => h) (Or.inr ⟨by rfl, rfl⟩) (by assumption) ?_
    try simp only [Act.put, List.getElem_toArray, List.getElem_cons_zero, List.getElem_cons_succ, List.setIfInBounds_toArray, List.set_cons_zero, List.set_cons_succ]
    refine wpLast_take (i := 5) (v := undef) rfl (by kernel_rfl) (by kernel_rfl) (by kernel_rfl) (by decide) (by kernel_rfl) (fun _ _ _ h => h) (Or.inr ⟨by rfl, rfl⟩) (by assumption) ?_
    try simp only [Act.put, List.getElem_toArray, List.getElem_cons_zero, List.getElem_cons_succ, List.setIfInBounds_toArray, List.set_cons_zero, List.set_cons_succ]
    refine wpLast_take (i := 6) (v := undef) rfl (by kernel_rfl) (by kernel_rfl) (by kernel_rfl) (by decide) (by kernel_rfl) (fun _ _ _ h => h) (Or.inr ⟨by rfl, rfl⟩) (by assumption) ?_
    try simp only [Act.put, List.getElem_toArray, List.getElem_cons_zero, List.getElem_cons_succ, List.setIfInBounds_toArray, List.set_cons_zero, List.set_cons_succ]
    refine wpLast_take (i := 7) (v := undef) rfl (by kernel_rfl) (by kernel_rfl) (by kernel_rfl) (by decide) (by kernel_rfl) (fun _ _ _ h => h) (Or.inr ⟨by rfl, rfl⟩) (by assumption) ?_
    try simp only [Act.put, List.getElem_toArray, List.getElem_cons_zero, List.getElem_cons_succ, List.setIfInBounds_toArray, List.set_cons_zero, List.set_cons_succ]
    refine wpLast_take (i := 8) (v := undef) rfl (by kernel_rfl) (by kernel_rfl) (by kernel_rfl) (by decide) (by kernel_rfl) (fun _ _ _ h => h) (Or.inr ⟨by rfl, rfl⟩) (by assumption) ?_
    try simp only [Act.put, List.getElem_toArray, List.getElem_cons_zero, List.getElem_cons_succ, List.setIfInBounds_toArray, List.set_cons_zero, List.set_cons_succ]
    refine wpLast_take (i := 9) (v := undef) rfl (by kernel_rfl) (by kernel_rfl) (by kernel_rfl) (by decide) (by kernel_rfl) (fun _ _ _ h => h) (Or.inr ⟨by rfl, rfl⟩) (by assumption) ?_
    try simp only [Act.put, List.getElem_toArray, List.getElem_cons_zero, List.getElem_cons_succ, List.setIfInBounds_toArray, List.set_cons_zero, List.set_cons_succ]
    refine wpLast_take (i := 10) (v := undef) rfl (by kernel_rfl) (by kernel_rfl) (by kernel_rfl) (by decide) (by kernel_rfl) (fun _ _ _ h => h) (Or.inr ⟨by rfl, rfl⟩) (by assumption) ?_
    try simp only [Act.put, List.getElem_toArray, List.getElem_cons_zero, List.getElem_cons_succ, List.setIfInBounds_toArray, List.set_cons_zero, List.set_cons_succ]
    refine wpLast_take (i := 11) (v := undef) rfl (by kernel_rfl) (by kernel_rfl) (by kernel_rfl) (by decide) (by kernel_rfl) (fun _ _ _ h => h) (Or.inr ⟨by rfl, rfl⟩) (by assumption) ?_
    try simp only [Act.put, List.getElem_toArray, List.getElem_cons_zero, List.getElem_cons_succ, List.setIfInBounds_toArray, List.set_cons_zero, List.set_cons_succ]
    refine wpLast_take (i := 12) (v := undef) rfl (by kernel_rfl) (by kernel_rfl) (by kernel_rfl) (by decide) (by kernel_rfl) (fun _ _ _ h => h) (Or.inr ⟨by rfl, rfl⟩) (by assumption) ?_
    try simp only [Act.put, List.getElem_toArray, List.getElem_cons_zero, List.getElem_cons_succ, List.setIfInBounds_toArray, List.set_cons_zero, List.set_cons_succ]
    refine wpLast_take (i := 13) (v := undef) rfl (by kernel_rfl) (by kernel_rfl) (by kernel_rfl) (by decide) (by kernel_rfl) (fun _ _ _ h => h) (Or.inr ⟨by rfl, rfl⟩) (by assumption) ?_
    try simp only [Act.put, List.getElem_toArray, List.getElem_cons_zero, List.getElem_cons_succ, List.setIfInBounds_toArray, List.set_cons_zero, List.set_cons_succ]
    refine wpLast_take (i := 14) (v := undef) rfl (by kernel_rfl) (by kernel_rfl) (by kernel_rfl) (by decide) (by kernel_rfl) (fun _ _ _ h => h) (Or.inr ⟨by rfl, rfl⟩) (by assumption) ?_
    try simp only [Act.put, List.getElem_toArray, List.getElem_cons_zero, List.getElem_cons_succ, List.setIfInBounds_toArray, List.set_cons_zero, List.set_cons_succ]
    refine wpLast_take (i := 15) (v := ?_) rfl (by kernel_rfl) (by kernel_rfl) (by kernel_rfl) (by decide) (by kernel_rfl) (fun _ _ _ h => h) (Or.inl ⟨by rfl, ?_⟩) (by assumption) ?_
    rotate_left
    · (intro w hSw; (try dsimp only at hSw); (try go_split_ands); first | (go_simp; done) | (go_simp; with_reducible rfl))
    try simp only [Act.put, List.getElem_toArray, List.getElem_cons_zero, List.getElem_cons_succ, List.setIfInBounds_toArray, List.set_cons_zero, List.set_cons_succ]
    refine wpLast_one (i := 16) (by kernel_rfl) rfl (by decide) (fun K hK => ?_)
    go_simp
    refine hK.out _ _ (by assumption) (fun hHeld => ?_)
    clear hK K
    try simp only [Act.put, List.getElem_toArray, List.getElem_cons_zero, List.getElem_cons_succ, List.setIfInBounds_toArray, List.set_cons_zero, List.set_cons_succ]
    refine wpLast_take (i := 17) (v := ?_) rfl (by kernel_rfl) (by kernel_rfl) (by kernel_rfl) (by decide) (by kernel_rfl) (fun _ _ _ h => h) (Or.inl ⟨by rfl, ?_⟩) (by assumption) ?_
    rotate_left
    · (intro w hSw; (try dsimp only at hSw); (try go_split_ands); first | (go_simp; done) | (go_simp; with_reducible rfl))
    try simp only [Act.put, List.getElem_toArray, List.getElem_cons_zero, List.getElem_cons_succ, List.setIfInBounds_toArray, List.set_cons_zero, List.set_cons_succ]
    obtain ⟨W2, hW2⟩ : ∃ X, w1.setCell ⟨wb, 1, none⟩ (.bool true) = X := ⟨_, rfl⟩
    have H2 := HG.out w1 W2 true ((bl_drew W).trans b1) hW2
    have h2c := H2.out.c1
    have h2f := H2.out.c2
    have h2z := H2.out.f2
    have hFn := H2.out.f1
    have hz1 : w1.frozen? ⟨wb, 1, none⟩ = false := (HS.out _ ((bl_drew W).trans b1)).2.2.2
    refine wpLast_end (by kernel_rfl) rfl (by kernel_rfl) (fun K hK => ?_)
    (try go_split_ands); go_simp
    refine hK.out _ _ ?_
    clear hK K
    try simp only [Act.put, List.getElem_toArray, List.getElem_cons_zero, List.getElem_cons_succ, List.setIfInBounds_toArray, List.set_cons_zero, List.set_cons_succ]

    go_wp2_with fail
    refine bodyPost_end (results_none rfl _ _ _) rfl ?_
    exact ⟨⟨_, rfl⟩, _, HE.out _ _ _ _ _ H2 rfl⟩
  · have hl1 : (long || decide (262144 < n)) = false := by simpa using hl
    have hlong : long = false := by cases long <;> simp_all
    have hn2 : ¬ 262144 < n := by cases long <;> simp_all
    have hadd : IntKind.i64.wrap ((n : Int) + (s.size : Int)) = (n : Int) + (s.size : Int) := wrap_id _ (by omega) (by omega)
    rw [hl1] at HIL
    by_cases hg : 262144 < n + s.size
    · have hg1 : (262144 : Int) < (n : Int) + (s.size : Int) := by omega
      have HF : Hid (txF long bs s.data.toList = (true, bs)) := by unfold txF isL; rw [hn1, hsz, hl1, Bool.false_or, decide_eq_true hg]; rfl
      rw [HF.out]
      go_enter Tryz.func160, Tryz.ntmps160
      go_upto_region 0 with fail
      refine wp_region_last (L := 18) (S := fun U => U.cell? ⟨wb, 0, none⟩ = some (.slice p n c) ∧ U.cell? ⟨wb, 1, none⟩ = some (.bool long) ∧ U.cell? ⟨fb, i, none⟩ = some (.string s) ∧ U.frozen? ⟨wb, 1, none⟩ = false) (by kernel_rfl) (HS.out _ (bl_drew W)) (fun hHeld => ?_)
      refine wpLast_take (i := 0) (v := ?_) rfl (by kernel_rfl) (by kernel_rfl) (by kernel_rfl) (by decide) (by kernel_rfl) (fun _ _ _ h => h) (Or.inl ⟨by rfl, ?_⟩) (by assumption) ?_
      rotate_left
      · (intro w hSw; (try dsimp only at hSw); (try go_split_ands); first | (go_simp; done) | (go_simp; with_reducible rfl))
      try simp only [Act.put, List.getElem_toArray, List.getElem_cons_zero, List.getElem_cons_succ, List.setIfInBounds_toArray, List.set_cons_zero, List.set_cons_succ]
      refine wpLast_take (i := 1) (v := ?_) rfl (by kernel_rfl) (by kernel_rfl) (by kernel_rfl) (by decide) (by kernel_rfl) (fun _ _ _ h => h) (Or.inl ⟨by rfl, ?_⟩) (by assumption) ?_
      rotate_left
      · (intro w hSw; (try dsimp only at hSw); (try go_split_ands); first | (go_simp; done) | (go_simp; with_reducible rfl))
      try simp only [Act.put, List.getElem_toArray, List.getElem_cons_zero, List.getElem_cons_succ, List.setIfInBounds_toArray, List.set_cons_zero, List.set_cons_succ]
      refine wpLast_one (i := 2) (by kernel_rfl) rfl (by decide) (fun K hK => ?_)
      refine stepE (by rfl) 45 Tryz.f45 Tryz.func45 (by kernel_rfl) (by kernel_rfl) _ _ rfl _ (by first | (simp [Act.eval]; done) | (simp [Act.eval]; rfl)) _ (HIL.out _ (bl_drew W)) ?_
      rintro _ w1 ⟨rfl, b1⟩
      refine hK.out _ _ (HS.out _ ((bl_drew W).trans b1)) (fun hHeld => ?_)
      clear hK K
      try simp only [Act.put, List.getElem_toArray, List.getElem_cons_zero, List.getElem_cons_succ, List.setIfInBounds_toArray, List.set_cons_zero, List.set_cons_succ]
      refine wpLast_take (i := 3) (v := ?_) rfl (by kernel_rfl) (by kernel_rfl) (by kernel_rfl) (by decide) (by kernel_rfl) (fun _ _ _ h => h) (Or.inl ⟨by rfl, ?_⟩) (by assumption) ?_
      rotate_left
      · (intro w hSw; (try dsimp only at hSw); (try go_split_ands); first | (go_simp; done) | (go_simp; with_reducible rfl))
      try simp only [Act.put, List.getElem_toArray, List.getElem_cons_zero, List.getElem_cons_succ, List.setIfInBounds_toArray, List.set_cons_zero, List.set_cons_succ]
      refine wpLast_take (i := 4) (v := ?_) rfl (by kernel_rfl) (by kernel_rfl) (by kernel_rfl) (by decide) (by kernel_rfl) (fun _ _ _ h => h) (Or.inl ⟨by rfl, ?_⟩) (by assumption) ?_
      rotate_left
      · (intro w hSw; (try dsimp only at hSw); (try go_split_ands); first | (go_simp; done) | (go_simp; with_reducible rfl))
      try simp only [Act.put, List.getElem_toArray, List.getElem_cons_zero, List.getElem_cons_succ, List.setIfInBounds_toArray, List.set_cons_zero, List.set_cons_succ]
      refine wpLast_take (i := 5) (v := ?_) rfl (by kernel_rfl) (by kernel_rfl) (by kernel_rfl) (by decide) (by kernel_rfl) (fun _ _ _ h => h) (Or.inl ⟨by rfl, ?_⟩) (by assumption) ?_
      rotate_left
      · (intro w hSw; (try dsimp only at hSw); (try go_split_ands); first | (go_simp; done) | (go_simp; with_reducible rfl))
      try simp only [Act.put, List.getElem_toArray, List.getElem_cons_zero, List.getElem_cons_succ, List.setIfInBounds_toArray, List.set_cons_zero, List.set_cons_succ]
      refine wpLast_take (i := 6) (v := ?_) rfl (by kernel_rfl) (by kernel_rfl) (by kernel_rfl) (by decide) (by kernel_rfl) (fun _ _ _ h => h) (Or.inl ⟨by rfl, ?_⟩) (by assumption) ?_
      rotate_left
      · (intro w hSw; (try dsimp only at hSw); (try go_split_ands); first | (go_simp; done) | (go_simp; with_reducible rfl))
      try simp only [Act.put, List.getElem_toArray, List.getElem_cons_zero, List.getElem_cons_succ, List.setIfInBounds_toArray, List.set_cons_zero, List.set_cons_succ]
      refine wpLast_take (i := 7) (v := ?_) rfl (by kernel_rfl) (by kernel_rfl) (by kernel_rfl) (by decide) (by kernel_rfl) (fun _ _ _ h => h) (Or.inl ⟨by rfl, ?_⟩) (by assumption) ?_
      rotate_left
      · (intro w hSw; (try dsimp only at hSw); (try go_split_ands); first | (go_simp; done) | (go_simp; with_reducible rfl))
      try simp only [Act.put, List.getElem_toArray, List.getElem_cons_zero, List.getElem_cons_succ, List.setIfInBounds_toArray, List.set_cons_zero, List.set_cons_succ]
      refine wpLast_take (i := 8) (v := ?_) rfl (by kernel_rfl) (by kernel_rfl) (by kernel_rfl) (by decide) (by kernel_rfl) (fun _ _ _ h => h) (Or.inl ⟨by rfl, ?_⟩) (by assumption) ?_
      rotate_left
      · (intro w hSw; (try dsimp only at hSw); (try go_split_ands); first | (go_simp; done) | (go_simp; with_reducible rfl))
      try simp only [Act.put, List.getElem_toArray, List.getElem_cons_zero, List.getElem_cons_succ, List.setIfInBounds_toArray, List.set_cons_zero, List.set_cons_succ]
      refine wpLast_take (i := 9) (v := ?_) rfl (by kernel_rfl) (by kernel_rfl) (by kernel_rfl) (by decide) (by kernel_rfl) (fun _ _ _ h => h) (Or.inl ⟨by rfl, ?_⟩) (by assumption) ?_
      rotate_left
      · (intro w hSw; (try dsimp only at hSw); (try go_split_ands); first | (go_simp; done) | (go_simp; with_reducible rfl))
      try simp only [Act.put, List.getElem_toArray, List.getElem_cons_zero, List.getElem_cons_succ, List.setIfInBounds_toArray, List.set_cons_zero, List.set_cons_succ]
      refine wpLast_take (i := 10) (v := ?_) rfl (by kernel_rfl) (by kernel_rfl) (by kernel_rfl) (by decide) (by kernel_rfl) (fun _ _ _ h => h) (Or.inl ⟨by rfl, ?_⟩) (by assumption) ?_
      rotate_left
      · (intro w hSw; (try dsimp only at hSw); (try go_split_ands); first | (go_simp; done) | (go_simp; with_reducible rfl))
      try simp only [Act.put, List.getElem_toArray, List.getElem_cons_zero, List.getElem_cons_succ, List.setIfInBounds_toArray, List.set_cons_zero, List.set_cons_succ]
      refine wpLast_take (i := 11) (v := ?_) rfl (by kernel_rfl) (by kernel_rfl) (by kernel_rfl) (by decide) (by kernel_rfl) (fun _ _ _ h => h) (Or.inl ⟨by rfl, ?_⟩) (by assumption) ?_
      rotate_left
      · (intro w hSw; (try dsimp only at hSw); (try go_split_ands); first | (go_simp; done) | (go_simp; with_reducible rfl))
      try simp only [Act.put, List.getElem_toArray, List.getElem_cons_zero, List.getElem_cons_succ, List.setIfInBounds_toArray, List.set_cons_zero, List.set_cons_succ]
      refine wpLast_take (i := 12) (v := ?_) rfl (by kernel_rfl) (by kernel_rfl) (by kernel_rfl) (by decide) (by kernel_rfl) (fun _ _ _ h => h) (Or.inl ⟨by rfl, ?_⟩) (by assumption) ?_
      rotate_left
      · (intro w hSw; (try dsimp only at hSw); (try go_split_ands); first | (go_simp; done) | (go_simp; with_reducible rfl))
      try simp only [Act.put, List.getElem_toArray, List.getElem_cons_zero, List.getElem_cons_succ, List.setIfInBounds_toArray, List.set_cons_zero, List.set_cons_succ]
      refine wpLast_take (i := 13) (v := .int .i64 ((n : Int) + (s.size : Int))) rfl (by kernel_rfl) (by kernel_rfl) (by kernel_rfl) (by decide) (by kernel_rfl) (fun _ _ _ h => h) (Or.inl ⟨by rfl, ?_⟩) (by assumption) ?_
      · (intro w hSw; (try dsimp only at hSw); (try go_split_ands); go_simp; try first | omega | exact hadd | (simp [hadd]; done))
      try simp only [Act.put, List.getElem_toArray, List.getElem_cons_zero, List.getElem_cons_succ, List.setIfInBounds_toArray, List.set_cons_zero, List.set_cons_succ]
      refine wpLast_take (i := 14) (v := .bool true) rfl (by kernel_rfl) (by kernel_rfl) (by kernel_rfl) (by decide) (by kernel_rfl) (fun _ _ _ h => h) (Or.inl ⟨by rfl, ?_⟩) (by assumption) ?_
      · (intro w hSw; (try dsimp only at hSw); (try go_split_ands); go_simp; try first | omega | assumption | (simp; omega))
      try simp only [Act.put, List.getElem_toArray, List.getElem_cons_zero, List.getElem_cons_succ, List.setIfInBounds_toArray, List.set_cons_zero, List.set_cons_succ]
      refine wpLast_take (i := 15) (v := ?_) rfl (by kernel_rfl) (by kernel_rfl) (by kernel_rfl) (by decide) (by kernel_rfl) (fun _ _ _ h => h) (Or.inl ⟨by rfl, ?_⟩) (by assumption) ?_
      rotate_left
      · (intro w hSw; (try dsimp only at hSw); (try go_split_ands); first | (go_simp; done) | (go_simp; with_reducible rfl))
      try simp only [Act.put, List.getElem_toArray, List.getElem_cons_zero, List.getElem_cons_succ, List.setIfInBounds_toArray, List.set_cons_zero, List.set_cons_succ]
      refine wpLast_one (i := 16) (by kernel_rfl) rfl (by decide) (fun K hK => ?_)
      go_simp
      refine hK.out _ _ (by assumption) (fun hHeld => ?_)
      clear hK K
      try simp only [Act.put, List.getElem_toArray, List.getElem_cons_zero, List.getElem_cons_succ, List.setIfInBounds_toArray, List.set_cons_zero, List.set_cons_succ]
      refine wpLast_take (i := 17) (v := ?_) rfl (by kernel_rfl) (by kernel_rfl) (by kernel_rfl) (by decide) (by kernel_rfl) (fun _ _ _ h => h) (Or.inl ⟨by rfl, ?_⟩) (by assumption) ?_
      rotate_left
      · (intro w hSw; (try dsimp only at hSw); (try go_split_ands); first | (go_simp; done) | (go_simp; with_reducible rfl))
      try simp only [Act.put, List.getElem_toArray, List.getElem_cons_zero, List.getElem_cons_succ, List.setIfInBounds_toArray, List.set_cons_zero, List.set_cons_succ]
      obtain ⟨W2, hW2⟩ : ∃ X, w1.setCell ⟨wb, 1, none⟩ (.bool true) = X := ⟨_, rfl⟩
      have H2 := HG.out w1 W2 true ((bl_drew W).trans b1) hW2
      have h2c := H2.out.c1
      have h2f := H2.out.c2
      have h2z := H2.out.f2
      have hFn := H2.out.f1
      have hz1 : w1.frozen? ⟨wb, 1, none⟩ = false := (HS.out _ ((bl_drew W).trans b1)).2.2.2
      refine wpLast_end (by kernel_rfl) rfl (by kernel_rfl) (fun K hK => ?_)
      (try go_split_ands); go_simp
      refine hK.out _ _ ?_
      clear hK K
      try simp only [Act.put, List.getElem_toArray, List.getElem_cons_zero, List.getElem_cons_succ, List.setIfInBounds_toArray, List.set_cons_zero, List.set_cons_succ]

      go_wp2_with fail
      refine bodyPost_end (results_none rfl _ _ _) rfl ?_
      exact ⟨⟨_, rfl⟩, _, HE.out _ _ _ _ _ H2 rfl⟩
    · have hg1 : ¬ (262144 : Int) < (n : Int) + (s.size : Int) := by omega
      have HF : Hid (txF long bs s.data.toList = (false, bs ++ 32 :: wordB s.data.toList)) := by unfold txF isL; rw [hn1, hsz, hl1, Bool.false_or, decide_eq_false hg]; rfl
      rw [HF.out]
      go_enter Tryz.func160, Tryz.ntmps160
      go_upto_region 0 with fail
      refine wp_region_last (L := 18) (S := fun U => U.cell? ⟨wb, 0, none⟩ = some (.slice p n c) ∧ U.cell? ⟨wb, 1, none⟩ = some (.bool long) ∧ U.cell? ⟨fb, i, none⟩ = some (.string s) ∧ U.frozen? ⟨wb, 1, none⟩ = false) (by kernel_rfl) (HS.out _ (bl_drew W)) (fun hHeld => ?_)
      refine wpLast_take (i := 0) (v := ?_) rfl (by kernel_rfl) (by kernel_rfl) (by kernel_rfl) (by decide) (by kernel_rfl) (fun _ _ _ h => h) (Or.inl ⟨by rfl, ?_⟩) (by assumption) ?_
      rotate_left
      · (intro w hSw; (try dsimp only at hSw); (try go_split_ands); first | (go_simp; done) | (go_simp; with_reducible rfl))
      try simp only [Act.put, List.getElem_toArray, List.getElem_cons_zero, List.getElem_cons_succ, List.setIfInBounds_toArray, List.set_cons_zero, List.set_cons_succ]
      refine wpLast_take (i := 1) (v := ?_) rfl (by kernel_rfl) (by kernel_rfl) (by kernel_rfl) (by decide) (by kernel_rfl) (fun _ _ _ h => h) (Or.inl ⟨by rfl, ?_⟩) (by assumption) ?_
      rotate_left
      · (intro w hSw; (try dsimp only at hSw); (try go_split_ands); first | (go_simp; done) | (go_simp; with_reducible rfl))
      try simp only [Act.put, List.getElem_toArray, List.getElem_cons_zero, List.getElem_cons_succ, List.setIfInBounds_toArray, List.set_cons_zero, List.set_cons_succ]
      refine wpLast_one (i := 2) (by kernel_rfl) rfl (by decide) (fun K hK => ?_)
      refine stepE (by rfl) 45 Tryz.f45 Tryz.func45 (by kernel_rfl) (by kernel_rfl) _ _ rfl _ (by first | (simp [Act.eval]; done) | (simp [Act.eval]; rfl)) _ (HIL.out _ (bl_drew W)) ?_
      rintro _ w1 ⟨rfl, b1⟩
      refine hK.out _ _ (HS.out _ ((bl_drew W).trans b1)) (fun hHeld => ?_)
      clear hK K
      try simp only [Act.put, List.getElem_toArray, List.getElem_cons_zero, List.getElem_cons_succ, List.setIfInBounds_toArray, List.set_cons_zero, List.set_cons_succ]
      refine wpLast_take (i := 3) (v := ?_) rfl (by kernel_rfl) (by kernel_rfl) (by kernel_rfl) (by decide) (by kernel_rfl) (fun _ _ _ h => h) (Or.inl ⟨by rfl, ?_⟩) (by assumption) ?_
      rotate_left
      · (intro w hSw; (try dsimp only at hSw); (try go_split_ands); first | (go_simp; done) | (go_simp; with_reducible rfl))
      try simp only [Act.put, List.getElem_toArray, List.getElem_cons_zero, List.getElem_cons_succ, List.setIfInBounds_toArray, List.set_cons_zero, List.set_cons_succ]
      refine wpLast_take (i := 4) (v := ?_) rfl (by kernel_rfl) (by kernel_rfl) (by kernel_rfl) (by decide) (by kernel_rfl) (fun _ _ _ h => h) (Or.inl ⟨by rfl, ?_⟩) (by assumption) ?_
      rotate_left
      · (intro w hSw; (try dsimp only at hSw); (try go_split_ands); first | (go_simp; done) | (go_simp; with_reducible rfl))
      try simp only [Act.put, List.getElem_toArray, List.getElem_cons_zero, List.getElem_cons_succ, List.setIfInBounds_toArray, List.set_cons_zero, List.set_cons_succ]
      refine wpLast_take (i := 5) (v := ?_) rfl (by kernel_rfl) (by kernel_rfl) (by kernel_rfl) (by decide) (by kernel_rfl) (fun _ _ _ h => h) (Or.inl ⟨by rfl, ?_⟩) (by assumption) ?_
      rotate_left
      · (intro w hSw; (try dsimp only at hSw); (try go_split_ands); first | (go_simp; done) | (go_simp; with_reducible rfl))
      try simp only [Act.put, List.getElem_toArray, List.getElem_cons_zero, List.getElem_cons_succ, List.setIfInBounds_toArray, List.set_cons_zero, List.set_cons_succ]
      refine wpLast_take (i := 6) (v := ?_) rfl (by kernel_rfl) (by kernel_rfl) (by kernel_rfl) (by decide) (by kernel_rfl) (fun _ _ _ h => h) (Or.inl ⟨by rfl, ?_⟩) (by assumption) ?_
      rotate_left
      · (intro w hSw; (try dsimp only at hSw); (try go_split_ands); first | (go_simp; done) | (go_simp; with_reducible rfl))
      try simp only [Act.put, List.getElem_toArray, List.getElem_cons_zero, List.getElem_cons_succ, List.setIfInBounds_toArray, List.set_cons_zero, List.set_cons_succ]
      refine wpLast_take (i := 7) (v := ?_) rfl (by kernel_rfl) (by kernel_rfl) (by kernel_rfl) (by decide) (by kernel_rfl) (fun _ _ _ h => h) (Or.inl ⟨by rfl, ?_⟩) (by assumption) ?_
      rotate_left
      · (intro w hSw; (try dsimp only at hSw); (try go_split_ands); first | (go_simp; done) | (go_simp; with_reducible rfl))
      try simp only [Act.put, List.getElem_toArray, List.getElem_cons_zero, List.getElem_cons_succ, List.setIfInBounds_toArray, List.set_cons_zero, List.set_cons_succ]
      refine wpLast_take (i := 8) (v := ?_) rfl (by kernel_rfl) (by kernel_rfl) (by kernel_rfl) (by decide) (by kernel_rfl) (fun _ _ _ h => h) (Or.inl ⟨by rfl, ?_⟩) (by assumption) ?_
      rotate_left
      · (intro w hSw; (try dsimp only at hSw); (try go_split_ands); first | (go_simp; done) | (go_simp; with_reducible rfl))
      try simp only [Act.put, List.getElem_toArray, List.getElem_cons_zero, List.getElem_cons_succ, List.setIfInBounds_toArray, List.set_cons_zero, List.set_cons_succ]
      refine wpLast_take (i := 9) (v := ?_) rfl (by kernel_rfl) (by kernel_rfl) (by kernel_rfl) (by decide) (by kernel_rfl) (fun _ _ _ h => h) (Or.inl ⟨by rfl, ?_⟩) (by assumption) ?_
      rotate_left
      · (intro w hSw; (try dsimp only at hSw); (try go_split_ands); first | (go_simp; done) | (go_simp; with_reducible rfl))
      try simp only [Act.put, List.getElem_toArray, List.getElem_cons_zero, List.getElem_cons_succ, List.setIfInBounds_toArray, List.set_cons_zero, List.set_cons_succ]
      refine wpLast_take (i := 10) (v := ?_) rfl (by kernel_rfl) (by kernel_rfl) (by kernel_rfl) (by decide) (by kernel_rfl) (fun _ _ _ h => h) (Or.inl ⟨by rfl, ?_⟩) (by assumption) ?_
      rotate_left
      · (intro w hSw; (try dsimp only at hSw); (try go_split_ands); first | (go_simp; done) | (go_simp; with_reducible rfl))
      try simp only [Act.put, List.getElem_toArray, List.getElem_cons_zero, List.getElem_cons_succ, List.setIfInBounds_toArray, List.set_cons_zero, List.set_cons_succ]
      refine wpLast_take (i := 11) (v := ?_) rfl (by kernel_rfl) (by kernel_rfl) (by kernel_rfl) (by decide) (by kernel_rfl) (fun _ _ _ h => h) (Or.inl ⟨by rfl, ?_⟩) (by assumption) ?_
      rotate_left
      · (intro w hSw; (try dsimp only at hSw); (try go_split_ands); first | (go_simp; done) | (go_simp; with_reducible rfl))
      try simp only [Act.put, List.getElem_toArray, List.getElem_cons_zero, List.getElem_cons_succ, List.setIfInBounds_toArray, List.set_cons_zero, List.set_cons_succ]
      refine wpLast_take (i := 12) (v := ?_) rfl (by kernel_rfl) (by kernel_rfl) (by kernel_rfl) (by decide) (by kernel_rfl) (fun _ _ _ h => h) (Or.inl ⟨by rfl, ?_⟩) (by assumption) ?_
      rotate_left
      · (intro w hSw; (try dsimp only at hSw); (try go_split_ands); first | (go_simp; done) | (go_simp; with_reducible rfl))
      try simp only [Act.put, List.getElem_toArray, List.getElem_cons_zero, List.getElem_cons_succ, List.setIfInBounds_toArray, List.set_cons_zero, List.set_cons_succ]
      refine wpLast_take (i := 13) (v := .int .i64 ((n : Int) + (s.size : Int))) rfl (by kernel_rfl) (by kernel_rfl) (by kernel_rfl) (by decide) (by kernel_rfl) (fun _ _ _ h => h) (Or.inl ⟨by rfl, ?_⟩) (by assumption) ?_
      · (intro w hSw; (try dsimp only at hSw); (try go_split_ands); go_simp; try first | omega | exact hadd | (simp [hadd]; done))
      try simp only [Act.put, List.getElem_toArray, List.getElem_cons_zero, List.getElem_cons_succ, List.setIfInBounds_toArray, List.set_cons_zero, List.set_cons_succ]
      refine wpLast_take (i := 14) (v := .bool false) rfl (by kernel_rfl) (by kernel_rfl) (by kernel_rfl) (by decide) (by kernel_rfl) (fun _ _ _ h => h) (Or.inl ⟨by rfl, ?_⟩) (by assumption) ?_
      · (intro w hSw; (try dsimp only at hSw); (try go_split_ands); go_simp; try first | omega | assumption | (simp; omega))
      try simp only [Act.put, List.getElem_toArray, List.getElem_cons_zero, List.getElem_cons_succ, List.setIfInBounds_toArray, List.set_cons_zero, List.set_cons_succ]
      refine wpLast_take (i := 15) (v := ?_) rfl (by kernel_rfl) (by kernel_rfl) (by kernel_rfl) (by decide) (by kernel_rfl) (fun _ _ _ h => h) (Or.inl ⟨by rfl, ?_⟩) (by assumption) ?_
      rotate_left
      · (intro w hSw; (try dsimp only at hSw); (try go_split_ands); first | (go_simp; done) | (go_simp; with_reducible rfl))
      try simp only [Act.put, List.getElem_toArray, List.getElem_cons_zero, List.getElem_cons_succ, List.setIfInBounds_toArray, List.set_cons_zero, List.set_cons_succ]
      refine wpLast_one (i := 16) (by kernel_rfl) rfl (by decide) (fun K hK => ?_)
      go_simp
      refine hK.out _ _ (by assumption) (fun hHeld => ?_)
      clear hK K
      try simp only [Act.put, List.getElem_toArray, List.getElem_cons_zero, List.getElem_cons_succ, List.setIfInBounds_toArray, List.set_cons_zero, List.set_cons_succ]
      refine wpLast_take (i := 17) (v := ?_) rfl (by kernel_rfl) (by kernel_rfl) (by kernel_rfl) (by decide) (by kernel_rfl) (fun _ _ _ h => h) (Or.inl ⟨by rfl, ?_⟩) (by assumption) ?_
      rotate_left
      · (intro w hSw; (try dsimp only at hSw); (try go_split_ands); first | (go_simp; done) | (go_simp; with_reducible rfl))
      try simp only [Act.put, List.getElem_toArray, List.getElem_cons_zero, List.getElem_cons_succ, List.setIfInBounds_toArray, List.set_cons_zero, List.set_cons_succ]
      obtain ⟨W2, hW2⟩ : ∃ X, w1.setCell ⟨wb, 1, none⟩ (.bool false) = X := ⟨_, rfl⟩
      have H2 := HG.out w1 W2 false ((bl_drew W).trans b1) hW2
      have h2c := H2.out.c1
      have h2f := H2.out.c2
      have h2z := H2.out.f2
      have hFn := H2.out.f1
      have hz1 : w1.frozen? ⟨wb, 1, none⟩ = false := (HS.out _ ((bl_drew W).trans b1)).2.2.2
      refine wpLast_end (by kernel_rfl) rfl (by kernel_rfl) (fun K hK => ?_)
      (try go_split_ands); go_simp
      refine hK.out _ _ ?_
      clear hK K
      try simp only [Act.put, List.getElem_toArray, List.getElem_cons_zero, List.getElem_cons_succ, List.setIfInBounds_toArray, List.set_cons_zero, List.set_cons_succ]

      go_wp2_with fail
      refine wp_region_last (L := 11) (S := fun U => U.cell? ⟨wb, 0, none⟩ = some (.slice p n c) ∧ U.cell? ⟨fb, i, none⟩ = some (.string s) ∧ U.frozen? ⟨wb, 0, none⟩ = false) (by kernel_rfl) (HS3.out W2 false H2 _ (Pf.refl _ _)) (fun hHeld => ?_)
      refine wpLast_take (i := 0) (v := ?_) rfl (by kernel_rfl) (by kernel_rfl) (by kernel_rfl) (by decide) (by kernel_rfl) (fun _ _ _ h => h) (Or.inl ⟨by rfl, ?_⟩) (by assumption) ?_
      rotate_left
      · (intro w hSw; (try dsimp only at hSw); (try go_split_ands); first | (go_simp; done) | (go_simp; with_reducible rfl))
      try simp only [Act.put, List.getElem_toArray, List.getElem_cons_zero, List.getElem_cons_succ, List.setIfInBounds_toArray, List.set_cons_zero, List.set_cons_succ]
      refine wpLast_take (i := 1) (v := ?_) rfl (by kernel_rfl) (by kernel_rfl) (by kernel_rfl) (by decide) (by kernel_rfl) (fun _ _ _ h => h) (Or.inl ⟨by rfl, ?_⟩) (by assumption) ?_
      rotate_left
      · (intro w hSw; (try dsimp only at hSw); (try go_split_ands); first | (go_simp; done) | (go_simp; with_reducible rfl))
      try simp only [Act.put, List.getElem_toArray, List.getElem_cons_zero, List.getElem_cons_succ, List.setIfInBounds_toArray, List.set_cons_zero, List.set_cons_succ]
      refine wpLast_take (i := 2) (v := ?_) rfl (by kernel_rfl) (by kernel_rfl) (by kernel_rfl) (by decide) (by kernel_rfl) (fun _ _ _ h => h) (Or.inl ⟨by rfl, ?_⟩) (by assumption) ?_
      rotate_left
      · (intro w hSw; (try dsimp only at hSw); (try go_split_ands); first | (go_simp; done) | (go_simp; with_reducible rfl))
      try simp only [Act.put, List.getElem_toArray, List.getElem_cons_zero, List.getElem_cons_succ, List.setIfInBounds_toArray, List.set_cons_zero, List.set_cons_succ]
      refine wpLast_take (i := 3) (v := ?_) rfl (by kernel_rfl) (by kernel_rfl) (by kernel_rfl) (by decide) (by kernel_rfl) (fun _ _ _ h => h) (Or.inl ⟨by rfl, ?_⟩) (by assumption) ?_
      rotate_left
      · (intro w hSw; (try dsimp only at hSw); (try go_split_ands); first | (go_simp; done) | (go_simp; with_reducible rfl))
      try simp only [Act.put, List.getElem_toArray, List.getElem_cons_zero, List.getElem_cons_succ, List.setIfInBounds_toArray, List.set_cons_zero, List.set_cons_succ]
      refine wpLast_take (i := 4) (v := ?_) rfl (by kernel_rfl) (by kernel_rfl) (by kernel_rfl) (by decide) (by kernel_rfl) (fun _ _ _ h => h) (Or.inl ⟨by rfl, ?_⟩) (by assumption) ?_
      rotate_left
      · (intro w hSw; (try dsimp only at hSw); (try go_split_ands); first | (go_simp; done) | (go_simp; with_reducible rfl))
      try simp only [Act.put, List.getElem_toArray, List.getElem_cons_zero, List.getElem_cons_succ, List.setIfInBounds_toArray, List.set_cons_zero, List.set_cons_succ]
      refine wpLast_take (i := 5) (v := ?_) rfl (by kernel_rfl) (by kernel_rfl) (by kernel_rfl) (by decide) (by kernel_rfl) (fun _ _ _ h => h) (Or.inl ⟨by rfl, ?_⟩) (by assumption) ?_
      rotate_left
      · (intro w hSw; (try dsimp only at hSw); (try go_split_ands); first | (go_simp; done) | (go_simp; with_reducible rfl))
      try simp only [Act.put, List.getElem_toArray, List.getElem_cons_zero, List.getElem_cons_succ, List.setIfInBounds_toArray, List.set_cons_zero, List.set_cons_succ]
      refine wpLast_take (i := 6) (v := ?_) rfl (by kernel_rfl) (by kernel_rfl) (by kernel_rfl) (by decide) (by kernel_rfl) (fun _ _ _ h => h) (Or.inl ⟨by rfl, ?_⟩) (by assumption) ?_
      rotate_left
      · (intro w hSw; (try dsimp only at hSw); (try go_split_ands); first | (go_simp; done) | (go_simp; with_reducible rfl))
      try simp only [Act.put, List.getElem_toArray, List.getElem_cons_zero, List.getElem_cons_succ, List.setIfInBounds_toArray, List.set_cons_zero, List.set_cons_succ]
      refine wpLast_take (i := 7) (v := ?_) rfl (by kernel_rfl) (by kernel_rfl) (by kernel_rfl) (by decide) (by kernel_rfl) (fun _ _ _ h => h) (Or.inl ⟨by rfl, ?_⟩) (by assumption) ?_
      rotate_left
      · (intro w hSw; (try dsimp only at hSw); (try go_split_ands); first | (go_simp; done) | (go_simp; with_reducible rfl))
      try simp only [Act.put, List.getElem_toArray, List.getElem_cons_zero, List.getElem_cons_succ, List.setIfInBounds_toArray, List.set_cons_zero, List.set_cons_succ]
      refine wpLast_one (i := 8) (by kernel_rfl) rfl (by decide) (fun K hK => ?_)
      refine stepE (by rfl) 162 Tryz.f162 Tryz.func162 (by kernel_rfl) (by kernel_rfl) _ _ rfl _ (by first | (simp [Act.eval]; done) | (simp [Act.eval]; rfl)) _ (HTX.out W2 false H2 (by omega)) ?_
      rintro _ w3 ⟨v3, rfl, q3⟩
      refine hK.out _ _ (HS3.out W2 false H2 _ q3.2) (fun hHeld => ?_)
      clear hK K
      try simp only [Act.put, List.getElem_toArray, List.getElem_cons_zero, List.getElem_cons_succ, List.setIfInBounds_toArray, List.set_cons_zero, List.set_cons_succ]
      refine wpLast_one (i := 9) (by kernel_rfl) rfl (by decide) (fun K hK => ?_)
      go_simp
      refine hK.out _ _ (by assumption) (fun hHeld => ?_)
      clear hK K
      try simp only [Act.put, List.getElem_toArray, List.getElem_cons_zero, List.getElem_cons_succ, List.setIfInBounds_toArray, List.set_cons_zero, List.set_cons_succ]
      refine wpLast_take (i := 10) (v := ?_) rfl (by kernel_rfl) (by kernel_rfl) (by kernel_rfl) (by decide) (by kernel_rfl) (fun _ _ _ h => h) (Or.inl ⟨by rfl, ?_⟩) (by assumption) ?_
      rotate_left
      · (intro w hSw; (try dsimp only at hSw); (try go_split_ands); first | (go_simp; done) | (go_simp; with_reducible rfl))
      try simp only [Act.put, List.getElem_toArray, List.getElem_cons_zero, List.getElem_cons_succ, List.setIfInBounds_toArray, List.set_cons_zero, List.set_cons_succ]
      obtain ⟨p3, c3, rfl⟩ := q3.1.slice
      generalize (bs ++ 32 :: wordB s.data.toList).length = n3 at *
      obtain ⟨W4, hW4⟩ : ∃ X, w3.setCell ⟨wb, 0, none⟩ (.slice p3 n3 c3) = X := ⟨_, rfl⟩
      have H4 := HG3.out W2 false H2 w3 _ _ W4 q3 hW4
      have h4c := H4.out.c2
      have h4z := H4.out.f2
      have hz3 := (HS3.out W2 false H2 _ q3.2).2.2
      refine wpLast_end (by kernel_rfl) rfl (by kernel_rfl) (fun K hK => ?_)
      (try go_split_ands); go_simp
      refine hK.out _ _ ?_
      clear hK K
      try simp only [Act.put, List.getElem_toArray, List.getElem_cons_zero, List.getElem_cons_succ, List.setIfInBounds_toArray, List.set_cons_zero, List.set_cons_succ]
      go_wp2_with fail
      refine bodyPost_end (results_none rfl _ _ _) rfl ?_
      exact ⟨⟨_, rfl⟩, _, HE.out _ _ _ _ _ H4 rfl⟩
end Go.Proofs.YtheolmnjedbjmaaGreatDoor

