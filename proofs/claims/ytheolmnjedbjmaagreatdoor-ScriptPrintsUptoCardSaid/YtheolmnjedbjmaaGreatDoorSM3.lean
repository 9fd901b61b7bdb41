import Derived.Test.YtheolmnjedbjmaaGreatDoorSM2
namespace Go.Proofs.YtheolmnjedbjmaaGreatDoor
open Go.RowKit
set_option linter.unusedVariables false
set_option linter.unusedSimpArgs false
attribute [local go_sem ↓] Go.wp_at_zero Go.wp_at_succ
/-- what the writer's texts leave -/
def txsF (st : Bool × Bs) (l : List ByteArray) : Bool × Bs := l.foldl (fun st s => txF st.1 st.2 s.data.toList) st
theorem txsF_take (st : Bool × Bs) (l : List ByteArray) (j : Nat) (hj : j < l.length) : txsF st (l.take (j + 1)) = txF (txsF st (l.take j)).1 (txsF st (l.take j)).2 l[j].data.toList := by
  unfold txsF
  rw [List.take_succ_eq_append_getElem hj, List.foldl_append]
  rfl
theorem txF_len (long : Bool) (bs s : Bs) (h : bs.length ≤ 1100000) : (txF long bs s).2.length ≤ 1100000 := by
  unfold txF
  split
  · exact h
  · rename_i hn
    have := esc_len s
    simp at hn
    unfold wordB
    simp only [List.length_append, List.length_cons]
    omega
theorem txsF_len (l : List ByteArray) : ∀ st : Bool × Bs, st.2.length ≤ 1100000 → (txsF st l).2.length ≤ 1100000 := by
  induction l with
  | nil => exact fun st h => h
  | cons a l ih => exact fun st h => ih _ (txF_len _ _ _ h)
/-- behind j texts -/
structure Sj (W wr : World) (B wb fb : Nat) (C : Array Value) (tf : TypeId) (st : Bool × Bs) : Prop where
  box : ∃ p c, Wb wr B wb (.slice p st.2.length c) st.2 st.1
  hf : wr.heap[fb]? = some (.cells C tf (0, 0))
  ch : Wf B [wb, fb] W wr
set_option maxRecDepth 100000 in
set_option maxHeartbeats 4000000 in
theorem wtexts_ok (W : World) (B wb fb i : Nat) (v : Value) (long : Bool) (bs : Bs) (C : Array Value) (tf : TypeId) (l : List ByteArray) (q : Option Addr) (lc : Nat) (hw : Wb W B wb v bs long) (hBw : B ≤ wb) (hBf : B ≤ fb) (hne : wb ≠ fb) (hf : W.heap[fb]? = some (.cells C tf (0, 0))) (htf : tf ≠ 5) (hi : C[i]? = some (.slice q l.length lc)) (hn : bs.length ≤ 1100000) (hl : l.length ≤ 2305843009213693952) (hs : ∀ s ∈ l, s.size ≤ 2305843009213693952)
    (hc : ∀ U, Wf B [wb, fb] W U → 0 < l.length → ∃ g off, q = some ⟨g, off, none⟩ ∧ ∀ j (hj : j < l.length), U.cell? ⟨g, off + j, none⟩ = some (.string l[j])) :
    Calls Tryz.prog 161 #[.pointer (some ⟨wb, 0, none⟩), .pointer (some ⟨fb, i, none⟩)] W fun e w' => (∃ u, e = .returned u) ∧ ∃ v', Wb w' B wb v' (txsF (long, bs) l).2 (txsF (long, bs) l).1 ∧ w'.heap[fb]? = some (.cells (C.setIfInBounds i (.slice none 0 0)) tf (0, 0)) ∧ Wf B [wb, fb] W w' := by
  have H0 : Hid (Sj W W B wb fb C tf (long, bs)) := by
    obtain ⟨p, c, rfl⟩ := hw.page.slice
    exact ⟨⟨p, c, hw⟩, hf, Wf.refl _ _ _⟩
  have HC := mkHid hc
  have HSz := mkHid (fun j (hj : j < l.length) => hs l[j] (List.getElem_mem hj))
  have HLn := mkHid (fun j => txsF_len (l.take j) (long, bs) hn)
  have HTk := mkHid (fun j hj => txsF_take (long, bs) l j hj)
  have HAll : Hid (txsF (long, bs) (l.take l.length) = txsF (long, bs) l) := by show _ = _; rw [List.take_of_length_le (Nat.le_refl _)]
  have hfc := lit_in hf i _ hi
  have HI := mkHid hi
  clear hw hc hs hf hi
  go_enter Tryz.func161, Tryz.ntmps161
  go_wp2_with fail
  go_loopw [10] (fun x wr => ∃ j : Nat, j ≤ l.length ∧ x = .int .i64 (j : Int) ∧ Hid (Sj W wr B wb fb C tf (txsF (long, bs) (l.take j)))) (fun x _ => l.length - (intOf x).toNat)
  case atStart => exact ⟨0, Nat.zero_le _, rfl, H0⟩
  case round =>
    clear H0
    obtain ⟨j, hj, rfl, hst⟩ := hrel
    have j0 : (0 : Int) ≤ (j : Int) := by omega
    by_cases hlt : j < l.length
    · have j1 : (j : Int) < (l.length : Int) := by omega
      obtain ⟨g, off, rfl, hcs⟩ := HC.out wr hst.out.ch (by omega)
      have c0 := hcs j hlt
      have hsz := HSz.out j hlt
      obtain ⟨p, c, hwb⟩ := hst.out.box
      have hlow := hwb.page.low
      have hwl := lt_of_heap hwb.box
      have hln := HLn.out j
      have HT : Hid (Calls Tryz.prog 160 #[.pointer (some ⟨wb, 0, none⟩), .pointer (some ⟨wr.heap.size, 0, none⟩)] (wr.alloc (.cells #[.string l[j]] 9)) fun e w' => (∃ u, e = .returned u) ∧ Sj W w' B wb fb C tf (txsF (long, bs) (l.take (j + 1)))) := by
        refine (wtext_ok' (wr.alloc (.cells #[.string l[j]] 9)) B wb wr.heap.size 0 _ c p _ _ #[.string l[j]] 9 l[j] (hwb.bl (Bl.alloc _ _)) rfl hBw hlow (by omega) (heap_alloc_new _ _) (by decide) (by simp) hln hsz).mono ?_
        rintro e w' ⟨he, v', hw2, _, hch⟩
        refine ⟨he, ?_⟩
        rw [HTk.out j hlt]
        obtain ⟨p', c', rfl⟩ := hw2.page.slice
        have hfl := lt_of_heap hst.out.hf
        refine ⟨⟨p', c', hw2⟩, hch.block fb _ (((Bl.alloc wr _).block fb hfl).trans hst.out.hf) (by simp; omega) (Or.inr (n5 htf)), hst.out.ch.trans ⟨hch.os, hch.tape, hch.output, Nat.le_trans (by simp) hch.size, fun k o hk hn ht => ?_⟩⟩
        have hkl := lt_of_heap hk
        exact hch.block k o (((Bl.alloc wr _).block k hkl).trans hk) (by simp at hn ⊢; exact ⟨hn.1, by omega⟩) ht
      clear hst hcs hwb hln
      generalize l[j] = z at *
      go_wp2_with (go_at_call 160; refine HT.out.mono ?_; rintro e w3 ⟨⟨u, rfl⟩, h3⟩; have HY := mkHid h3; clear h3)
      go_roundw
      case rel => exact ⟨j + 1, by omega, by go_num, HY.out⟩
      case measure => simp [intOf]; omega
    · have hje : j = l.length := by omega
      subst hje
      rw [HAll.out] at hst
      obtain ⟨p, c, hwb⟩ := hst.out.box
      have hf2 := hst.out.hf
      have hz := frozen_in hf2 i
      have hci : ∃ x, wr.cell? ⟨fb, i, none⟩ = some x := ⟨_, lit_in hf2 i _ HI.out⟩
      obtain ⟨x, hx⟩ := hci
      go_wp2_with fail
      refine bodyPost_end (results_none rfl _ _ _) rfl ?_
      have f := Fr.setCell (S := [fb]) wr ⟨fb, i, none⟩ (.slice none 0 0) (by simp)
      refine ⟨⟨_, rfl⟩, _, ⟨(f.block wb (lt_of_heap hwb.box) (by simpa using hne)).trans hwb.box, hwb.page.fr f (fun cur fz h => ?_) hBf⟩, set_in hf2 i _, hst.out.ch.trans ((f.wf B).mono (fun b hb => by simp at hb; simp [hb]))⟩
      rw [hf2] at h
      exact htf (by cases h; rfl)
end Go.Proofs.YtheolmnjedbjmaaGreatDoor

