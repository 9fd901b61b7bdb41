import Derived.Test.YtkmjimdaimbdfaaDoorSG32HTable
import Derived.Test.YtkmjimdaimbdfaaDoorSG21SBak
namespace Go.Proofs.YtkmjimdaimbdfaaDoor
open Go.RowKit Go.Maps
set_option linter.unusedVariables false
set_option linter.unusedSimpArgs false
attribute [local go_sem ↓] Go.wp_at_zero Go.wp_at_succ
theorem endK_nneg : ∀ ks : List Key, 0 ≤ endK ks
  | [] => by simp [endK]
  | k :: t => by
    have h1 := endK_nneg t
    have h2 : 0 ≤ lenOf (k.2.2.2.length : Int) k.2.2.1 := by unfold lenOf; split <;> omega
    simp only [endK]
    omega
theorem good_takes {words oops : Nat} {ks : List Key} (hg : ∀ k ∈ ks, GoodK oops k) (hn : (ks.map fun k => k.1.toNat).Nodup) (he : endK ks ≤ (words : Int)) (i : Nat) (hi : i < ks.length) : takesK words oops (ks.take i) (ks.getD i noK) = true := by
  obtain ⟨a1, a2, a3, a4, a5, a6⟩ := hg _ (keyD_mem hi)
  have h1 : (ks.take i).any (fun x => x.1 == (ks.getD i noK).1) = false := by
    rw [List.any_eq_false]
    intro x hx hc
    have ex : x.1 = (ks.getD i noK).1 := by simpa using hc
    obtain ⟨j, j1, j2⟩ := List.getElem_of_mem hx
    rw [List.length_take] at j1
    have hj : j < ks.length := by omega
    have := List.pairwise_iff_getElem.1 hn j i (by simpa using hj) (by simpa using hi) (by omega)
    rw [List.getElem_map, List.getElem_map] at this
    rw [List.getElem_take] at j2
    rw [List.getD_eq_getElem?_getD, List.getElem?_eq_getElem hi, ← j2] at ex
    exact this (by rw [ex]; rfl)
  have h2 : isF (ks.getD i noK).2.2.1 = true := by rcases a4 with e | e <;> (rw [e]; decide)
  have h3 : ((ks.getD i noK).2.2.2.all fun x => mayB x (ks.getD i noK).2.2.1) = true := List.all_eq_true.2 a6
  have h4 : endK (ks.take i) + lenOf ((ks.getD i noK).2.2.2.length : Int) (ks.getD i noK).2.2.1 ≤ (words : Int) := by
    have e1 : ks = ks.take i ++ ks.getD i noK :: ks.drop (i + 1) := by
      have h5 := List.take_append_drop i ks
      rw [List.drop_eq_getElem_cons hi] at h5
      rw [List.getD_eq_getElem?_getD, List.getElem?_eq_getElem hi]
      exact h5.symm
    have e2 := congrArg endK e1
    rw [endK_append] at e2
    have e3 := endK_nneg (ks.drop (i + 1))
    simp only [endK] at e2
    omega
  unfold takesK
  rw [h1, a3, h2, h3]
  simp only [Bool.not_false, Bool.and_true, Bool.and_eq_true, decide_eq_true_eq]
  exact ⟨⟨⟨a1, a2⟩, by omega⟩, h4⟩
/-- a heap of good objects is loaded as they are -/
theorem load_ks (words oops mark : Nat) (ks : List Key) (ov : Value) (lo : List OS) (w : World) (base : Nat) (ht : Tld w base ov lo ks) (hT : Tab w) (hT0 : 0 < w.heap.size) (h1 : (words : Int) ≤ 1048576) (h2 : (oops : Int) ≤ 65536) (hm : (mark : Int) ≤ 1073741824) (hg : ∀ k ∈ ks, GoodK oops k) (hn : (ks.map fun k => k.1.toNat).Nodup) (he : endK ks ≤ (words : Int)) :
    Calls Tryd.prog 56 #[.agg #[.int .i64 (words : Int), .int .i64 (oops : Int), .int .i64 (mark : Int), ov]] w fun e w' => ∃ l H M, e = .returned (.tuple #[.pointer (some ⟨w.heap.size + 1, 0, none⟩), .int .i64 0]) ∧ Rep w' (w.heap.size + 1) l H ∧ KA words oops mark ks H M ∧ H.age = 0 ∧ Fr [] w w' ∧ ∀ b ∈ foot (w.heap.size + 1) l, w.heap.size ≤ b := by
  refine (Load_any words oops mark ov (lo.map toOI) w ht.sat hT hT0 h1 h2 hm).mono ?_
  rintro e w' (⟨l, H, M, rfl, hl⟩ | ⟨k, o, H, M, -, -, ho, hl, hno⟩)
  · have h3 := hl.lds
    rw [List.take_length, ht.keys] at h3
    have h4 := Lds.kOf h1 h2 hm h3
    exact ⟨l, H, M, rfl, hl.rep, h4.ka, h4.age, hl.fr, hl.new⟩
  · exfalso
    have hk : k < (lo.map toOI).length := (List.getElem?_eq_some_iff.1 ho).1
    have hll : (lo.map toOI).length = ks.length := by rw [← ht.keys]; simp
    have ek : ks.getD k noK = oiKey o := by rw [← ht.keys, List.getD_eq_getElem?_getD, List.getElem?_map, ho]; rfl
    have h4 := Lds.kOf h1 h2 hm hl
    rw [List.map_take, ht.keys] at h4
    have h5 := h4.takes (oiKey o)
    have h6 : takesB H (oiKey o).1 (oiKey o).2.1 (oiKey o).2.2.1 (oiKey o).2.2.2 = false := hno
    rw [h6, ← ek, good_takes hg hn he k (by omega)] at h5
    cases h5
set_option maxRecDepth 20000 in
set_option maxHeartbeats 2000000 in
/-- the space of a state -/
theorem sload_ok (words oops mark : Nat) (ks : List Key) (root : Int) (p : Option Addr) (c : Nat) (lo : List OS) (w : World) (base : Nat) (ht : Tld w base (.slice p ks.length c) lo ks) (hT : Tab w) (hT0 : 0 < w.heap.size) (h1 : (words : Int) ≤ 1048576) (h2 : (oops : Int) ≤ 65536) (hm : (mark : Int) ≤ 1073741824) (hg : ∀ k ∈ ks, GoodK oops k) (hn : (ks.map fun k => k.1.toNat).Nodup) (he : endK ks ≤ (words : Int)) (hr : root = 0 ∨ hasK ks root = true) :
    Calls Tryd.prog 26 #[.agg #[.int .i64 (words : Int), .int .i64 (oops : Int), .int .i64 (mark : Int), .slice p ks.length c], .int .i64 root] w fun e w' => ∃ u a l H M, e = .returned (.tuple #[.pointer (some ⟨u, 0, none⟩), .int .i64 0]) ∧ Spc w' u a l ⟨words, oops, mark, ks, H, M, root, [], .slice none 0 0, none⟩ ∧ H.age = 0 ∧ Fr [] w w' ∧ (∀ b ∈ foot a l, w.heap.size ≤ b) ∧ w.heap.size ≤ u := by
  obtain ⟨V, hV⟩ : ∃ V, (w.alloc (.cells #[.int .i64 (words : Int), .int .i64 (oops : Int), .int .i64 (mark : Int), .slice p ks.length c] 44)) = V := ⟨_, rfl⟩
  have hfV : Fr [] w V := by rw [← hV]; exact (Fr.alloc [] _ _)
  have hbV : V.heap[w.heap.size]? = some (.cells #[.int .i64 (words : Int), .int .i64 (oops : Int), .int .i64 (mark : Int), .slice p ks.length c] 44 (0, 0)) := by
    rw [← hV]; exact heap_alloc_new _ _
  have hVs := hfV.size
  have HL := mkHid (load_ks words oops mark ks (.slice p ks.length c) lo V base (ht.fr hfV (by simp)) (hT.fr hfV hT0) (by omega) h1 h2 hm hg hn he)
  obtain ⟨bo, hbo⟩ : ∃ bo, w.heap.size = bo := ⟨_, rfl⟩
  rw [hbo] at hbV hVs
  have HVe := mkHid hV
  have HBe := mkHid hbo
  have HBV := mkHid hbV
  have HFV := mkHid hfV
  have HRt := mkHid hr
  clear ht hT hT0 hg hn he hV hbV hfV hbo hr
  go_enter Tryd.func26, Tryd.ntmps26
  go_wp2_with fail
  rw [HVe.out, HBe.out]
  obtain ⟨v0, v1, v2, v3⟩ : V.cell? ⟨bo, 0, none⟩ = some (.int .i64 (words : Int)) ∧ V.cell? ⟨bo, 1, none⟩ = some (.int .i64 (oops : Int)) ∧ V.cell? ⟨bo, 2, none⟩ = some (.int .i64 (mark : Int)) ∧ V.cell? ⟨bo, 3, none⟩ = some (.slice p ks.length c) := by
    refine ⟨?_, ?_, ?_, ?_⟩ <;> (rw [cell_in HBV.out]; rfl)
  clear HVe
  go_wp2_with fail
  refine Calls.mono HL.out ?_
  rintro e w2 ⟨l, H, M, rfl, hrep, hka, hag, hf2, hnew⟩
  have hb2 := (hf2.block bo (lt_of_heap HBV.out) (by simp)).trans HBV.out
  have y0 : w2.cell? ⟨bo, 0, none⟩ = some (.int .i64 (words : Int)) := by rw [cell_in hb2]; rfl
  have y1 : w2.cell? ⟨bo, 1, none⟩ = some (.int .i64 (oops : Int)) := by rw [cell_in hb2]; rfl
  have HO := mkHid (over_ok words oops hrep hka)
  have HF2 := mkHid (HFV.out.trans hf2 (by simp))
  have HNw : Hid (∀ b ∈ foot (V.heap.size + 1) l, w.heap.size ≤ b) := fun b hb => by have h5 := hnew b hb; have h6 := HBe.out; omega
  have HAg := mkHid hag
  have HKa := mkHid hka
  generalize V.heap.size + 1 = a at *
  clear hrep hka hag hf2 hnew hb2 HL
  go_wp2_with fail
  refine Calls.mono HO.out ?_
  rintro e w3 ⟨rfl, hsp3, hf3⟩
  have hw2s := HF2.out.size
  obtain ⟨u, hu⟩ : ∃ u, w2.heap.size = u := ⟨_, rfl⟩
  rw [hu] at hsp3 ⊢
  have HU : Hid (w.heap.size ≤ u) := by show w.heap.size ≤ u; omega
  have HS3 := mkHid hsp3
  have HF3 := mkHid (HF2.out.trans hf3 (by simp))
  clear hsp3 hf3 HO hu
  by_cases h0 : root = 0
  · subst h0
    go_wp2_with fail
    go_ret2
    exact ⟨u, a, l, H, M, rfl, HS3.out, HAg.out, HF3.out, HNw.out, HU.out⟩
  · have hb0 : (root == 0) = false := by simpa using h0
    have hhas : hasK ks root = true := by
      rcases HRt.out with e | e
      · exact absurd e h0
      · exact e
    have HC := mkHid (crown_ok HS3.out root)
    have HHs := mkHid hhas
    clear h0 hhas
    go_wp2_with fail
    refine Calls.mono HC.out ?_
    rintro e w4 (⟨h5, -⟩ | ⟨-, rfl, hsp4, hf4⟩)
    · have h6 : hasK ks root = false := h5
      rw [HHs.out] at h6; cases h6
    have HZ : Hid (Spc w4 u a l ⟨words, oops, mark, ks, H, M, root, [], .slice none 0 0, none⟩ ∧ Fr [] w w4) := ⟨hsp4, HF3.out.trans hf4 (fun b hb => .inr (by rw [mem_single hb]; exact HU.out))⟩
    clear hsp4 hf4 HC
    go_wp2_with fail
    go_ret2
    exact ⟨u, a, l, H, M, rfl, HZ.out.1, HAg.out, HZ.out.2, HNw.out, HU.out⟩
end Go.Proofs.YtkmjimdaimbdfaaDoor
