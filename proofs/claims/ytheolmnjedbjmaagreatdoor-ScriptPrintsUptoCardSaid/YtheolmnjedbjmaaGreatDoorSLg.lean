import Derived.Test.YtheolmnjedbjmaaGreatDoorSL6
import Derived.Lib.FrozenHead
namespace Go.Proofs.YtheolmnjedbjmaaGreatDoor
open Go.RowKit
set_option linter.unusedVariables false
set_option linter.unusedSimpArgs false
/-- cells stored in a row of which nothing below their end is frozen -/
theorem run_storeCells_atB (P : Program) (g o : Nat) (t : TypeId) (fz : Nat × Nat) : ∀ (vs : List Value) (i : Nat) (cur : Array Value) (w : World), w.heap[g]? = some (.cells cur t fz) → o + i + vs.length ≤ fz.1 → o + i + vs.length ≤ cur.size → (∀ v ∈ vs, v.oneCell' = true) →
    (storeCells ⟨g, o, none⟩ vs i).run P w = .ok () (w.setRow g (cur.toList.take (o + i) ++ vs ++ cur.toList.drop (o + i + vs.length)).toArray)
  | [], i, cur, w, hg, _, _, _ => by
    simp only [storeCells, List.append_nil, List.length_nil, Nat.add_zero, List.take_append_drop, Array.toArray_toList]
    rw [setRow_self w g cur t fz hg]
    rfl
  | v :: rest, i, cur, w, hg, hfz, hl, h1 => by
    have hi : o + i < cur.size := by simp at hl; omega
    have hadd : (⟨g, o, none⟩ : Addr).add i = ⟨g, o + i, none⟩ := by unfold Addr.add; split <;> simp_all
    have hcell : w.cell? ⟨g, o + i, none⟩ = some cur[o + i] := by simp [World.cell?, hg, hi]
    have hfro : w.frozen? ⟨g, o + i, none⟩ = false := by
      obtain ⟨lo, hi'⟩ := fz
      simp only [World.frozen?, hg, Bool.and_eq_false_iff, decide_eq_false_iff_not]
      left
      simp at hfz
      omega
    have hst : (store ((⟨g, o, none⟩ : Addr).add i) v).run P w = .ok () (w.setRow g (cur.setIfInBounds (o + i) v)) := by
      rw [hadd, run_store P w _ v _ (h1 v (by simp)), hcell]
      simp [hfro, setCell_eq_setRow w g (o + i) cur t fz v hg]
    have ih := run_storeCells_atB P g o t fz rest (i + 1) (cur.setIfInBounds (o + i) v) (w.setRow g (cur.setIfInBounds (o + i) v)) (setRow_heap w g cur _ t _ hg) (by simp at hfz ⊢; omega) (by simp at hl ⊢; omega) (fun x hx => h1 x (by simp [hx]))
    simp only [storeCells, Sem.run_bind, hst, Result.andThen_ok, ih, setRow_setRow]
    congr 3
    have e := list_seg_step cur.toList (o + i) v rest (by simp at hl ⊢; omega)
    simpa [Array.toList_setIfInBounds, Nat.add_assoc] using e
theorem run_append_room_stringB {P : Program} (w : World) (t u ty e : TypeId) (i : TypeInfo) (ht : P.underlying t = some (.slice e)) (hu : P.underlying u = some .string) (hi : P.info? e = some i) (hs1 : i.size = 1)
    (g sLen sCap : Nat) (cur : Array Value) (fz : Nat × Nat) (hg : w.heap[g]? = some (.cells cur e fz)) (s : ByteArray) (hfz : sLen + s.size ≤ fz.1)
    (hroom : sLen + s.size ≤ sCap) (hfit : sLen + s.size ≤ cur.size) :
    (Builtin.append_ #[t, u] ty #[.slice (some ⟨g, 0, none⟩) sLen sCap, .string s]).run P w =
      .ok (.slice (some ⟨g, 0, none⟩) (sLen + s.size) sCap) (w.setRow g (cur.toList.take sLen ++ Lib.strCells s ++ cur.toList.drop (sLen + s.size)).toArray) := by
  have hf := Lib.run_firstCells_string (P := P) w 1 s
  have hst := run_storeCells_atB P g sLen e fz (Lib.strCells s) 0 cur w hg (by simpa [Lib.strCells_length] using hfz) (by simpa [Lib.strCells_length] using hfit) (Lib.strCells_oneCell s)
  simp only [Nat.add_zero, Lib.strCells_length] at hst
  simp [Builtin.append_, run_underlying ht, run_underlying hu, sizeOf, typeInfo, hi, hs1, Builtin.lenOf, hroom, hf, Addr.add_lit, hst]
/-- a page that is a text's bytes, with room behind them -/
structure Lg (W : World) (B : Nat) (v : Value) (bs : Bs) : Prop where
  at_ : ∃ g cap cur fz, v = .slice (some ⟨g, 0, none⟩) bs.length cap ∧ B ≤ g ∧ W.heap[g]? = some (.cells cur 5 fz) ∧ cap ≤ fz.1 ∧ bs.length ≤ cap ∧ cap ≤ maxLen ∧ cur.size = cap ∧ cur.toList.take bs.length = Lib.byteCells bs
  low : B ≤ W.heap.size
  tab : Lib.TabBelow Tryz.prog B W "internal/strconv.uint64pow10" .u64 Lib.pow10Tab
def Pz (W : World) (B : Nat) (v : Value) (bs : Bs) : Prop := Pg W B v bs ∨ Lg W B v bs
theorem str_cells (l : Bs) : Lib.strCells (ba l) = Lib.byteCells l := by
  simp [Lib.strCells, Lib.byteCells, ba]
theorem Lg.str {W : World} {B : Nat} {v : Value} {bs : Bs} (h : Lg W B v bs) (s : Bs) (hl : bs.length + s.length ≤ 140737488355328) :
    ∃ v' w', (Builtin.append_ #[54, 9] 54 #[v, .string (ba s)]).run Tryz.prog W = .ok v' w' ∧ Pz w' B v' (bs ++ s) ∧ Pf B W w' := by
  obtain ⟨i5, ii, iz, is, ib⟩ := info_parts info5x
  obtain ⟨g, cap, cur, fz, rfl, hg, hb, h1, h2, h3, h4, h5⟩ := h.at_
  have hlow := h.low
  have hss := ba_size s
  by_cases hroom : bs.length + s.length ≤ cap
  · have hr := run_append_room_stringB (P := Tryz.prog) W 54 9 54 5 i5 Tryz.underlying54 Tryz.underlying9 ii is g bs.length cap cur fz hb (ba s) (by omega) (by omega) (by omega)
    rw [hss, str_cells] at hr
    have hgb : W.grownBy (W.setRow g (cur.toList.take bs.length ++ Lib.byteCells s ++ cur.toList.drop (bs.length + s.length)).toArray) (some g) := ⟨rfl, rfl, rfl, by simp, fun k _ hk => setRow_other W g k _ (fun e => hk (by simp [e]))⟩
    have hpf : Pf B W (W.setRow g (cur.toList.take bs.length ++ Lib.byteCells s ++ cur.toList.drop (bs.length + s.length)).toArray) :=
      ⟨(Fr.grown (S := [g]) hgb (fun k hk => by simp at hk; simp [hk])).below hlow (fun b hb => by simp at hb; omega), (Lib.OthersKept.refl 5 none W).grown hgb (fun k hk => by
        have : k = g := by simpa using hk.symm
        subst this
        exact ⟨_, _, hb⟩)⟩
    refine ⟨_, _, hr, Or.inr ⟨⟨g, cap, _, fz, by rw [List.length_append], hg, setRow_heap W g cur _ 5 _ hb, h1, by rw [List.length_append]; exact hroom, h3, ?_, ?_⟩, Nat.le_trans hlow hpf.below.size, h.tab.on hpf.below⟩, hpf⟩
    · simp only [List.size_toArray, List.length_append, List.length_take, List.length_drop, Array.length_toList, Lib.byteCells_length]
      omega
    · rw [h5]
      have hl2 : (bs ++ s).length = (Lib.byteCells bs ++ Lib.byteCells s).length := by simp [Lib.byteCells]
      rw [hl2, Lib.byteCells_append]
      simp only [List.append_assoc]
      rw [← List.append_assoc, List.take_left]
  · have holds : ∀ j u, (Lib.byteCells bs)[j]? = some u → W.cell? ((⟨g, 0, none⟩ : Addr).add j) = some u := fun j u hu => by
      have : (⟨g, 0, none⟩ : Addr).add j = ⟨g, j, none⟩ := by rw [Addr.add_mid]; simp
      rw [this, cell_inF hb j, ← Array.getElem?_toList]
      rw [← h5, List.getElem?_take] at hu
      split at hu
      · exact hu
      · cases hu
    have hr := Lib.run_append_grow_string (P := Tryz.prog) W 54 9 54 5 i5 (.int .u8 0) Tryz.underlying54 Tryz.underlying9 ii iz ⟨g, 0, none⟩ bs.length cap (Lib.byteCells bs) (by rw [is, Lib.byteCells_length]; omega) holds (ba s) (by omega) (by omega) (by rw [ib]; exact growslice_fits (by omega) (by omega))
    rw [hss, str_cells] at hr
    have hge := grownCap_ge W (bs.length + s.length) cap 5
    have hcm := grownCap_le_maxLen W (bs.length + s.length) cap 5 (by unfold maxLen; omega)
    have hf : Fr [] W (W.drew.alloc (.cells ((Lib.byteCells bs).toArray ++ (Lib.byteCells s).toArray ++ Builtin.zeroCells (Value.int .u8 0).cells (grownCap W (bs.length + s.length) cap 5 - (bs.length + s.length))) 5)) :=
      (Fr.drew [] W).trans (Fr.alloc [] _ _) (by simp)
    have hbel := hf.below hlow (by simp)
    refine ⟨_, _, hr, Or.inl ⟨?_, Nat.le_trans hlow hf.size, h.tab.on hbel⟩, hbel, ?_⟩
    · rw [List.length_append]
      refine ⟨by rw [Lib.byteCells_length, List.length_append, Nat.mul_one], .inr ⟨_, _, _, rfl, ?_, heap_alloc_new _ _, hge, hcm, ?_, ?_⟩⟩
      · exact hlow
      · simp only [Array.size_append, List.size_toArray, size_zeroCells, Lib.byteCells_length]
        simp [Value.cells]
        omega
      · have hl2 : (bs.length + s.length) * 1 = (Lib.byteCells bs ++ Lib.byteCells s).length := by simp [Lib.byteCells]
        simp only [Array.toList_append, Lib.byteCells_append]
        rw [hl2, List.take_left]
    · exact ((Lib.OthersKept.refl 5 none W).drew).alloc _
theorem Pz.str {W : World} {B : Nat} {v : Value} {bs : Bs} (h : Pz W B v bs) (s : Bs) (hl : bs.length + s.length ≤ 140737488355328) :
    ∃ v' w', (Builtin.append_ #[54, 9] 54 #[v, .string (ba s)]).run Tryz.prog W = .ok v' w' ∧ Pz w' B v' (bs ++ s) ∧ Pf B W w' := by
  rcases h with h | h
  · obtain ⟨v', w', h1, h2, h3⟩ := h.str (ba s) (by rw [ba_size]; exact hl)
    rw [ba_data] at h2
    exact ⟨v', w', h1, Or.inl h2, h3⟩
  · exact h.str s hl
theorem Pz.conv {W : World} {B : Nat} {v : Value} {bs : Bs} (h : Pz W B v bs) : (convert 54 9 v).run Tryz.prog W = .ok (.string ⟨bs.toArray⟩) W := by
  rcases h with h | h
  · exact h.conv
  · obtain ⟨g, cap, cur, fz, rfl, hg, hb, h1, h2, h3, h4, h5⟩ := h.at_
    refine run_convert_bytes_back W 54 9 5 ⟨g, 0, none⟩ cap bs Tryz.underlying54 Tryz.underlying5 Tryz.underlying9 (fun j hj => ?_)
    have hp : (⟨g, 0, none⟩ : Addr).add j = ⟨g, j, none⟩ := by rw [Addr.add_mid]; simp
    have he : (Lib.byteCells bs)[j]? = some (.int .u8 (bs[j].toNat : Int)) := by simp [Lib.byteCells, List.getElem?_eq_getElem hj]
    rw [← h5, List.getElem?_take, if_pos hj] at he
    rw [hp, cell_inF hb j, ← Array.getElem?_toList]
    exact he
theorem Pz.bl {W W' : World} {B : Nat} {v : Value} {bs : Bs} (h : Pz W B v bs) (k : Bl W W') : Pz W' B v bs := by
  rcases h with h | h
  · exact Or.inl (h.bl k)
  · obtain ⟨g, cap, cur, fz, e, hg, hb, r⟩ := h.at_
    exact Or.inr ⟨⟨g, cap, cur, fz, e, hg, (k.block g (lt_of_heap hb)).trans hb, r⟩, Nat.le_trans h.low k.size, h.tab.on (Below.mono k h.low)⟩
/-- a text's bytes, in memory of their own -/
theorem conv_new (W : World) (hp : Pw W) (bs : Bs) (hl : bs.length ≤ 140737488355328) : ∃ v w', (convert 9 54 (.string (ba bs))).run Tryz.prog W = .ok v w' ∧ Pz w' W.heap.size v bs ∧ Bl W w' := by
  have hr := run_bytes_of_string (P := Tryz.prog) W 9 54 5 (ba bs) Tryz.underlying9 Tryz.underlying54 Tryz.underlying5
  rw [ba_size] at hr
  have hge := grownCap_ge W bs.length 0 5
  have hcm := grownCap_le_maxLen W bs.length 0 5 (by unfold maxLen; omega)
  have hz : (bytesRow (ba bs) (grownCap W bs.length 0 5)).size = grownCap W bs.length 0 5 := by
    unfold bytesRow
    have := ba_size bs
    have h2 : (ba bs).data.size = bs.length := this
    simp [h2]
    omega
  rw [hz] at hr
  have hbl : Bl W (W.drew.alloc (.cells (bytesRow (ba bs) (grownCap W bs.length 0 5)) 5 (grownCap W bs.length 0 5, grownCap W bs.length 0 5 + 1))) := (bl_drew W).trans (Bl.alloc _ _)
  refine ⟨_, _, hr, Or.inr ⟨⟨W.heap.size, _, _, _, rfl, Nat.le_refl _, heap_alloc_new W.drew _, Nat.le_refl _, hge, hcm, hz, ?_⟩, hbl.size, (hp.tab (Nat.le_refl _)).on hbl⟩, hbl⟩
  unfold bytesRow
  have e : (ba bs).data.map (fun b => Value.int .u8 (b.toNat : Int)) = (Lib.byteCells bs).toArray := by simp [ba, Lib.byteCells]
  rw [e]
  simp only [Array.toList_append]
  have hl2 : bs.length = (Lib.byteCells bs).length := by simp [Lib.byteCells]
  rw [hl2, List.take_left]
end Go.Proofs.YtheolmnjedbjmaaGreatDoor

