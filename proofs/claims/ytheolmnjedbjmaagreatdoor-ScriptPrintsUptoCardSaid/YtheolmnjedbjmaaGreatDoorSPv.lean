import Derived.Test.YtheolmnjedbjmaaGreatDoorSLg
import Derived.Test.YtheolmnjedbjmaaGreatDoorGC
namespace Go.Proofs.YtheolmnjedbjmaaGreatDoor
open Go.RowKit
set_option linter.unusedVariables false
set_option linter.unusedSimpArgs false
theorem run_append_roomB {P : Program} (w : World) (t ty e : TypeId) (i : TypeInfo) (ht : P.underlying t = some (.slice e)) (hi : P.info? e = some i) (hs1 : i.size = 1)
    (g sLen sCap : Nat) (cur : Array Value) (fz : Nat × Nat) (hg : w.heap[g]? = some (.cells cur e fz)) (a : Addr) (m c : Nat) (news : List Value) (hl : news.length = m) (hnews : ∀ j u, news[j]? = some u → w.cell? (a.add j) = some u) (h1 : ∀ u ∈ news, u.oneCell' = true) (hfz : sLen + m ≤ fz.1)
    (hroom : sLen + m ≤ sCap) (hfit : sLen + m ≤ cur.size) :
    (Builtin.append_ #[t, t] ty #[.slice (some ⟨g, 0, none⟩) sLen sCap, .slice (some a) m c]).run P w =
      .ok (.slice (some ⟨g, 0, none⟩) (sLen + m) sCap) (w.setRow g (cur.toList.take sLen ++ news ++ cur.toList.drop (sLen + m)).toArray) := by
  have hf := run_firstCells_some (P := P) w 1 m a m c news (by rw [hl]; omega) hnews
  have hst := run_storeCells_atB P g sLen e fz news 0 cur w hg (by rw [hl]; exact hfz) (by rw [hl]; exact hfit) h1
  simp only [Nat.add_zero, hl] at hst
  simp [Builtin.append_, run_underlying ht, sizeOf, typeInfo, hi, hs1, Builtin.lenOf, hroom, hf, Addr.add_lit, hst]
theorem Lg.al {W : World} {B : Nat} {v : Value} {bs : Bs} (h : Lg W B v bs) (o : Obj) : Lg (W.alloc o) B v bs := by
  obtain ⟨g, cap, cur, fz, e, hg, hb, r⟩ := h.at_
  exact ⟨⟨g, cap, cur, fz, e, hg, (Below.heap_alloc _ _ _ (lt_of_heap hb)).trans hb, r⟩, by simp; have := h.low; omega, h.tab.on ((Fr.alloc [] W o).below h.low (by simp))⟩
theorem Lg.dr {W : World} {B : Nat} {v : Value} {bs : Bs} (h : Lg W B v bs) (n : Nat) : Lg (W.drewN n) B v bs := ⟨h.at_, h.low, h.tab.on ((Fr.drewN [] W n).below h.low (by simp))⟩
def Pv (W : World) (B : Nat) (v : Value) (bs : Bs) : Prop := Pq W B v bs ∨ Lg W B v bs
theorem Pz.pv {W : World} {B : Nat} {v : Value} {bs : Bs} (h : Pz W B v bs) : Pv W B v bs := by
  rcases h with h | h
  · exact Or.inl (Or.inl h)
  · exact Or.inr h
theorem Pg.pv {W : World} {B : Nat} {v : Value} {bs : Bs} (h : Pg W B v bs) : Pv W B v bs := Or.inl (Or.inl h)
theorem Pv.al {W : World} {B : Nat} {v : Value} {bs : Bs} (h : Pv W B v bs) (o : Obj) : Pv (W.alloc o) B v bs := h.imp (·.al o) (·.al o)
theorem Pv.dr {W : World} {B : Nat} {v : Value} {bs : Bs} (h : Pv W B v bs) (n : Nat) : Pv (W.drewN n) B v bs := h.imp (·.dr n) (·.dr n)
theorem Pv.low {W : World} {B : Nat} {v : Value} {bs : Bs} (h : Pv W B v bs) : B ≤ W.heap.size := by
  rcases h with h | h
  · exact h.low
  · exact h.low
theorem Pv.bl {W W' : World} {B : Nat} {v : Value} {bs : Bs} (h : Pv W B v bs) (k : Bl W W') : Pv W' B v bs := by
  rcases h with h | h
  · exact Or.inl (h.bl k)
  · obtain ⟨g, cap, cur, fz, e, hg, hb, r⟩ := h.at_
    exact Or.inr ⟨⟨g, cap, cur, fz, e, hg, (k.block g (lt_of_heap hb)).trans hb, r⟩, Nat.le_trans h.low k.size, h.tab.on (Below.mono k h.low)⟩
theorem Pv.slice {W : World} {B : Nat} {v : Value} {bs : Bs} (h : Pv W B v bs) : ∃ p c, v = .slice p bs.length c := by
  rcases h with (h | h) | h
  · rcases h.row.2 with ⟨rfl, h0⟩ | ⟨g, cap, cur, rfl, _⟩
    · exact ⟨none, 0, by rw [h0]⟩
    · exact ⟨_, _, rfl⟩
  · obtain ⟨g, rfl, _⟩ := h.at_
    exact ⟨_, _, rfl⟩
  · obtain ⟨g, cap, cur, fz, rfl, _⟩ := h.at_
    exact ⟨_, _, rfl⟩
theorem Pv.conv {W : World} {B : Nat} {v : Value} {bs : Bs} (h : Pv W B v bs) : (convert 54 9 v).run Tryz.prog W = .ok (.string ⟨bs.toArray⟩) W := by
  rcases h with h | h
  · exact h.conv
  · exact Pz.conv (Or.inr h)
theorem Lg.push {W : World} {B : Nat} {v : Value} {bs : Bs} (h : Lg W B v bs) (news : Bs) (hl : bs.length + news.length ≤ 140737488355328) :
    ∃ v' w', (Builtin.append_ #[54, 54] 54 #[v, .slice (some ⟨W.heap.size, 0, none⟩) news.length news.length]).run Tryz.prog (W.alloc (.cells (Lib.byteCells news).toArray 5)) = .ok v' w' ∧ Pz w' B v' (bs ++ news) ∧ Pf B W w' := by
  obtain ⟨i5, ii, iz, is, ib⟩ := info_parts info5x
  obtain ⟨g, cap, cur, fz, rfl, hg, hb, h1, h2, h3, h4, h5⟩ := h.at_
  have hlow := h.low
  have hb2 : (W.alloc (.cells (Lib.byteCells news).toArray 5)).heap[g]? = some (.cells cur 5 fz) := (Below.heap_alloc _ _ _ (lt_of_heap hb)).trans hb
  have hnew := heap_alloc_new W (.cells (Lib.byteCells news).toArray 5)
  have hz : (W.alloc (.cells (Lib.byteCells news).toArray 5)).heap.size = W.heap.size + 1 := by simp
  have hnews : ∀ j u, (Lib.byteCells news)[j]? = some u → (W.alloc (.cells (Lib.byteCells news).toArray 5)).cell? ((⟨W.heap.size, 0, none⟩ : Addr).add j) = some u := fun j u hu => by
    have : (⟨W.heap.size, 0, none⟩ : Addr).add j = ⟨W.heap.size, j, none⟩ := by rw [Addr.add_mid]; simp
    rw [this, cell_in hnew j]
    simpa using hu
  have hpa : Pf B W (W.alloc (.cells (Lib.byteCells news).toArray 5)) := (Pf.refl B W).alloc hlow _
  by_cases hroom : bs.length + news.length ≤ cap
  · have hr := run_append_roomB (P := Tryz.prog) (W.alloc (.cells (Lib.byteCells news).toArray 5)) 54 54 5 i5 Tryz.underlying54 ii is g bs.length cap cur fz hb2 ⟨W.heap.size, 0, none⟩ news.length news.length (Lib.byteCells news) (Lib.byteCells_length _) hnews (byteCells_one news) (by omega) hroom (by omega)
    generalize (W.alloc (.cells (Lib.byteCells news).toArray 5)) = w1 at *
    have hlow1 : B ≤ w1.heap.size := by omega
    have hgb : w1.grownBy (w1.setRow g (cur.toList.take bs.length ++ Lib.byteCells news ++ cur.toList.drop (bs.length + news.length)).toArray) (some g) := ⟨rfl, rfl, rfl, by simp, fun k _ hk => setRow_other w1 g k _ (fun e => hk (by simp [e]))⟩
    have hpf : Pf B W (w1.setRow g (cur.toList.take bs.length ++ Lib.byteCells news ++ cur.toList.drop (bs.length + news.length)).toArray) :=
      hpa.trans ⟨(Fr.grown (S := [g]) hgb (fun k hk => by simp at hk; simp [hk])).below hlow1 (fun b hb => by simp at hb; omega), (Lib.OthersKept.refl 5 none w1).grown hgb (fun k hk => by
        have : k = g := by simpa using hk.symm
        subst this
        exact ⟨_, _, hb2⟩)⟩
    refine ⟨_, _, hr, Or.inr ⟨⟨g, cap, _, fz, by rw [List.length_append], hg, setRow_heap w1 g cur _ 5 _ hb2, h1, by rw [List.length_append]; exact hroom, h3, ?_, ?_⟩, Nat.le_trans hlow hpf.below.size, h.tab.on hpf.below⟩, hpf⟩
    · simp only [List.size_toArray, List.length_append, List.length_take, List.length_drop, Array.length_toList, Lib.byteCells_length]
      omega
    · rw [h5]
      have hl2 : (bs ++ news).length = (Lib.byteCells bs ++ Lib.byteCells news).length := by simp [Lib.byteCells]
      rw [hl2, Lib.byteCells_append]
      simp only [List.append_assoc]
      rw [← List.append_assoc, List.take_left]
  · have holds : ∀ j u, (Lib.byteCells bs)[j]? = some u → (W.alloc (.cells (Lib.byteCells news).toArray 5)).cell? ((⟨g, 0, none⟩ : Addr).add j) = some u := fun j u hu => by
      have : (⟨g, 0, none⟩ : Addr).add j = ⟨g, j, none⟩ := by rw [Addr.add_mid]; simp
      rw [this, cell_inF hb2 j, ← Array.getElem?_toList]
      rw [← h5, List.getElem?_take] at hu
      split at hu
      · exact hu
      · cases hu
    have hr := run_append_grow (P := Tryz.prog) (W.alloc (.cells (Lib.byteCells news).toArray 5)) 54 54 5 i5 (.int .u8 0) Tryz.underlying54 ii iz ⟨g, 0, none⟩ bs.length cap (Lib.byteCells bs) (by rw [is, Lib.byteCells_length]; omega) holds ⟨W.heap.size, 0, none⟩ news.length news.length (Lib.byteCells news) (by rw [is, Lib.byteCells_length]; omega) hnews (by omega) (by omega) (by rw [ib]; exact growslice_fits (by omega) (by omega))
    generalize (W.alloc (.cells (Lib.byteCells news).toArray 5)) = w1 at *
    have hlow1 : B ≤ w1.heap.size := by omega
    have hge := grownCap_ge w1 (bs.length + news.length) cap 5
    have hcm := grownCap_le_maxLen w1 (bs.length + news.length) cap 5 (by unfold maxLen; omega)
    have hf : Fr [] w1 (w1.drew.alloc (.cells ((Lib.byteCells bs).toArray ++ (Lib.byteCells news).toArray ++ Builtin.zeroCells (Value.int .u8 0).cells (grownCap w1 (bs.length + news.length) cap 5 - (bs.length + news.length))) 5)) :=
      (Fr.drew [] w1).trans (Fr.alloc [] _ _) (by simp)
    have hpf : Pf B W _ := hpa.trans ⟨hf.below hlow1 (by simp), ((Lib.OthersKept.refl 5 none w1).drew).alloc _⟩
    refine ⟨_, _, hr, Or.inl ⟨?_, Nat.le_trans hlow hpf.below.size, h.tab.on hpf.below⟩, hpf⟩
    · rw [List.length_append]
      refine ⟨by rw [Lib.byteCells_length, List.length_append, Nat.mul_one], .inr ⟨_, _, _, rfl, ?_, heap_alloc_new _ _, hge, hcm, ?_, ?_⟩⟩
      · exact hlow1
      · simp only [Array.size_append, List.size_toArray, size_zeroCells, Lib.byteCells_length]
        simp [Value.cells]
        omega
      · have hl2 : (bs.length + news.length) * 1 = (Lib.byteCells bs ++ Lib.byteCells news).length := by simp [Lib.byteCells]
        simp only [Array.toList_append, Lib.byteCells_append]
        rw [hl2, List.take_left]
end Go.Proofs.YtheolmnjedbjmaaGreatDoor

