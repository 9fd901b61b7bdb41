import Derived.Test.YtklfnjlenbgmoaaDoorAG25HBoth
import Derived.Test.YtklfnjlenbgmoaaDoorAG41HLoadX
import Derived.Test.YtklfnjlenbgmoaaDoorAHMSet
import Derived.Test.YtklfnjlenbgmoaaDoorAG26HStepA
namespace Go.Proofs.YtklfnjlenbgmoaaDoor
open Go.RowKit
set_option linter.unusedVariables false
attribute [local go_sem ↓] Go.wp_at_zero Go.wp_at_succ
/-- things in blocks of their own -/
structure Cs (W : World) (base : Nat) (T : List Th) (pt : Option Addr) (ct : Nat) : Prop where
  row : W.ownsRow base 119 5 (.slice pt T.length ct) T.length (thCells T)
  slots : ∀ t ∈ T, W.ownsRow base 33 1 (.slice t.p t.slots.length t.c) t.slots.length (t.slots.map (Value.int .i64))
  apart : ∀ i j, i < T.length → j < T.length → i ≠ j → ∀ g ∈ blk (T.getD i noTh).p, g ∉ blk (T.getD j noTh).p
theorem Cs.idle {W W' : World} {base : Nat} {T : List Th} {pt : Option Addr} {ct : Nat} (h : Cs W base T pt ct) (hf : Fr [] W W') : Cs W' base T pt ct :=
  ⟨own_congr h.row fun g hg => hf.block g (h.row.lt g hg).2 (by simp), fun t ht => own_congr (h.slots t ht) fun g hg => hf.block g ((h.slots t ht).lt g hg).2 (by simp), h.apart⟩
def cpCells (M : MS) (pt : Option Addr) (k ct : Nat) : Obj := .cells #[.int .i64 (M.words : Int), .int .i64 (M.oops : Int), .int .i64 (M.mark : Int), .slice pt k ct] 55 (0, 0)
/-- a model that is being copied: the first k things are -/
structure Cp (w W : World) (M : MS) (k : Nat) : Prop where
  fr : Fr [] w W
  res : W.heap[w.heap.size]? = some (.cells #[.int .i64 0, .int .i64 0, .int .i64 0, .slice none 0 0] 55 (0, 0))
  at_ : ∃ T pt ct, T.length = k ∧ W.heap[w.heap.size + 1]? = some (cpCells M pt k ct) ∧ Cs W (w.heap.size + 2) T pt ct ∧ T.map bare = (M.things.take k).map bare
theorem own_same {W : World} {b1 b2 : Nat} {t1 t2 : TypeId} {k1 k2 n1 n2 : Nat} {v1 v2 : Value} {c1 c2 : List Value} (h1 : W.ownsRow b1 t1 k1 v1 n1 c1) (h2 : W.ownsRow b2 t2 k2 v2 n2 c2) (hne : t1 ≠ t2) (g : Nat) (e1 : v1.ownBlock = some g) (e2 : v2.ownBlock = some g) : False := by
  rcases h1.2 with ⟨q1, _⟩ | ⟨g1, cap1, cur1, q1, q2, q3, _⟩
  · rw [q1] at e1; simp [Value.ownBlock] at e1
  · rcases h2.2 with ⟨r1, _⟩ | ⟨g2, cap2, cur2, r1, r2, r3, _⟩
    · rw [r1] at e2; simp [Value.ownBlock] at e2
    · rw [q1] at e1
      rw [r1] at e2
      have a1 : g1 = g := by simpa [Value.ownBlock] using e1
      have a2 : g2 = g := by simpa [Value.ownBlock] using e2
      subst a1
      subst a2
      rw [q3] at r3
      simp at r3
      exact hne r3.2
theorem Cp.next {w wr V3 W2 : World} {M : MS} {k : Nat} {T : List Th} {pt : Option Addr} {ct : Nat} {t' : Th} {g2 cap : Nat} (h : Cp w wr M k) (hl : T.length = k) (hv : wr.heap[w.heap.size + 1]? = some (cpCells M pt k ct)) (hc : Cs wr (w.heap.size + 2) T pt ct) (hk : T.map bare = (M.things.take k).map bare)
    (hf : Fr [] wr V3) (ho : V3.ownsRow (wr.heap.size + 1) 33 1 (.slice t'.p t'.slots.length t'.c) t'.slots.length (t'.slots.map (Value.int .i64))) (hkl : k < M.things.length) (ht : bare t' = bare (M.things.getD k noTh))
    (hg : (V3.alloc (.cells (th5 t').toArray 119)).grownBy W2 (Value.slice pt k ct).ownBlock) (hown : W2.ownsRow (w.heap.size + 2) 119 5 (.slice (some ⟨g2, 0, none⟩) (k + 1) cap) (k + 1) (thCells T ++ th5 t')) :
    Cp w (W2.setCell ⟨w.heap.size + 1, 3, none⟩ (.slice (some ⟨g2, 0, none⟩) (k + 1) cap)) M (k + 1) := by
  have hBl := lt_of_heap hv
  have hz := hf.size
  have hc3 := hc.idle hf
  have hv3 := (hf.block _ hBl (by simp)).trans hv
  have hr3 := (hf.block _ (lt_of_heap h.res) (by simp)).trans h.res
  have hrow := hc3.row
  rw [hl] at hrow
  have hne : ∀ b, (Value.slice pt k ct).ownBlock = some b → w.heap.size + 2 ≤ b := fun b hb => (hrow.lt b hb).1
  have hsame : ∀ i, i < V3.heap.size → some i ≠ (Value.slice pt k ct).ownBlock → W2.heap[i]? = V3.heap[i]? := fun i hi hn => by
    rw [hg.block i (by simp; omega) hn]
    exact Below.heap_alloc _ _ _ hi
  have hlow : ∀ i, i < V3.heap.size → i < w.heap.size + 2 → W2.heap[i]? = V3.heap[i]? := fun i hi hle => hsame i hi (fun e => by have := hne _ e.symm; omega)
  have hg2 : w.heap.size + 2 ≤ g2 := (hown.lt g2 rfl).1
  have hsl : ∀ x : Th, V3.ownsRow (w.heap.size + 2) 33 1 (.slice x.p x.slots.length x.c) x.slots.length (x.slots.map (Value.int .i64)) → (W2.setCell ⟨w.heap.size + 1, 3, none⟩ (.slice (some ⟨g2, 0, none⟩) (k + 1) cap)).ownsRow (w.heap.size + 2) 33 1 (.slice x.p x.slots.length x.c) x.slots.length (x.slots.map (Value.int .i64)) := fun x hx => by
    refine own_congr hx fun g hg3 => ?_
    have hl3 := hx.lt g hg3
    rw [set_else (by omega)]
    exact hsame g hl3.2 (fun e => own_same hx hrow (by decide) g hg3 e.symm)
  have ho2 : V3.ownsRow (w.heap.size + 2) 33 1 (.slice t'.p t'.slots.length t'.c) t'.slots.length (t'.slots.map (Value.int .i64)) := own_base ho (by have := h.fr.size; omega)
  refine ⟨?_, ?_, T ++ [t'], some ⟨g2, 0, none⟩, cap, by rw [List.length_append, hl]; rfl, ?_, ⟨?_, ?_, ?_⟩, ?_⟩
  · have F1 : Fr [] w W2 := by
      have h0 := h.fr.trans hf (by simp)
      have hz0 := h0.size
      refine ⟨hg.os.trans h0.os, hg.tape.trans h0.tape, hg.output.trans h0.output, Nat.le_trans hz0 (Nat.le_trans (by simp) hg.size), fun i hi hn => ?_⟩
      rw [hlow i (by omega) (by omega)]
      exact h0.block i hi (by simp)
    exact F1.trans (Fr.setCell (S := [w.heap.size + 1]) _ _ _ (by simp)) (fun b hb => by simp at hb; subst hb; right; omega)
  · rw [set_else (by omega), hlow _ (lt_of_heap hr3) (by omega)]; exact hr3
  · have h4 := hlow _ (lt_of_heap hv3) (by omega)
    rw [hv3] at h4
    unfold cpCells at h4 ⊢
    rw [set_in h4]
    rfl
  · rw [List.length_append, hl, thCells_append]
    exact own_congr hown fun g hg3 => set_else (by
      have : g = g2 := by simpa [Value.ownBlock] using hg3.symm
      omega)
  · intro x hx
    rcases List.mem_append.1 hx with h1 | h1
    · exact hsl x (hc3.slots x h1)
    · have : x = t' := by simpa using h1
      rw [this]
      exact hsl t' ho2
  · have hnew : ∀ g ∈ blk t'.p, wr.heap.size + 1 ≤ g := fun g hgb => (ho.lt g ((blk_own _ _ _ _).2 hgb)).1
    have hold : ∀ i, i < T.length → ∀ g ∈ blk (T.getD i noTh).p, g < wr.heap.size := fun i hi g hgb => ((hc.slots _ (getD_mem T i hi)).lt g ((blk_own _ _ _ _).2 hgb)).2
    have hat : ∀ i, i < (T ++ [t']).length → (T ++ [t']).getD i noTh = if i = T.length then t' else T.getD i noTh := fun i hi => by
      have := putTh_at T T.length t' (Nat.le_refl _) i (by unfold putTh; rw [if_neg (by omega)]; exact hi)
      unfold putTh at this
      rw [if_neg (by omega)] at this
      exact this
    intro i j hi hj hij g hgi
    rw [hat i hi] at hgi
    rw [hat j hj]
    simp at hi hj
    by_cases hik : i = T.length
    · rw [if_pos hik] at hgi
      rw [if_neg (by omega)]
      exact fun hb => by have := hnew g hgi; have := hold j (by omega) g hb; omega
    · rw [if_neg hik] at hgi
      by_cases hjk : j = T.length
      · rw [if_pos hjk]
        exact fun hb => by have := hnew g hb; have := hold i (by omega) g hgi; omega
      · rw [if_neg hjk]
        exact hc.apart i j (by omega) (by omega) hij g hgi
  · rw [List.map_append, hk, List.take_succ_eq_append_getElem hkl, List.map_append]
    congr 1
    have e : M.things.getD k noTh = M.things[k] := by rw [List.getD_eq_getElem?_getD, List.getElem?_eq_getElem hkl]; rfl
    rw [e] at ht
    simp [ht]
set_option maxRecDepth 20000 in
set_option maxHeartbeats 1000000 in
theorem copied_ok (m : Nat) (M : MS) (w : World) (h : MRep w m M) (ho : MOk M) :
    Calls Tryd.prog 37 #[.pointer (some ⟨m, 0, none⟩)] w fun e w' => ∃ T pt ct, e = .returned (.agg #[.int .i64 (M.words : Int), .int .i64 (M.oops : Int), .int .i64 (M.mark : Int), .slice pt T.length ct]) ∧ Cs w' w.heap.size T pt ct ∧ T.map bare = M.things.map bare ∧ Fr [] w w' := by
  have hml := h.lt m (by simp [mfoot])
  have hlen := ho.len
  have HM := mkHid h
  have HO := mkHid ho
  obtain ⟨W0, hW0⟩ : ∃ W0, W0 = w.alloc (.cells #[.int .i64 0, .int .i64 0, .int .i64 0, .slice none 0 0] 55) := ⟨_, rfl⟩
  have F0 : Fr [] w W0 := by rw [hW0]; exact Fr.alloc [] _ _
  have hB0 : W0.heap[w.heap.size]? = some (.cells #[.int .i64 0, .int .i64 0, .int .i64 0, .slice none 0 0] 55 (0, 0)) := by rw [hW0]; exact heap_alloc_new _ _
  have hz0 : W0.heap.size = w.heap.size + 1 := by rw [hW0]; simp
  have hm0 := h.keep F0 (by simp)
  have c0 := hm0.c0
  have c1 := hm0.c1
  have c2 := hm0.c2
  have HS1 : Hid (∀ V, Eqw (W0.alloc (.cells #[.int .i64 (M.words : Int), .int .i64 (M.oops : Int), .int .i64 (M.mark : Int), .slice none 0 0] 55)) V → Cp w V M 0) := by
    intro V hV
    refine ⟨(F0.trans (Fr.alloc [] _ _) (by simp)).trans (hV.fr []) (by simp), ?_, [], none, 0, rfl, ?_, ⟨World.ownsRow_nil _ _ _ _, fun o ho => by simp at ho, fun i j hi => by simp at hi⟩, rfl⟩
    · rw [hV.2.2.2, Below.heap_alloc _ _ _ (by omega)]; exact hB0
    · have := heap_alloc_new W0 (.cells #[.int .i64 (M.words : Int), .int .i64 (M.oops : Int), .int .i64 (M.mark : Int), .slice none 0 0] 55); rw [hz0] at this; rw [hV.2.2.2]; exact this
  clear h ho hm0 hB0 F0
  go_enter Tryd.func37, Tryd.ntmps37
  go_wp2_with fail
  rw [← hW0]
  clear hW0
  go_region
  all_goals go_wp2_with fail
  have HS2 := mkHid (HS1.out _ (eqw_drew _))
  generalize (W0.alloc (.cells #[.int .i64 (M.words : Int), .int .i64 (M.oops : Int), .int .i64 (M.mark : Int), .slice none 0 0] 55)).drew = V0 at *
  clear HS1 c0 c1 c2
  obtain ⟨i0, hi, hi0, hi1, hi2⟩ := info_parts info119
  go_loopw [4] (fun q wr => ∃ k : Nat, k ≤ M.things.length ∧ q = .int .i64 k ∧ Hid (Cp w wr M k)) (fun q _ => M.things.length - (intOf q).toNat)
  case atStart => exact ⟨0, Nat.zero_le _, rfl, HS2⟩
  case round =>
    clear HS2
    obtain ⟨k, hkn, rfl, hq⟩ := hrel
    have hmr := HM.out.keep hq.out.fr (by simp)
    have c3 := hmr.c3
    have hzr := hq.out.fr.size
    obtain ⟨T, pt, ct, hl, hv, hcs, hbare⟩ := hq.out.at_
    by_cases hlt : k < M.things.length
    · have k1 : (0 : Int) ≤ (k : Int) := by omega
      have k2 : (k : Int) < (M.things.length : Int) := by omega
      obtain ⟨g, hg, -, -, hgl⟩ := hmr.thAt (by omega)
      have hrd : Rd wr (.slice (M.things.getD k noTh).p (M.things.getD k noTh).slots.length (M.things.getD k noTh).c) (M.things.getD k noTh).slots := own_rd (hmr.slots _ (getD_mem M.things k hlt)) (by have := HO.out.slots k hlt; omega)
      obtain ⟨x0, x1, x2, x3, x4⟩ := (by
        have hrow := hmr.row
        rw [hg] at hrow
        obtain ⟨a0, a1, a2, a3, a4⟩ := thCells_at M.things k hlt
        exact (⟨by rw [hrow.cellAt _ (by omega)]; exact a0, by rw [hrow.cellAt _ (by omega)]; exact a1, by rw [hrow.cellAt _ (by omega)]; exact a2, by rw [hrow.cellAt _ (by omega)]; exact a3, by rw [hrow.cellAt _ (by omega)]; exact a4⟩ : wr.cell? ⟨g, k * 5, none⟩ = some (.bool (M.things.getD k noTh).there) ∧ wr.cell? ⟨g, k * 5 + 1, none⟩ = some (.int .i64 (M.things.getD k noTh).cls) ∧ wr.cell? ⟨g, k * 5 + 2, none⟩ = some (.int .i64 ((M.things.getD k noTh).fmt : Int)) ∧ wr.cell? ⟨g, k * 5 + 3, none⟩ = some (.int .i64 ((M.things.getD k noTh).place : Int)) ∧ wr.cell? ⟨g, k * 5 + 4, none⟩ = some (.slice (M.things.getD k noTh).p (M.things.getD k noTh).slots.length (M.things.getD k noTh).c)))
      rw [hg] at c3
      have hths : ((M.things.getD k noTh).slots.length : Int) ≤ 8192 := HO.out.slots k hlt
      obtain ⟨t, htt⟩ : ∃ t, M.things.getD k noTh = t := ⟨_, rfl⟩
      rw [htt] at x0 x1 x2 x3 x4 hrd hths
      obtain ⟨th, tcl, fm, pl, sl, tp, tc⟩ := t
      dsimp only at x0 x1 x2 x3 x4 hrd hths
      have HT := mkHid htt
      obtain ⟨V1, hV1⟩ : ∃ V1, V1 = wr.alloc (.cells #[.bool th, .int .i64 tcl, .int .i64 (fm : Int), .int .i64 (pl : Int), .slice tp sl.length tc] 119) := ⟨_, rfl⟩
      have FV1 : Fr [] wr V1 := by rw [hV1]; exact Fr.alloc [] _ _
      have hBx : V1.heap[wr.heap.size]? = some (.cells #[.bool th, .int .i64 tcl, .int .i64 (fm : Int), .int .i64 (pl : Int), .slice tp sl.length tc] 119 (0, 0)) := by rw [hV1]; exact heap_alloc_new _ _
      obtain ⟨v2, V2, hr2, ho2, hf2⟩ := run_copy sl (.slice tp sl.length tc) V1 (hrd.idle FV1)
      have hle2 : V1.heap.size = wr.heap.size + 1 := by rw [hV1]; simp
      rw [hV1] at hr2
      have HR2 := mkHid hr2
      obtain ⟨p2, c2, hv2⟩ : ∃ p2 c2, v2 = .slice p2 sl.length c2 := by
        rcases ho2.2 with ⟨h2, h3⟩ | ⟨g', cap, cur, h2, _⟩
        · exact ⟨none, 0, by rw [h2, h3]⟩
        · exact ⟨_, cap, h2⟩
      subst hv2
      have hb2 := (hf2.block _ (lt_of_heap hBx) (by simp)).trans hBx
      have hfr2 : Fr [] wr V2 := FV1.trans hf2 (by simp)
      have b4 : V2.cell? ⟨wr.heap.size, 4, none⟩ = some (.slice tp sl.length tc) := by rw [cell_in hb2]; rfl
      have f4 : V2.frozen? ⟨wr.heap.size, 4, none⟩ = false := frozen_in hb2 4
      have b0 : V2.cell? ⟨wr.heap.size, 0, none⟩ = some (.bool th) := by rw [cell_in hb2]; rfl
      have b1 : V2.cell? ⟨wr.heap.size, 1, none⟩ = some (.int .i64 tcl) := by rw [cell_in hb2]; rfl
      have b2 : V2.cell? ⟨wr.heap.size, 2, none⟩ = some (.int .i64 (fm : Int)) := by rw [cell_in hb2]; rfl
      have b3 : V2.cell? ⟨wr.heap.size, 3, none⟩ = some (.int .i64 (pl : Int)) := by rw [cell_in hb2]; rfl
      have hv' := (hfr2.block _ (lt_of_heap hv) (by simp)).trans hv
      have e3 : V2.cell? ⟨w.heap.size + 1, 3, none⟩ = some (.slice pt k ct) := by unfold cpCells at hv'; rw [cell_in hv']; rfl
      have hBne : w.heap.size + 1 ≠ wr.heap.size := by have := lt_of_heap hv; omega
      have hV3f : Fr [] wr (V2.setCell ⟨wr.heap.size, 4, none⟩ (.slice p2 sl.length c2)) := hfr2.trans (Fr.setCell (S := [wr.heap.size]) _ _ _ (by simp)) (fun b hb => by simp at hb; subst hb; right; omega)
      have ho3 : (V2.setCell ⟨wr.heap.size, 4, none⟩ (.slice p2 sl.length c2)).ownsRow (wr.heap.size + 1) 33 1 (.slice p2 sl.length c2) sl.length (sl.map (Value.int .i64)) := by
        rw [hle2] at ho2
        exact own_congr ho2 fun b hb => set_else (by have := (ho2.lt b hb).1; omega)
      have hown3 := (hcs.idle hV3f).row.alloc (.cells #[.bool th, .int .i64 tcl, .int .i64 (fm : Int), .int .i64 (pl : Int), .slice p2 sl.length c2] 119)
      rw [hl] at hown3
      have hnews := World.news_of_block (heap_alloc_new (V2.setCell ⟨wr.heap.size, 4, none⟩ (.slice p2 sl.length c2)) (.cells #[.bool th, .int .i64 tcl, .int .i64 (fm : Int), .int .i64 (pl : Int), .slice p2 sl.length c2] 119))
      have hsz3 : (V2.setCell ⟨wr.heap.size, 4, none⟩ (.slice p2 sl.length c2)).heap.size = V2.heap.size := by simp
      rw [hsz3] at hnews
      have hzV : w.heap.size + 2 ≤ (V2.setCell ⟨wr.heap.size, 4, none⟩ (.slice p2 sl.length c2)).heap.size := by have := hV3f.size; have := lt_of_heap hv; omega
      have HX := mkHid (And.intro hq.out (And.intro hv (And.intro hcs (And.intro hbare (And.intro ho3 (And.intro hV3f hl))))))
      have hgb : g < wr.heap.size := hgl
      have HOw := mkHid hown3
      have HNw := mkHid hnews
      clear hown3 hnews ho3 hV3f
      clear hq hv hcs hbare hrd hmr hg htt hr2 ho2 hf2 hfr2 hb2 FV1 hBx hV1 hv'
      go_wp2_with (first
        | (at_builtin; refine Lib.wpList_append_run _ rfl (.const (.slice none 0 0)) (.tmp 36) 80 80 rfl _ _ rfl rfl _ _ HR2.out ?_)
        | (at_builtin; refine wpList_append_lies _ rfl (.tmp 40) (.tmp 42) 53 rfl (w.heap.size + 2) 119 i0 (.agg #[.bool false, .int .i64 0, .int .i64 0, .int .i64 0, .slice none 0 0]) 5 56 Tryd.underlying53 hi hi0 hi1 hi2 rfl (by decide) _ _ _ rfl HOw.out ⟨V2.heap.size, 0, none⟩ 1 1 [.bool th, .int .i64 tcl, .int .i64 (fm : Int), .int .i64 (pl : Int), .slice p2 sl.length c2] rfl rfl HNw.out ?c2 (by decide) ?c3 ?c4 ?c5 (V2.heap.size + 1) (by simp) ?_)
        | fail)
      case c2 => exact ⟨rfl, rfl, rfl, rfl, rfl⟩
      case c3 => unfold maxLen; omega
      case c4 => omega
      case c5 => omega
      intro g2 cap w5 hown5 hgrow5 hat5 hlt5
      obtain ⟨hcp, hv, hcs, hbare, ho3, hV3f, hl⟩ := HX.out
      have hnb : ∀ b, (Value.slice pt k ct).ownBlock = some b → w.heap.size + 2 ≤ b := fun b hb => by
        have hrw := hcs.row
        rw [hl] at hrw
        exact (hrw.lt b hb).1
      have hv5 : w5.heap[w.heap.size + 1]? = some (cpCells M pt k ct) := by
        rw [hgrow5.block _ (by simp; have := hV3f.size; have := lt_of_heap hv; simp at *; omega) (fun e => by have := hnb _ e.symm; omega), Below.heap_alloc _ _ _ (Nat.lt_of_lt_of_le (lt_of_heap hv) hV3f.size)]
        exact (hV3f.block _ (lt_of_heap hv) (by simp)).trans hv
      have HNx := mkHid (hcp.next (t' := ⟨th, tcl, fm, pl, sl, p2, c2⟩) hl hv hcs hbare hV3f ho3 hlt (by rw [HT.out]; rfl) hgrow5 hown5)
      unfold cpCells at hv5
      have fz := frozen_in hv5 3
      have cz : w5.cell? ⟨w.heap.size + 1, 3, none⟩ = some (.slice pt k ct) := by rw [cell_in hv5]; rfl
      clear hcp hv hcs hbare ho3 hV3f HX HOw HNw HR2 hown5 hgrow5 hat5 hv5 hnb
      go_wp2
      go_roundw
      case rel => exact ⟨k + 1, by omega, by go_num, HNx⟩
      case measure => simp [intOf]; omega
    · have hke : k = M.things.length := by omega
      subst hke
      have hB := lt_of_heap hv
      have hv0 := hv
      unfold cpCells at hv0
      have d0 : wr.cell? ⟨w.heap.size + 1, 0, none⟩ = some (.int .i64 (M.words : Int)) := by rw [cell_in hv0]; rfl
      have d1 : wr.cell? ⟨w.heap.size + 1, 1, none⟩ = some (.int .i64 (M.oops : Int)) := by rw [cell_in hv0]; rfl
      have d2 : wr.cell? ⟨w.heap.size + 1, 2, none⟩ = some (.int .i64 (M.mark : Int)) := by rw [cell_in hv0]; rfl
      have d3 : wr.cell? ⟨w.heap.size + 1, 3, none⟩ = some (.slice pt M.things.length ct) := by rw [cell_in hv0]; rfl
      have hr := hq.out.res
      have r0 : wr.cell? ⟨w.heap.size, 0, none⟩ = some (.int .i64 0) := by rw [cell_in hr]; rfl
      have r1 : wr.cell? ⟨w.heap.size, 1, none⟩ = some (.int .i64 0) := by rw [cell_in hr]; rfl
      have r2 : wr.cell? ⟨w.heap.size, 2, none⟩ = some (.int .i64 0) := by rw [cell_in hr]; rfl
      have r3 : wr.cell? ⟨w.heap.size, 3, none⟩ = some (.slice none 0 0) := by rw [cell_in hr]; rfl
      have y0 := frozen_in hr 0
      have y1 := frozen_in hr 1
      have y2 := frozen_in hr 2
      have y3 := frozen_in hr 3
      have HE : Hid (∀ V, Fr [w.heap.size] wr V → Cs V w.heap.size T pt ct ∧ T.map bare = M.things.map bare ∧ Fr [] w V) := by
        intro V hV
        refine ⟨⟨own_base (own_congr hcs.row fun g hg => hV.block g (hcs.row.lt g hg).2 (by have := (hcs.row.lt g hg).1; simp; omega)) (by omega), fun o ho => own_base (own_congr (hcs.slots o ho) fun g hg => hV.block g ((hcs.slots o ho).lt g hg).2 (by have := ((hcs.slots o ho).lt g hg).1; simp; omega)) (by omega), hcs.apart⟩, by rw [hbare, List.take_length], hq.out.fr.trans hV (fun b hb => by simp at hb; subst hb; right; exact Nat.le_refl _)⟩
      have HRes := mkHid hr
      have HL := mkHid hl
      clear hq hv hcs hbare hr hmr hv0 hl
      generalize hln : M.things.length = ln at *
      go_wp2_with fail
      obtain ⟨V, hV⟩ : ∃ V, V = (((wr.setCell ⟨w.heap.size, 0, none⟩ (.int .i64 (M.words : Int))).setCell ⟨w.heap.size, 1, none⟩ (.int .i64 (M.oops : Int))).setCell ⟨w.heap.size, 2, none⟩ (.int .i64 (M.mark : Int))).setCell ⟨w.heap.size, 3, none⟩ (.slice pt ln ct) := ⟨_, rfl⟩
      have hVb : V.heap[w.heap.size]? = some (.cells #[.int .i64 (M.words : Int), .int .i64 (M.oops : Int), .int .i64 (M.mark : Int), .slice pt ln ct] 55 (0, 0)) := by
        rw [hV, set_in (set_in (set_in (set_in HRes.out 0 _) 1 _) 2 _) 3 _]
        rfl
      have F : Fr [w.heap.size] wr V := by
        rw [hV]
        exact (((Fr.setCell (S := [w.heap.size]) wr ⟨w.heap.size, 0, none⟩ (.int .i64 (M.words : Int)) (by simp)).trans (Fr.setCell (S := [w.heap.size]) _ ⟨w.heap.size, 1, none⟩ (.int .i64 (M.oops : Int)) (by simp)) (fun b hb => .inl hb)).trans (Fr.setCell (S := [w.heap.size]) _ ⟨w.heap.size, 2, none⟩ (.int .i64 (M.mark : Int)) (by simp)) (fun b hb => .inl hb)).trans (Fr.setCell (S := [w.heap.size]) _ ⟨w.heap.size, 3, none⟩ (.slice pt ln ct) (by simp)) (fun b hb => .inl hb)
      rw [← hV]
      clear hV
      have x0 : V.cell? ⟨w.heap.size, 0, none⟩ = some (.int .i64 (M.words : Int)) := by rw [cell_in hVb]; rfl
      have x1 : V.cell? ⟨w.heap.size, 1, none⟩ = some (.int .i64 (M.oops : Int)) := by rw [cell_in hVb]; rfl
      have x2 : V.cell? ⟨w.heap.size, 2, none⟩ = some (.int .i64 (M.mark : Int)) := by rw [cell_in hVb]; rfl
      have x3 : V.cell? ⟨w.heap.size, 3, none⟩ = some (.slice pt ln ct) := by rw [cell_in hVb]; rfl
      refine bodyPost_ret (v := .agg #[.int .i64 (M.words : Int), .int .i64 (M.oops : Int), .int .i64 (M.mark : Int), .slice pt ln ct]) (by simp [results, Tryd.results37, go_sem, x0, x1, x2, x3]) rfl ?_
      obtain ⟨h5, h6, h7⟩ := HE.out V F
      exact ⟨T, pt, ct, by rw [HL.out], h5, h6, h7⟩
end Go.Proofs.YtklfnjlenbgmoaaDoor
