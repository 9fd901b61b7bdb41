import Derived.Test.YtklfnjlenbgmoaaDoorPG15HLoadW
set_option linter.unusedVariables false
namespace Go.Proofs.YtklfnjlenbgmoaaDoor
open Go.RowKit
attribute [local go_sem ↓] Go.wp_at_zero Go.wp_at_succ
def ApO (l : List OS) : Prop := l.Pairwise fun a b => ∀ g, a.v.ownBlock = some g → b.v.ownBlock ≠ some g
theorem ApO.snoc {l : List OS} {o : OS} (h : ApO l) (ho : ∀ x ∈ l, ∀ g, x.v.ownBlock = some g → o.v.ownBlock ≠ some g) : ApO (l ++ [o]) := by
 unfold ApO
 rw [List.pairwise_append]
 refine ⟨h, List.pairwise_singleton .., fun x hx y hy => ?_⟩
 have e : y = o := by simpa using hy
 rw [e]
 exact ho x hx
structure St2 (w W : World) (B words oops mark : Nat) (ks : List (Nat × Int × Nat × List Int)) : Prop where
 fr : Fr [] w W
 lo : w.heap.size + 1 ≤ B
 res : W.heap[w.heap.size]? = some (.cells #[.int .i64 0, .int .i64 0, .int .i64 0, .slice none 0 0] 38 (0, 0))
 at_ : ∃ ov l, W.heap[B]? = some (.cells #[.int .i64 (words : Int), .int .i64 (oops : Int), .int .i64 (mark : Int), ov] 38 (0, 0)) ∧ SRep W (B + 1) ov l ∧ l.map osKey = ks ∧ ApO l
theorem St2.idle {w W W' : World} {B words oops mark : Nat} {ks : List (Nat × Int × Nat × List Int)} (h : St2 w W B words oops mark ks) (hf : Fr [] W W') : St2 w W' B words oops mark ks := by
 obtain ⟨ov, l, h1, h2, h3, h4⟩ := h.at_
 exact ⟨h.fr.trans hf (by simp), h.lo, (hf.block _ (lt_of_heap h.res) (by simp)).trans h.res, ov, l, (hf.block _ (lt_of_heap h1) (by simp)).trans h1, h2.idle hf, h3, h4⟩
theorem St2.next {w W V W2 : World} {B words oops mark : Nat} {ks : List (Nat × Int × Nat × List Int)} {ov : Value} {l : List OS} {o : OS} {g2 cap : Nat} (h : St2 w W B words oops mark ks) (hv : W.heap[B]? = some (.cells #[.int .i64 (words : Int), .int .i64 (oops : Int), .int .i64 (mark : Int), ov] 38 (0, 0))) (hr : SRep W (B + 1) ov l) (hk : l.map osKey = ks) (ha : ApO l) (hao : ∀ x ∈ l, ∀ g, x.v.ownBlock = some g → o.v.ownBlock ≠ some g)
  (ho : W.ownsRow (B + 1) 33 1 o.v o.slots.length (o.slots.map (Value.int .i64)))
  (hg : (W.alloc (.cells (os4 o).toArray 106)).grownBy W2 ov.ownBlock) (hown : W2.ownsRow (B + 1) 106 4 (.slice (some ⟨g2, 0, none⟩) (l.length + 1) cap) (l.length + 1) (osCells l ++ os4 o))
  (he : Eqw (W2.setCell ⟨B, 3, none⟩ (.slice (some ⟨g2, 0, none⟩) (l.length + 1) cap)) V) : St2 w V B words oops mark (ks ++ [osKey o]) := by
 have hBl := lt_of_heap hv
 have hlo := h.lo
 have hne : ∀ b, ov.ownBlock = some b → B + 1 ≤ b := fun b hb => (hr.row.lt b hb).1
 have hsame : ∀ i, i < W.heap.size → some i ≠ ov.ownBlock → W2.heap[i]? = W.heap[i]? := fun i hi hn => by
  rw [hg.block i (by simp; omega) hn]
  exact Below.heap_alloc _ _ _ hi
 have hlow : ∀ i, i < W.heap.size → i ≤ B → W2.heap[i]? = W.heap[i]? := fun i hi hle => hsame i hi (fun e => by have := hne _ e.symm; omega)
 have hV : ∀ i, i ≠ B → V.heap[i]? = W2.heap[i]? := fun i hi => by rw [he.2.2.2, set_else hi]
 have hg2 : B + 1 ≤ g2 := (hown.lt g2 rfl).1
 have hsl : ∀ x : OS, W.ownsRow (B + 1) 33 1 x.v x.slots.length (x.slots.map (Value.int .i64)) → V.ownsRow (B + 1) 33 1 x.v x.slots.length (x.slots.map (Value.int .i64)) := fun x hx => by
  refine own_congr hx fun g hg3 => ?_
  have hl := hx.lt g hg3
  rw [hV g (by omega)]
  refine hsame g hl.2 (fun e => ?_)
  rcases hx.2 with ⟨q1, _⟩ | ⟨g', cap', cur', q1, q2, q3, _⟩
  ·rw [q1] at hg3; simp [Value.ownBlock] at hg3
  ·rw [q1] at hg3
   have e1 : g' = g := by simpa [Value.ownBlock] using hg3
   subst e1
   rcases hr.row.2 with ⟨r1, _⟩ | ⟨g'', cap'', cur'', r1, r2, r3, _⟩
   ·rw [r1] at e; simp [Value.ownBlock] at e
   ·rw [r1] at e
    have e2 : g' = g'' := by simpa [Value.ownBlock] using e
    subst e2
    rw [q3] at r3
    simp at r3
 refine ⟨?_, h.lo, ?_, .slice (some ⟨g2, 0, none⟩) (l.length + 1) cap, l ++ [o], ?_, ⟨?_, ?_⟩, by rw [List.map_append, hk]; rfl, ha.snoc hao⟩
 ·have F1 : Fr [] w W2 := by
   refine ⟨hg.os.trans h.fr.os, hg.tape.trans h.fr.tape, hg.output.trans h.fr.output, Nat.le_trans h.fr.size (Nat.le_trans (by simp) hg.size), fun i hi hn => ?_⟩
   have := h.fr.size
   rw [hlow i (by omega) (by omega)]
   exact h.fr.block i hi (by simp)
  have F2 : Fr [] w (W2.setCell ⟨B, 3, none⟩ (.slice (some ⟨g2, 0, none⟩) (l.length + 1) cap)) := F1.trans (Fr.setCell (S := [B]) _ _ _ (by simp)) (fun b hb => by simp at hb; subst hb; right; omega)
  exact F2.trans (he.fr []) (by simp)
 ·rw [hV _ (by omega), hlow _ (lt_of_heap h.res) (by omega)]; exact h.res
 ·have h4 := hlow B hBl (Nat.le_refl _)
  rw [hv] at h4
  rw [he.2.2.2, set_in h4]
  rfl
 ·rw [List.length_append, osCells_append]
  exact own_congr hown fun g hg3 => hV g (by
   have : g = g2 := by simpa [Value.ownBlock] using hg3.symm
   omega)
 ·intro x hx
  rcases List.mem_append.1 hx with h1 | h1
  ·exact hsl x (hr.slots x h1)
  ·have : x = o := by simpa using h1
   rw [this]
   exact hsl o ho
set_option maxRecDepth 20000 in
set_option maxHeartbeats 1000000 in
theorem State_ap (a : Nat) (l : Lay) (H : HS) (M : MS) (w : World) (h : Rep w a l H) (hi : InvV H M) :
  Calls Tryd.prog 23 #[.pointer (some ⟨a, 0, none⟩)] w fun e w' => ∃ ov ls, e = .returned (.agg #[.int .i64 H.words, .int .i64 H.oops, .int .i64 H.mark, ov]) ∧ SRep w' w.heap.size ov ls ∧ ls.map osKey = stKeys H M.things H.order.length ∧ Fr [] w w' ∧ ApO ls := by
 have hal := h.lt a (by simp [foot])
 have hsm := hi.safe.small
 have hord := hi.safe.order
 have hsb := hsm.words
 have hsm2 := hsm.mem
 have hcb := hsm.count
 have hob := hsm.oops
 have hb : (H.mem.length : Int) ≤ 1048576 := by omega
 have HR : Hid (∀ V, Fr [] w V → Rep V a l H) := fun V hV => h.keep hV (by simp)
 have HObj : Hid (∀ V, Fr [] w V → ∀ j, j < H.order.length → H.order.getD j 0 ≠ 0 → Calls Tryd.prog 62 #[.pointer (some ⟨a, 0, none⟩), .int .i64 (H.order.getD j 0 : Nat)] V fun e w' => ∃ v, e = .returned v ∧ ∃ o : OS, v = .agg #[.int .i64 (o.oop : Int), .int .i64 o.cls, .int .i64 (o.fmt : Int), o.v] ∧ osKey o = (H.order.getD j 0, (M.things.getD (H.order.getD j 0 - 1) noTh).cls, (M.things.getD (H.order.getD j 0 - 1) noTh).fmt, (M.things.getD (H.order.getD j 0 - 1) noTh).slots) ∧ w'.ownsRow V.heap.size 33 1 o.v o.slots.length (o.slots.map (Value.int .i64)) ∧ Fr [] V w') := by
  intro V hV j hj hne
  obtain ⟨o1, o2, o3⟩ := hi.order j hj hne
  have hI := hi.is (H.order.getD j 0 - 1) (by omega) o2
  rw [show H.order.getD j 0 - 1 + 1 = H.order.getD j 0 from by omega] at hI
  refine Calls.mono (object_ok (H.order.getD j 0) _ a l H V (h.keep hV (by simp)) hI hb) ?_
  rintro e w' ⟨v, rfl, h1, h2⟩
  exact ⟨_, rfl, ⟨H.order.getD j 0, _, _, _, v⟩, rfl, rfl, h1, h2⟩
 have c0 := (World.cell?_alloc_lt w (.cells #[.int .i64 0, .int .i64 0, .int .i64 0, .slice none 0 0] 38) ⟨a, 0, none⟩ hal).trans h.c0
 have HM := mkHid (made_any a _ c0)
 have c1 := h.c1
 have c2 := h.c2
 have c3 := h.c3
 clear h
 go_enter Tryd.func23, Tryd.ntmps23
 go_wp2_with (go_at_call 44; refine Calls.mono HM.out ?_; rintro e w' ⟨rfl, hw'⟩; rw [hw']; clear hw' w')
 obtain ⟨W0, hW0⟩ : ∃ W0, W0 = w.alloc (.cells #[.int .i64 0, .int .i64 0, .int .i64 0, .slice none 0 0] 38) := ⟨_, rfl⟩
 rw [← hW0]
 have F0 : Fr [] w W0 := by rw [hW0]; exact Fr.alloc [] _ _
 have hB0 : W0.heap[w.heap.size]? = some (.cells #[.int .i64 0, .int .i64 0, .int .i64 0, .slice none 0 0] 38 (0, 0)) := by rw [hW0]; exact heap_alloc_new _ _
 have hz0 : W0.heap.size = w.heap.size + 1 := by rw [hW0]; simp
 have d1 := (F0.cell (p := ⟨a, 1, none⟩) hal (by simp)).trans c1
 have d2 := (F0.cell (p := ⟨a, 2, none⟩) hal (by simp)).trans c2
 have d3 := (F0.cell (p := ⟨a, 3, none⟩) hal (by simp)).trans c3
 have ha0 : a < W0.heap.size := by omega
 clear hW0 c0 c1 c2 c3 HM
 have HF0 := mkHid F0
 have HB0 := mkHid hB0
 have HS1 : Hid (∀ V, Eqw (W0.alloc (.cells #[.int .i64 (H.words : Int), .int .i64 (H.oops : Int), .int .i64 (H.mark : Int), .slice none 0 0] 38)) V → St2 w V (w.heap.size + 1) H.words H.oops H.mark []) := by
  intro V hV
  refine ⟨(HF0.out.trans (Fr.alloc [] _ _) (by simp)).trans (hV.fr []) (by simp), by omega, ?_, .slice none 0 0, [], ?_, ⟨World.ownsRow_nil _ _ _ _, fun o ho => by simp at ho⟩, rfl, List.Pairwise.nil⟩
  ·rw [hV.2.2.2, Below.heap_alloc _ _ _ (by omega)]; exact HB0.out
  ·have := heap_alloc_new W0 (.cells #[.int .i64 (H.words : Int), .int .i64 (H.oops : Int), .int .i64 (H.mark : Int), .slice none 0 0] 38); rw [hz0] at this; rw [hV.2.2.2]; exact this
 clear F0 hB0
 go_wp2_with fail
 go_region
 all_goals go_wp2_with fail
 have HS2 := mkHid (HS1.out _ (eqw_drew _))
 have hVs : ((W0.alloc (.cells #[.int .i64 (H.words : Int), .int .i64 (H.oops : Int), .int .i64 (H.mark : Int), .slice none 0 0] 38)).drew).heap.size = (w.heap.size + 1) + 1 := by simp [hz0]
 have e3 : ((W0.alloc (.cells #[.int .i64 (H.words : Int), .int .i64 (H.oops : Int), .int .i64 (H.mark : Int), .slice none 0 0] 38)).drew).heap[(w.heap.size + 1)]? = some (.cells #[.int .i64 (H.words : Int), .int .i64 (H.oops : Int), .int .i64 (H.mark : Int), .slice none 0 0] 38 (0, 0)) := by have := heap_alloc_new W0 (.cells #[.int .i64 (H.words : Int), .int .i64 (H.oops : Int), .int .i64 (H.mark : Int), .slice none 0 0] 38); rw [hz0] at this; exact this
 generalize (W0.alloc (.cells #[.int .i64 (H.words : Int), .int .i64 (H.oops : Int), .int .i64 (H.mark : Int), .slice none 0 0] 38)).drew = V0 at *
 have hR0 := HR.out V0 HS2.out.fr
 have c9 := hR0.c9
 have e4 : V0.cell? ⟨(w.heap.size + 1), 3, none⟩ = some (.slice none 0 0) := by rw [cell_in e3]; rfl
 have HG : Hid (Calls Tryd.prog 61 #[.slice none 0 0, .int .i64 (H.count : Int)] V0.drew fun e w' => ∃ v, e = .returned v ∧ ((∃ p c, v = .slice p 0 c) ∧ w'.ownsRow ((w.heap.size + 1) + 1) 106 4 v 0 [] ∧ Hid (Fr [] V0 w'))) := by
  refine Calls.mono (grow61 H.count (by omega) V0.drew) ?_
  rintro e w' ⟨v, rfl, h1, h2⟩
  refine ⟨v, rfl, ?_, ?_, (Fr.drew [] _).trans h2 (by simp)⟩
  ·rcases h1.2 with ⟨q1, q2⟩ | ⟨g, cap, cur, q1, _⟩
   ·exact ⟨none, 0, q1⟩
   ·exact ⟨_, cap, q1⟩
  ·rw [← hVs]; exact h1
 have HN : Hid (∀ V p c w4, Hid (Fr [] V0 w4) → w4.ownsRow ((w.heap.size + 1) + 1) 106 4 (.slice p 0 c) 0 [] → Eqw (w4.setCell ⟨(w.heap.size + 1), 3, none⟩ (.slice p 0 c)) V → St2 w V (w.heap.size + 1) H.words H.oops H.mark []) := by
  intro V p c w4 hf ho hV
  have hS := HS2.out.idle hf.out
  have hb4 := (hf.out.block _ (lt_of_heap e3) (by simp)).trans e3
  have hne : ∀ i, i ≠ (w.heap.size + 1) → V.heap[i]? = w4.heap[i]? := fun i hi => by rw [hV.2.2.2, set_else hi]
  refine ⟨(hS.fr.trans (Fr.setCell (S := [(w.heap.size + 1)]) _ _ _ (by simp)) (fun b hb => by simp at hb; subst hb; right; omega)).trans (hV.fr []) (by simp), hS.lo, (hne _ (by omega)).trans hS.res, .slice p 0 c, [], ?_, ⟨?_, fun o ho => by simp at ho⟩, rfl, List.Pairwise.nil⟩
  ·rw [hV.2.2.2, set_in hb4]; rfl
  ·exact own_congr ho fun g hg => hne g (by have := (ho.lt g hg).1; omega)
 have HFz : Hid (∀ w4, Hid (Fr [] V0 w4) → w4.frozen? ⟨(w.heap.size + 1), 3, none⟩ = false ∧ w4.cell? ⟨(w.heap.size + 1), 3, none⟩ = some (.slice none 0 0)) := by
  intro w4 hf
  have hb4 := (hf.out.block _ (lt_of_heap e3) (by simp)).trans e3
  exact ⟨frozen_in hb4 3, by rw [cell_in hb4]; rfl⟩
 clear hR0 e3 HS1 d1 d2 d3
 go_cut [] (fun V => Hid (St2 w V (w.heap.size + 1) H.words H.oops H.mark []))
 case first =>
  go_region_law
   (refine step_call rfl 61 Tryd.f61 Tryd.func61 (by kernel_rfl) (by kernel_rfl) _ _ rfl _ (by simp [Act.eval]) _ HG.out ?_; rintro _ w4 ⟨⟨p4, c4, rfl⟩, ho4, hf4⟩; obtain ⟨z1, z2⟩ := HFz.out w4 hf4)
  all_goals go_wp2_with fail
  all_goals
   go_meet
   case rel => exact HN.out _ p4 c4 w4 hf4 ho4 ⟨rfl, rfl, rfl, rfl⟩
 case rest =>
  have HC := hcut
  clear hcut HN HFz HG e4 c9 hVs HS2
  have hRc := HR.out wc HC.out.fr
  have c6 := hRc.c6
  clear hRc
  obtain ⟨k0, ki, kz0, kz1, kz2⟩ := info_parts info106
  go_wp2_with fail
  go_loopw [37] (fun q wr => ∃ j : Nat, j ≤ H.order.length ∧ q = .int .i64 j ∧ Hid (St2 w wr (w.heap.size + 1) H.words H.oops H.mark (stKeys H M.things j))) (fun q _ => H.order.length - (intOf q).toNat)
  case atStart => exact ⟨0, Nat.zero_le _, rfl, by simpa [stKeys] using HC⟩
  case round =>
   clear c6 HC
   obtain ⟨j, hjn, rfl, hq⟩ := hrel
   have hRr := HR.out wr hq.out.fr
   obtain ⟨ov, ls, hv, hsr, hkk, hap⟩ := hq.out.at_
   by_cases hlt : j < H.order.length
   ·obtain ⟨go, hgo, hco, hfo, hgoa, hgol⟩ := hRr.orderAt j hlt
    have o1 := hco j hlt
    have k1 : (0 : Int) ≤ (j : Int) := by omega
    have k2 : (j : Int) < (H.order.length : Int) := by omega
    rw [hgo]
    by_cases h0 : H.order.getD j 0 = 0
    ·rw [h0] at o1
     have HN : Hid (stKeys H M.things (j + 1) = stKeys H M.things j) := stKeys_zero H M.things j hlt h0
     clear hRr hco hfo hv hsr hkk hap HObj h0 hgo
     go_wp2_with fail
     go_roundw
     case rel => exact ⟨j + 1, by omega, by go_num, by rw [HN.out]; exact hq.out⟩
     case measure => simp [intOf]; omega
    ·have hob2 : ((H.order.getD j 0 : Int) != 0) = true := by rw [bne_iff_ne]; omega
     have hll : ls.length ≤ j := by
      have e1 : ls.length = (stKeys H M.things j).length := by rw [← hkk, List.length_map]
      rw [e1]
      unfold stKeys
      rw [List.length_map]
      exact Nat.le_trans (List.length_filter_le _ _) (by simp; omega)
     have HNk := mkHid (stKeys_one H M.things j _ hlt rfl h0)
     have HSk : Hid (Calls Tryd.prog 62 #[.pointer (some ⟨a, 0, none⟩), .int .i64 (H.order.getD j 0 : Nat)] wr.drew fun e w' => ∃ v, e = .returned v ∧ (∃ (oo : Nat) (oc : Int) (of_ : Nat) (os : List Int) (p : Option Addr) (c : Nat), v = .agg #[.int .i64 (oo : Int), .int .i64 oc, .int .i64 (of_ : Int), .slice p os.length c] ∧ stKeys H M.things (j + 1) = stKeys H M.things j ++ [(oo, oc, of_, os)] ∧ w'.ownsRow (w.heap.size + 2) 33 1 (.slice p os.length c) os.length (os.map (Value.int .i64)) ∧ Hid (Fr [] wr w') ∧ Hid (∀ g, (Value.slice p os.length c).ownBlock = some g → wr.heap.size ≤ g))) := by
      refine Calls.mono (HObj.out wr.drew (hq.out.fr.trans (Fr.drew [] wr) (by simp)) j hlt h0) ?_
      rintro e w' ⟨v, rfl, ⟨oo, oc, of_, os, ov⟩, rfl, hkey, ho, hf⟩
      dsimp only at *
      obtain ⟨p, c, rfl⟩ : ∃ p c, ov = .slice p os.length c := by
       rcases ho.2 with ⟨q1, q2⟩ | ⟨g, cap, cur, q1, _⟩
       ·exact ⟨none, 0, by rw [q1, q2]⟩
       ·exact ⟨_, cap, q1⟩
      refine ⟨_, rfl, oo, oc, of_, os, p, c, rfl, by rw [HNk.out, ← hkey]; rfl, own_base ho ?_, (Fr.drew [] wr).trans hf (by simp), fun g hg => (ho.lt g hg).1⟩
      have := lt_of_heap hv
      show w.heap.size + 2 ≤ wr.heap.size
      omega
     have HBf : Hid (∀ V oo oc of_ p n c, Hid (Fr [] wr V) → w.heap.size + 1 < V.heap.size ∧ V.cell? ⟨w.heap.size + 1, 3, none⟩ = some ov ∧ (V.alloc (.cells #[.int .i64 oo, .int .i64 oc, .int .i64 of_, .slice p n c] 106)).ownsRow (w.heap.size + 1 + 1) 106 4 ov ls.length (osCells ls) ∧ (∀ j u, ([.int .i64 oo, .int .i64 oc, .int .i64 of_, .slice p n c] : List Value)[j]? = some u → (V.alloc (.cells #[.int .i64 oo, .int .i64 oc, .int .i64 of_, .slice p n c] 106)).cell? ((⟨V.heap.size, 0, none⟩ : Addr).add j) = some u)) := by
      intro V oo oc of_ p n c hV
      refine ⟨Nat.lt_of_lt_of_le (lt_of_heap hv) hV.out.size, ?_, (own_congr hsr.row fun g hg => hV.out.block g (hsr.row.lt g hg).2 (by simp)).alloc _, World.news_of_block (heap_alloc_new V (.cells #[.int .i64 oo, .int .i64 oc, .int .i64 of_, .slice p n c] 106))⟩
      rw [cell_in ((hV.out.block _ (lt_of_heap hv) (by simp)).trans hv)]
      rfl
     have HNx : Hid (∀ V (oo : Nat) (oc : Int) (of_ : Nat) (os : List Int) p c g2 cap W2 V2, Hid (∀ g, (Value.slice p os.length c).ownBlock = some g → wr.heap.size ≤ g) → Hid (Fr [] wr V) → stKeys H M.things (j + 1) = stKeys H M.things j ++ [(oo, oc, of_, os)] → V.ownsRow (w.heap.size + 2) 33 1 (.slice p os.length c) os.length (os.map (Value.int .i64)) → (V.alloc (.cells #[.int .i64 (oo : Int), .int .i64 oc, .int .i64 (of_ : Int), .slice p os.length c] 106)).grownBy W2 ov.ownBlock → W2.ownsRow (w.heap.size + 1 + 1) 106 4 (.slice (some ⟨g2, 0, none⟩) (ls.length + 1) cap) (ls.length + 1) (osCells ls ++ [.int .i64 (oo : Int), .int .i64 oc, .int .i64 (of_ : Int), .slice p os.length c]) → Eqw (W2.setCell ⟨w.heap.size + 1, 3, none⟩ (.slice (some ⟨g2, 0, none⟩) (ls.length + 1) cap)) V2 → St2 w V2 (w.heap.size + 1) H.words H.oops H.mark (stKeys H M.things (j + 1))) := by
      intro V oo oc of_ os p c g2 cap W2 V2 hnew hV hk ho hg hown he
      rw [hk]
      exact (hq.out.idle hV.out).next (o := ⟨oo, oc, of_, os, .slice p os.length c⟩) ((hV.out.block _ (lt_of_heap hv) (by simp)).trans hv) (hsr.idle hV.out) hkk hap (fun x hx g hg hm => by have := hnew.out g hm; have := ((hsr.slots x hx).lt g hg).2; omega) ho hg hown he
     have HFz : Hid (∀ V oo oc of_ p n c W2, Hid (Fr [] wr V) → (V.alloc (.cells #[.int .i64 oo, .int .i64 oc, .int .i64 of_, .slice p n c] 106)).grownBy W2 ov.ownBlock → W2.frozen? ⟨w.heap.size + 1, 3, none⟩ = false ∧ W2.cell? ⟨w.heap.size + 1, 3, none⟩ = some ov) := by
      intro V oo oc of_ p n c W2 hV hg
      have h1 : W2.heap[w.heap.size + 1]? = some (.cells #[.int .i64 (H.words : Int), .int .i64 (H.oops : Int), .int .i64 (H.mark : Int), ov] 38 (0, 0)) := by
       rw [hg.block _ (by simp; have := lt_of_heap hv; have := hV.out.size; omega) (fun e => by have := (hsr.row.lt _ e.symm).1; omega), Below.heap_alloc _ _ _ (Nat.lt_of_lt_of_le (lt_of_heap hv) hV.out.size)]
       exact (hV.out.block _ (lt_of_heap hv) (by simp)).trans hv
      exact ⟨frozen_in h1 3, by rw [cell_in h1]; rfl⟩
     have d3 : wr.cell? ⟨w.heap.size + 1, 3, none⟩ = some ov := by rw [cell_in hv]; rfl
     have hBl := lt_of_heap hv
     generalize H.order.getD j 0 = o at *
     clear hRr hco hfo hv hsr hkk hap HObj hgo hq HNk
     go_wp2_with fail
     go_region_law
      (first
       | (refine step_append_lies _ rfl (.tmp 44) (.tmp 48) 36 rfl (w.heap.size + 1 + 1) 106 k0 (.agg #[.int .i64 0, .int .i64 0, .int .i64 0, .slice none 0 0]) 4 48 Tryd.underlying36 ki kz0 kz1 kz2 rfl (by decide) ov ls.length (osCells ls) (by simp [Act.eval]) z3 ⟨w5.heap.size, 0, none⟩ 1 1 [.int .i64 (oo : Int), .int .i64 oc, .int .i64 (of_ : Int), .slice p5 os5.length c5] (by simp [Act.eval]) rfl z4 (by simp [Value.oneCell']) (by decide) (by unfold maxLen; omega) (by omega) (by simp; omega) _ rfl ?_; intro g6 c6 w6 hown6 hgrow6 hat6 hlt6; obtain ⟨y1, y2⟩ := HFz.out w5 oo oc of_ p5 os5.length c5 w6 hf5 hgrow6)
       | (refine step_call rfl 62 Tryd.f62 Tryd.func62 (by kernel_rfl) (by kernel_rfl) _ _ rfl _ (by simp [Act.eval, Act.put]) _ HSk.out ?_; rintro _ w5 ⟨oo, oc, of_, os5, p5, c5, rfl, hk5, ho5, hf5, hn5⟩; obtain ⟨z1, z2, z3, z4⟩ := HBf.out w5 oo oc of_ p5 os5.length c5 hf5))
     all_goals go_wp2_with fail
     all_goals
      go_roundw
      case rel => exact ⟨j + 1, by omega, by go_num, HNx.out w5 oo oc of_ os5 p5 c5 g6 c6 w6 _ hn5 hf5 hk5 ho5 hgrow6 hown6 ⟨rfl, rfl, rfl, rfl⟩⟩
      case measure => simp [intOf]; omega
   ·have hje : j = H.order.length := by omega
    subst hje
    have hB := lt_of_heap hv
    have d0 : wr.cell? ⟨w.heap.size + 1, 0, none⟩ = some (.int .i64 (H.words : Int)) := by rw [cell_in hv]; rfl
    have d1 : wr.cell? ⟨w.heap.size + 1, 1, none⟩ = some (.int .i64 (H.oops : Int)) := by rw [cell_in hv]; rfl
    have d2 : wr.cell? ⟨w.heap.size + 1, 2, none⟩ = some (.int .i64 (H.mark : Int)) := by rw [cell_in hv]; rfl
    have d3 : wr.cell? ⟨w.heap.size + 1, 3, none⟩ = some ov := by rw [cell_in hv]; rfl
    have hr := hq.out.res
    have r0 : wr.cell? ⟨w.heap.size, 0, none⟩ = some (.int .i64 0) := by rw [cell_in hr]; rfl
    have r1 : wr.cell? ⟨w.heap.size, 1, none⟩ = some (.int .i64 0) := by rw [cell_in hr]; rfl
    have r2 : wr.cell? ⟨w.heap.size, 2, none⟩ = some (.int .i64 0) := by rw [cell_in hr]; rfl
    have r3 : wr.cell? ⟨w.heap.size, 3, none⟩ = some (.slice none 0 0) := by rw [cell_in hr]; rfl
    have y0 := frozen_in hr 0
    have y1 := frozen_in hr 1
    have y2 := frozen_in hr 2
    have y3 := frozen_in hr 3
    obtain ⟨pv, cv, rfl⟩ : ∃ p c, ov = .slice p ls.length c := by
     rcases hsr.row.2 with ⟨h2, h3⟩ | ⟨g, cap, cur, h2, _⟩
     ·exact ⟨none, 0, by rw [h2, h3]⟩
     ·exact ⟨_, cap, h2⟩
    have HE : Hid (∀ V, Fr [w.heap.size] wr V → SRep V w.heap.size (.slice pv ls.length cv) ls ∧ ls.map osKey = stKeys H M.things H.order.length ∧ Fr [] w V) := by
     intro V hV
     refine ⟨⟨own_base (own_congr hsr.row fun g hg => hV.block g (hsr.row.lt g hg).2 (by have := (hsr.row.lt g hg).1; simp; omega)) (by omega), fun o ho => own_base (own_congr (hsr.slots o ho) fun g hg => hV.block g ((hsr.slots o ho).lt g hg).2 (by have := ((hsr.slots o ho).lt g hg).1; simp; omega)) (by omega)⟩, hkk, hq.out.fr.trans hV (fun b hb => by simp at hb; subst hb; right; exact Nat.le_refl _)⟩
    have HRes := mkHid hr
    have HAp := mkHid hap
    generalize hln : ls.length = ln at *
    clear hq hv hsr hkk hap hr hRr HObj
    go_wp2_with fail
    obtain ⟨V, hV⟩ : ∃ V, V = (((wr.setCell ⟨w.heap.size, 0, none⟩ (.int .i64 (H.words : Int))).setCell ⟨w.heap.size, 1, none⟩ (.int .i64 (H.oops : Int))).setCell ⟨w.heap.size, 2, none⟩ (.int .i64 (H.mark : Int))).setCell ⟨w.heap.size, 3, none⟩ (.slice pv ln cv) := ⟨_, rfl⟩
    have hVb : V.heap[w.heap.size]? = some (.cells #[.int .i64 (H.words : Int), .int .i64 (H.oops : Int), .int .i64 (H.mark : Int), .slice pv ln cv] 38 (0, 0)) := by
     rw [hV, set_in (set_in (set_in (set_in HRes.out 0 _) 1 _) 2 _) 3 _]
     rfl
    have F : Fr [w.heap.size] wr V := by
     rw [hV]
     exact (((Fr.setCell (S := [w.heap.size]) wr ⟨w.heap.size, 0, none⟩ (.int .i64 (H.words : Int)) (by simp)).trans (Fr.setCell (S := [w.heap.size]) _ ⟨w.heap.size, 1, none⟩ (.int .i64 (H.oops : Int)) (by simp)) (fun b hb => .inl hb)).trans (Fr.setCell (S := [w.heap.size]) _ ⟨w.heap.size, 2, none⟩ (.int .i64 (H.mark : Int)) (by simp)) (fun b hb => .inl hb)).trans (Fr.setCell (S := [w.heap.size]) _ ⟨w.heap.size, 3, none⟩ (.slice pv ln cv) (by simp)) (fun b hb => .inl hb)
    rw [← hV]
    clear hV
    have x0 : V.cell? ⟨w.heap.size, 0, none⟩ = some (.int .i64 (H.words : Int)) := by rw [cell_in hVb]; rfl
    have x1 : V.cell? ⟨w.heap.size, 1, none⟩ = some (.int .i64 (H.oops : Int)) := by rw [cell_in hVb]; rfl
    have x2 : V.cell? ⟨w.heap.size, 2, none⟩ = some (.int .i64 (H.mark : Int)) := by rw [cell_in hVb]; rfl
    have x3 : V.cell? ⟨w.heap.size, 3, none⟩ = some (.slice pv ln cv) := by rw [cell_in hVb]; rfl
    refine bodyPost_ret (v := .agg #[.int .i64 (H.words : Int), .int .i64 (H.oops : Int), .int .i64 (H.mark : Int), .slice pv ln cv]) (by simp [results, Tryd.results23, go_sem, x0, x1, x2, x3]) rfl ?_
    obtain ⟨h5, h6, h7⟩ := HE.out V F
    exact ⟨_, ls, rfl, h5, h6, h7, HAp.out⟩
end Go.Proofs.YtklfnjlenbgmoaaDoor
