import Derived.Test.YtklfnjlenbgmoaaDoorPG28HLast
import Derived.BigQuiet
set_option linter.unusedSimpArgs false
set_option linter.unusedVariables false
namespace Go.Proofs.YtklfnjlenbgmoaaDoor
open Go.RowKit
attribute [local go_sem ↓] Go.wp_at_zero Go.wp_at_succ
def roNat (o : RO) : Nat × Int × Nat × List Int := (o.oop, o.cls, o.fmt, o.slots)
set_option maxRecDepth 20000 in
set_option maxHeartbeats 2000000 in
theorem rState_ok (B r : Nat) (R : RS) (w : World) (h : RRep w B r R) (ho : ROk R) :
  Calls Tryd.prog 24 #[.pointer (some ⟨r, 0, none⟩)] w fun e w' => ∃ ov ls, e = .returned (.agg #[.int .i64 R.words, .int .i64 R.oops, .int .i64 R.mark, ov]) ∧ SRep w' w.heap.size ov ls ∧ ls.map osKey = R.objs.map roNat ∧ Fr [] w w' := by
 have hrl := lt_of_heap h.top
 obtain ⟨p, c, hov⟩ := h.ovIs
 have hl := ho.len
 have c0 : w.cell? ⟨r, 0, none⟩ = some (.int .i64 (R.words : Int)) := by rw [h.c]; rfl
 have c1 : w.cell? ⟨r, 1, none⟩ = some (.int .i64 (R.oops : Int)) := by rw [h.c]; rfl
 have c2 : w.cell? ⟨r, 2, none⟩ = some (.int .i64 (R.mark : Int)) := by rw [h.c]; rfl
 have HR := mkHid h
 have HO := mkHid ho
 clear h ho
 go_enter Tryd.func24, Tryd.ntmps24
 go_wp2_with fail
 obtain ⟨W0, hW0⟩ : ∃ W0, W0 = w.alloc (.cells #[.int .i64 0, .int .i64 0, .int .i64 0, .slice none 0 0] 38) := ⟨_, rfl⟩
 rw [← hW0]
 have F0 : Fr [] w W0 := by rw [hW0]; exact Fr.alloc [] _ _
 have hB0 : W0.heap[w.heap.size]? = some (.cells #[.int .i64 0, .int .i64 0, .int .i64 0, .slice none 0 0] 38 (0, 0)) := by rw [hW0]; exact heap_alloc_new _ _
 have hz0 : W0.heap.size = w.heap.size + 1 := by rw [hW0]; simp
 have d0 := (F0.cell (p := ⟨r, 0, none⟩) hrl (by simp)).trans c0
 have d1 := (F0.cell (p := ⟨r, 1, none⟩) hrl (by simp)).trans c1
 have d2 := (F0.cell (p := ⟨r, 2, none⟩) hrl (by simp)).trans c2
 have hr0 : r < W0.heap.size := by omega
 clear hW0 c0 c1 c2
 have HF0 := mkHid F0
 have HB0 := mkHid hB0
 have HS1 : Hid (∀ V, Eqw (W0.alloc (.cells #[.int .i64 (R.words : Int), .int .i64 (R.oops : Int), .int .i64 (R.mark : Int), .slice none 0 0] 38)) V → St1 w V (w.heap.size + 1) R.words R.oops R.mark []) := by
  intro V hV
  refine ⟨(HF0.out.trans (Fr.alloc [] _ _) (by simp)).trans (hV.fr []) (by simp), by omega, ?_, .slice none 0 0, [], ?_, ⟨World.ownsRow_nil _ _ _ _, fun o ho => by simp at ho⟩, rfl⟩
  ·rw [hV.2.2.2, Below.heap_alloc _ _ _ (by omega)]; exact HB0.out
  ·have := heap_alloc_new W0 (.cells #[.int .i64 (R.words : Int), .int .i64 (R.oops : Int), .int .i64 (R.mark : Int), .slice none 0 0] 38); rw [hz0] at this; rw [hV.2.2.2]; exact this
 clear F0 hB0
 go_region
 all_goals go_wp2_with fail
 have HS2 := mkHid (HS1.out _ (eqw_drew _))
 generalize (W0.alloc (.cells #[.int .i64 (R.words : Int), .int .i64 (R.oops : Int), .int .i64 (R.mark : Int), .slice none 0 0] 38)).drew = V0 at *
 clear HS1 d0 d1 d2
 obtain ⟨k0, ki, kz0, kz1, kz2⟩ := info_parts info106
 go_loopw [4] (fun q wr => ∃ j : Nat, j ≤ R.objs.length ∧ q = .int .i64 j ∧ Hid (St1 w wr (w.heap.size + 1) R.words R.oops R.mark ((R.objs.take j).map roNat))) (fun q _ => R.objs.length - (intOf q).toNat)
 case atStart => exact ⟨0, Nat.zero_le _, rfl, by simpa using HS2⟩
 case round =>
  obtain ⟨j, hjn, rfl, hq⟩ := hrel
  have hRr := HR.out.idle hq.out.fr
  obtain ⟨ov, ls, hv, hsr, hkk⟩ := hq.out.at_
  have c5 : wr.cell? ⟨r, 5, none⟩ = some (.slice p R.objs.length c) := by rw [hRr.c, ← hov]; rfl
  have k1 : (0 : Int) ≤ (j : Int) := by omega
  by_cases hlt : j < R.objs.length
  ·have k2 : (j : Int) < (R.objs.length : Int) := by omega
   obtain ⟨g, c', hv1, hc⟩ := hRr.at_ (by omega)
   rw [hov] at hv1
   injection hv1 with e1 e2 e3
   subst e1
   obtain ⟨q0, q1, q2, q3, q4, q5⟩ := hc j hlt
   obtain ⟨p5, c5', hv5⟩ := hRr.vIs j hlt
   rw [hv5] at q5
   have hgl : g < wr.heap.size := World.block_lt_of_cell? wr _ q0
   have hrl2 : r < wr.heap.size := lt_of_heap hRr.top
   have hom : R.objs.getD j noRO ∈ R.objs := by rw [List.getD_eq_getElem?_getD, List.getElem?_eq_getElem hlt]; exact List.getElem_mem hlt
   have hsl := hRr.slots _ hom
   have hslen := (HO.out.place _ hom).2
   have hkey : Hid ((R.objs.take (j + 1)).map roNat = (R.objs.take j).map roNat ++ [roNat (R.objs.getD j noRO)]) := by
    rw [Hid, List.take_succ_eq_append_getElem hlt, List.map_append, List.getD_eq_getElem?_getD, List.getElem?_eq_getElem hlt]
    rfl
   simp only [I] at q0 q1 q2 q3
   rw [hv5] at hsl
   generalize R.objs.getD j noRO = o at *
   obtain ⟨oo, of_, opl, obn, oc, os, oov⟩ := o
   dsimp only at *
   subst hv5
   have hrd := own_rd hsl (by omega)
   have HRd := mkHid hrd
   have HQ := mkHid (And.intro hv (And.intro hsr hkk))
   have hlB := lt_of_heap hv
   clear hc hsl hRr hv hsr hkk hrd
   have hV5s : Hid (Fr [] wr (wr.alloc (.cells #[.int .i64 (oo : Int), .int .i64 (of_ : Int), .int .i64 (opl : Int), .int .i64 (obn : Int), .int .i64 oc, .slice p5 os.length c5'] 114))) := Fr.alloc [] _ _
   have hbX5 : (wr.alloc (.cells #[.int .i64 (oo : Int), .int .i64 (of_ : Int), .int .i64 (opl : Int), .int .i64 (obn : Int), .int .i64 oc, .slice p5 os.length c5'] 114)).heap[wr.heap.size]? = some (.cells #[.int .i64 (oo : Int), .int .i64 (of_ : Int), .int .i64 (opl : Int), .int .i64 (obn : Int), .int .i64 oc, .slice p5 os.length c5'] 114 (0, 0)) := heap_alloc_new _ _
   go_wp2_with fail
   generalize wr.alloc (.cells #[.int .i64 (oo : Int), .int .i64 (of_ : Int), .int .i64 (opl : Int), .int .i64 (obn : Int), .int .i64 oc, .slice p5 os.length c5'] 114) = V5 at *
   generalize hX : wr.heap.size = X at *
   obtain ⟨pv, cv, hovv, -⟩ := HQ.out.2.1.at
   subst hovv
   have hbB5 := (hV5s.out.block _ (lt_of_heap HQ.out.1) (by simp)).trans HQ.out.1
   have hsr5 := HQ.out.2.1.idle hV5s.out
   have hll : ls.length ≤ 1048576 := by have := congrArg List.length HQ.out.2.2; simp at this; omega
   have hlX := lt_of_heap hbX5
   have hlr := lt_of_heap hbB5
   have HKS : Hid (∀ W : World, Hid (∀ b, b = X ∨ b = w.heap.size + 1 → W.heap[b]? = V5.heap[b]?) → W.cell? ⟨X, 0, none⟩ = some (.int .i64 (oo : Int)) ∧ W.cell? ⟨X, 1, none⟩ = some (.int .i64 (of_ : Int)) ∧ W.cell? ⟨X, 4, none⟩ = some (.int .i64 oc) ∧ W.cell? ⟨X, 5, none⟩ = some (.slice p5 os.length c5') ∧ W.cell? ⟨w.heap.size + 1, 3, none⟩ = some (.slice pv ls.length cv) ∧ W.frozen? ⟨w.heap.size + 1, 3, none⟩ = false) := by
    intro W hW
    have x1 := (hW.out X (.inl rfl)).trans hbX5
    have x2 := (hW.out (w.heap.size + 1) (.inr rfl)).trans hbB5
    exact ⟨by rw [cell_in x1]; rfl, by rw [cell_in x1]; rfl, by rw [cell_in x1]; rfl, by rw [cell_in x1]; rfl, by rw [cell_in x2]; rfl, frozen_in x2 3⟩
   have HCp : Hid (∃ p6 c6 w6, (Builtin.append_ #[80, 80] 80 #[.slice none 0 0, .slice p5 os.length c5']).run Tryd.prog V5.drew = .ok (.slice p6 os.length c6) w6 ∧ Hid (w6.ownsRow V5.heap.size 33 1 (.slice p6 os.length c6) os.length (os.map (Value.int .i64)) ∧ Fr [] V5 w6)) := by
    obtain ⟨v6, w6, r1, r2, r3⟩ := run_copy os (.slice p5 os.length c5') V5.drew (HRd.out.idle (hV5s.out.trans (Fr.drew [] _) (by simp)))
    obtain ⟨p6, c6, e6, _⟩ := own_slot r2
    subst e6
    exact ⟨p6, c6, w6, r1, r2, (Fr.drew [] _).trans r3 (by simp)⟩
   have HRow : Hid (∀ (w6 : World) (ob : Obj), Fr [] V5 w6 → (w6.alloc ob).ownsRow (w.heap.size + 1 + 1) 106 4 (.slice pv ls.length cv) ls.length (osCells ls)) := fun w6 ob h6 => (own_congr hsr5.row fun g hg => h6.block g (hsr5.row.lt g hg).2 (by simp)).alloc _
   have HK0 : Hid (∀ b, b = X ∨ b = w.heap.size + 1 → V5.drew.heap[b]? = V5.heap[b]?) := fun b _ => rfl
   have HK6 : Hid (∀ (w6 : World), Fr [] V5 w6 → Hid (∀ b, b = X ∨ b = w.heap.size + 1 → w6.heap[b]? = V5.heap[b]?)) := fun w6 h6 b hb => h6.block b (by rcases hb with e | e <;> rw [e] <;> assumption) (by simp)
   have HKa : Hid (∀ (w6 : World) (ob : Obj), Fr [] V5 w6 → Hid (∀ b, b = X ∨ b = w.heap.size + 1 → (w6.alloc ob).heap[b]? = V5.heap[b]?)) := fun w6 ob h6 b hb => (h6.trans (Fr.alloc [] _ _) (by simp)).block b (by rcases hb with e | e <;> rw [e] <;> assumption) (by simp)
   have HK7 : Hid (∀ (w6 : World) (ob : Obj) (w7 : World), Fr [] V5 w6 → (w6.alloc ob).grownBy w7 (Value.slice pv ls.length cv).ownBlock → Hid (∀ b, b = X ∨ b = w.heap.size + 1 → w7.heap[b]? = V5.heap[b]?)) := by
    intro w6 ob w7 h6 hg b hb
    have h56 := h6.trans (Fr.alloc [] w6 ob) (by simp)
    have hbl : b < V5.heap.size := by rcases hb with e | e <;> rw [e] <;> assumption
    have := h56.size
    rw [hg.block b (by omega) (fun e => by
     rcases hb with e2 | e2
     ·rcases hsr5.row.2 with ⟨q1, _⟩ | ⟨g1, cap1, cur1, q1, q2, q3, _⟩
      ·rw [q1] at e; simp [Value.ownBlock] at e
      ·rw [q1] at e
       have a1 : g1 = b := by simpa [Value.ownBlock] using e.symm
       rw [a1, e2, hbX5] at q3
       simp at q3
     ·have := (hsr5.row.lt b e.symm).1
      omega)]
    exact h56.block b hbl (by simp)
   have HNx : Hid (∀ (w6 : World) (p6 : Option Addr) (c6 g7 c7 : Nat) (w7 : World), (w6.ownsRow V5.heap.size 33 1 (.slice p6 os.length c6) os.length (os.map (Value.int .i64)) ∧ Fr [] V5 w6) → (w6.alloc (.cells #[.int .i64 (oo : Int), .int .i64 oc, .int .i64 (of_ : Int), .slice p6 os.length c6] 106)).grownBy w7 (Value.slice pv ls.length cv).ownBlock → w7.ownsRow (w.heap.size + 1 + 1) 106 4 (.slice (some ⟨g7, 0, none⟩) (ls.length + 1) c7) (ls.length + 1) (osCells ls ++ [.int .i64 (oo : Int), .int .i64 oc, .int .i64 (of_ : Int), .slice p6 os.length c6]) → St1 w (w7.setCell ⟨w.heap.size + 1, 3, none⟩ (.slice (some ⟨g7, 0, none⟩) (ls.length + 1) c7)) (w.heap.size + 1) R.words R.oops R.mark ((R.objs.take (j + 1)).map roNat)) := by
    intro w6 p6 c6 g7 c7 w7 h6 hg hown
    have h56 := hV5s.out.trans h6.2 (by simp)
    rw [hkey.out]
    exact (hq.out.idle h56).next (o := ⟨oo, oc, of_, os, .slice p6 os.length c6⟩) ((h56.block _ (lt_of_heap HQ.out.1) (by simp)).trans HQ.out.1) (HQ.out.2.1.idle h56) HQ.out.2.2 (own_base h6.1 (by omega)) hg hown ⟨rfl, rfl, rfl, rfl⟩
   clear q0 q1 q2 q3 q4 q5
   refine wp_region_last (L := 15) (S := fun w' => w'.cell? ⟨X, 0, none⟩ = some (.int .i64 (oo : Int)) ∧ w'.cell? ⟨X, 1, none⟩ = some (.int .i64 (of_ : Int)) ∧ w'.cell? ⟨X, 4, none⟩ = some (.int .i64 oc) ∧ w'.cell? ⟨X, 5, none⟩ = some (.slice p5 os.length c5') ∧ w'.cell? ⟨w.heap.size + 1, 3, none⟩ = some (.slice pv ls.length cv) ∧ w'.frozen? ⟨w.heap.size + 1, 3, none⟩ = false) (by kernel_rfl) (HKS.out _ HK0.out) (fun hHeld => ?_)
   refine wpLast_take (i := 0) (v := ?_) rfl (by kernel_rfl) (by kernel_rfl) (by kernel_rfl) (by decide) (by kernel_rfl) (fun _ _ _ h => h) (Or.inl ⟨by rfl, ?_⟩) (by assumption) ?_
   rotate_left
   ·(intro w hSw; (try dsimp only at hSw); first | (go_simp; done) | (go_simp; with_reducible rfl))
   try simp only [Act.put, qT, qZ, qS, qB, qY, qX]
   refine wpLast_take (i := 1) (v := ?_) rfl (by kernel_rfl) (by kernel_rfl) (by kernel_rfl) (by decide) (by kernel_rfl) (fun _ _ _ h => h) (Or.inl ⟨by rfl, ?_⟩) (by assumption) ?_
   rotate_left
   ·(intro w hSw; (try dsimp only at hSw); first | (go_simp; done) | (go_simp; with_reducible rfl))
   try simp only [Act.put, qT, qZ, qS, qB, qY, qX]
   refine wpLast_take (i := 2) (v := ?_) rfl (by kernel_rfl) (by kernel_rfl) (by kernel_rfl) (by decide) (by kernel_rfl) (fun _ _ _ h => h) (Or.inl ⟨by rfl, ?_⟩) (by assumption) ?_
   rotate_left
   ·(intro w hSw; (try dsimp only at hSw); first | (go_simp; done) | (go_simp; with_reducible rfl))
   try simp only [Act.put, qT, qZ, qS, qB, qY, qX]
   refine wpLast_take (i := 3) (v := ?_) rfl (by kernel_rfl) (by kernel_rfl) (by kernel_rfl) (by decide) (by kernel_rfl) (fun _ _ _ h => h) (Or.inl ⟨by rfl, ?_⟩) (by assumption) ?_
   rotate_left
   ·(intro w hSw; (try dsimp only at hSw); first | (go_simp; done) | (go_simp; with_reducible rfl))
   try simp only [Act.put, qT, qZ, qS, qB, qY, qX]
   refine wpLast_take (i := 4) (v := ?_) rfl (by kernel_rfl) (by kernel_rfl) (by kernel_rfl) (by decide) (by kernel_rfl) (fun _ _ _ h => h) (Or.inl ⟨by rfl, ?_⟩) (by assumption) ?_
   rotate_left
   ·(intro w hSw; (try dsimp only at hSw); first | (go_simp; done) | (go_simp; with_reducible rfl))
   try simp only [Act.put, qT, qZ, qS, qB, qY, qX]
   refine wpLast_take (i := 5) (v := ?_) rfl (by kernel_rfl) (by kernel_rfl) (by kernel_rfl) (by decide) (by kernel_rfl) (fun _ _ _ h => h) (Or.inl ⟨by rfl, ?_⟩) (by assumption) ?_
   rotate_left
   ·(intro w hSw; (try dsimp only at hSw); first | (go_simp; done) | (go_simp; with_reducible rfl))
   try simp only [Act.put, qT, qZ, qS, qB, qY, qX]
   refine wpLast_take (i := 6) (v := ?_) rfl (by kernel_rfl) (by kernel_rfl) (by kernel_rfl) (by decide) (by kernel_rfl) (fun _ _ _ h => h) (Or.inl ⟨by rfl, ?_⟩) (by assumption) ?_
   rotate_left
   ·(intro w hSw; (try dsimp only at hSw); first | (go_simp; done) | (go_simp; with_reducible rfl))
   try simp only [Act.put, qT, qZ, qS, qB, qY, qX]
   refine wpLast_take (i := 7) (v := ?_) rfl (by kernel_rfl) (by kernel_rfl) (by kernel_rfl) (by decide) (by kernel_rfl) (fun _ _ _ h => h) (Or.inl ⟨by rfl, ?_⟩) (by assumption) ?_
   rotate_left
   ·(intro w hSw; (try dsimp only at hSw); first | (go_simp; done) | (go_simp; with_reducible rfl))
   try simp only [Act.put, qT, qZ, qS, qB, qY, qX]
   refine wpLast_take (i := 8) (v := ?_) rfl (by kernel_rfl) (by kernel_rfl) (by kernel_rfl) (by decide) (by kernel_rfl) (fun _ _ _ h => h) (Or.inl ⟨by rfl, ?_⟩) (by assumption) ?_
   rotate_left
   ·(intro w hSw; (try dsimp only at hSw); first | (go_simp; done) | (go_simp; with_reducible rfl))
   try simp only [Act.put, qT, qZ, qS, qB, qY, qX]
   refine wpLast_take (i := 9) (v := ?_) rfl (by kernel_rfl) (by kernel_rfl) (by kernel_rfl) (by decide) (by kernel_rfl) (fun _ _ _ h => h) (Or.inl ⟨by rfl, ?_⟩) (by assumption) ?_
   rotate_left
   ·(intro w hSw; (try dsimp only at hSw); first | (go_simp; done) | (go_simp; with_reducible rfl))
   try simp only [Act.put, qT, qZ, qS, qB, qY, qX]
   refine wpLast_one (i := 10) (by kernel_rfl) rfl (by decide) (fun K hK => ?_)
   obtain ⟨p6, c6, w6, hr6, hf6⟩ := HCp.out
   refine step_append_run rfl (.const (.slice none 0 0)) (.tmp 47) 80 80 rfl (.slice none 0 0) (.slice p5 os.length c5') rfl (by simp [Act.eval, Act.put]) _ _ hr6 ?_
   refine hK.out _ _ (HKS.out _ (HK6.out w6 hf6.out.2)) (fun hHeld => ?_)
   clear hK K
   try simp only [Act.put, qT, qZ, qS, qB, qY, qX]
   refine wpLast_take (i := 11) (v := ?_) rfl (by kernel_rfl) (by kernel_rfl) (by kernel_rfl) (by decide) (by kernel_rfl) (fun _ _ _ h => h) (Or.inl ⟨by rfl, ?_⟩) (by assumption) ?_
   rotate_left
   ·(intro w hSw; (try dsimp only at hSw); first | (go_simp; done) | (go_simp; with_reducible rfl))
   try simp only [Act.put, qT, qZ, qS, qB, qY, qX]
   refine wpLast_one (i := 12) (by kernel_rfl) rfl (by decide) (fun K hK => ?_)
   go_simp
   refine hK.out _ _ (HKS.out _ (HKa.out w6 _ hf6.out.2)) (fun hHeld => ?_)
   clear hK K
   try simp only [Act.put, qT, qZ, qS, qB, qY, qX]
   refine wpLast_one (i := 13) (by kernel_rfl) rfl (by decide) (fun K hK => ?_)
   refine step_append_lies _ rfl (.tmp 39) (.tmp 50) 36 rfl (w.heap.size + 1 + 1) 106 k0 (.agg #[.int .i64 0, .int .i64 0, .int .i64 0, .slice none 0 0]) 4 48 Tryd.underlying36 ki kz0 kz1 kz2 rfl (by decide) (.slice pv ls.length cv) ls.length (osCells ls) (by simp [Act.eval]) (HRow.out w6 _ hf6.out.2) ⟨w6.heap.size, 0, none⟩ 1 1 [.int .i64 (oo : Int), .int .i64 oc, .int .i64 (of_ : Int), .slice p6 os.length c6] (by simp [Act.eval]) rfl (World.news_of_block (heap_alloc_new w6 _)) (by simp [Value.oneCell']) (by decide) (by unfold maxLen; omega) (by omega) (by have := hf6.out.2.size; simp; omega) (w6.heap.size + 1) (by simp) ?_
   intro g7 c7 w7 hown7 hgrow7 hat7 hlt7
   refine hK.out _ _ (HKS.out _ (HK7.out w6 _ w7 hf6.out.2 hgrow7)) (fun hHeld => ?_)
   clear hK K
   try simp only [Act.put, qT, qZ, qS, qB, qY, qX]
   refine wpLast_one (i := 14) (by kernel_rfl) rfl (by decide) (fun K hK => ?_)
   go_simp
   refine hK.out _ _ (HKS.out _ (HK7.out w6 _ w7 hf6.out.2 hgrow7)) (fun hHeld => ?_)
   clear hK K
   try simp only [Act.put, qT, qZ, qS, qB, qY, qX]
   refine wpLast_end (by kernel_rfl) rfl (by kernel_rfl) (fun K hK => ?_)
   go_simp
   refine hK.out _ _ ?_
   clear hK K
   try simp only [Act.put, qT, qZ, qS, qB, qY, qX]
   have hS7 := HKS.out w7 (HK7.out w6 _ w7 hf6.out.2 hgrow7)
   obtain ⟨-, -, -, -, d3, f3⟩ := hS7
   have HNx2 := mkHid (HNx.out w6 p6 c6 g7 c7 w7 hf6.out hgrow7 hown7)
   go_wp2_with fail
   go_roundw
   case rel => exact ⟨j + 1, by omega, by go_num, HNx2⟩
   case measure => simp [intOf]; omega
  ·have hje : j = R.objs.length := by omega
   subst hje
   have hB := lt_of_heap hv
   have d0 : wr.cell? ⟨w.heap.size + 1, 0, none⟩ = some (.int .i64 (R.words : Int)) := by rw [cell_in hv]; rfl
   have d1 : wr.cell? ⟨w.heap.size + 1, 1, none⟩ = some (.int .i64 (R.oops : Int)) := by rw [cell_in hv]; rfl
   have d2 : wr.cell? ⟨w.heap.size + 1, 2, none⟩ = some (.int .i64 (R.mark : Int)) := by rw [cell_in hv]; rfl
   have d3 : wr.cell? ⟨w.heap.size + 1, 3, none⟩ = some ov := by rw [cell_in hv]; rfl
   have hr := hq.out.res
   have r0 : wr.cell? ⟨w.heap.size, 0, none⟩ = some (.int .i64 0) := by rw [cell_in hr]; rfl
   have r1 : wr.cell? ⟨w.heap.size, 1, none⟩ = some (.int .i64 0) := by rw [cell_in hr]; rfl
   have r2 : wr.cell? ⟨w.heap.size, 2, none⟩ = some (.int .i64 0) := by rw [cell_in hr]; rfl
   have r3 : wr.cell? ⟨w.heap.size, 3, none⟩ = some (.slice none 0 0) := by rw [cell_in hr]; rfl
   have y0 := frozen_in hr 0
   have y1 := frozen_in hr 1
   have y2 := frozen_in hr 2
   have y3 := frozen_in hr 3
   obtain ⟨pv, cv, rfl, -⟩ := hsr.at
   have HRes := mkHid hr
   have HE : Hid (∀ V, Fr [w.heap.size] wr V → SRep V w.heap.size (.slice pv ls.length cv) ls ∧ ls.map osKey = R.objs.map roNat ∧ Fr [] w V) := by
    intro V hV
    refine ⟨⟨own_base (own_congr hsr.row fun g hg => hV.block g (hsr.row.lt g hg).2 (by have := (hsr.row.lt g hg).1; simp; omega)) (by omega), fun o ho => own_base (own_congr (hsr.slots o ho) fun g hg => hV.block g ((hsr.slots o ho).lt g hg).2 (by have := ((hsr.slots o ho).lt g hg).1; simp; omega)) (by omega)⟩, by rw [hkk, List.take_length], hq.out.fr.trans hV (fun b hb => by simp at hb; subst hb; right; exact Nat.le_refl _)⟩
   generalize hln : ls.length = ln at *
   clear hq hv hsr hkk hr hRr
   go_wp2_with fail
   obtain ⟨V, hV⟩ : ∃ V, V = (((wr.setCell ⟨w.heap.size, 0, none⟩ (.int .i64 (R.words : Int))).setCell ⟨w.heap.size, 1, none⟩ (.int .i64 (R.oops : Int))).setCell ⟨w.heap.size, 2, none⟩ (.int .i64 (R.mark : Int))).setCell ⟨w.heap.size, 3, none⟩ (.slice pv ln cv) := ⟨_, rfl⟩
   have hVb : V.heap[w.heap.size]? = some (.cells #[.int .i64 (R.words : Int), .int .i64 (R.oops : Int), .int .i64 (R.mark : Int), .slice pv ln cv] 38 (0, 0)) := by
    rw [hV, set_in (set_in (set_in (set_in HRes.out 0 _) 1 _) 2 _) 3 _]
    rfl
   have F : Fr [w.heap.size] wr V := by
    rw [hV]
    exact (((Fr.setCell (S := [w.heap.size]) wr ⟨w.heap.size, 0, none⟩ (.int .i64 (R.words : Int)) (by simp)).trans (Fr.setCell (S := [w.heap.size]) _ ⟨w.heap.size, 1, none⟩ (.int .i64 (R.oops : Int)) (by simp)) (fun b hb => .inl hb)).trans (Fr.setCell (S := [w.heap.size]) _ ⟨w.heap.size, 2, none⟩ (.int .i64 (R.mark : Int)) (by simp)) (fun b hb => .inl hb)).trans (Fr.setCell (S := [w.heap.size]) _ ⟨w.heap.size, 3, none⟩ (.slice pv ln cv) (by simp)) (fun b hb => .inl hb)
   rw [← hV]
   clear hV
   have x0 : V.cell? ⟨w.heap.size, 0, none⟩ = some (.int .i64 (R.words : Int)) := by rw [cell_in hVb]; rfl
   have x1 : V.cell? ⟨w.heap.size, 1, none⟩ = some (.int .i64 (R.oops : Int)) := by rw [cell_in hVb]; rfl
   have x2 : V.cell? ⟨w.heap.size, 2, none⟩ = some (.int .i64 (R.mark : Int)) := by rw [cell_in hVb]; rfl
   have x3 : V.cell? ⟨w.heap.size, 3, none⟩ = some (.slice pv ln cv) := by rw [cell_in hVb]; rfl
   refine bodyPost_ret (v := .agg #[.int .i64 (R.words : Int), .int .i64 (R.oops : Int), .int .i64 (R.mark : Int), .slice pv ln cv]) (by simp [results, Tryd.results24, go_sem, x0, x1, x2, x3]) rfl ?_
   obtain ⟨h5, h6, h7⟩ := HE.out V F
   exact ⟨_, ls, rfl, h5, h6, h7⟩
end Go.Proofs.YtklfnjlenbgmoaaDoor
namespace Go.Proofs.YtklfnjlenbgmoaaDoor
open Go.RowKit
def LsB (w : World) (a : Nat) (l : Lay) (ao : Option Addr) (ss : List Int) : Prop := ∀ j, j < ss.length → ∃ b, ao = some ⟨b, 0, none⟩ ∧ b < w.heap.size ∧ b ∉ foot a l ∧ w.cell? ⟨b, j, none⟩ = some (.int .i64 (ss.getD j 0))
theorem pKeep (ss : List Int) (ao : Option Addr) (c : Nat) (a : Nat) (l : Lay) (H : HS) (M : MS) (w : World) (h : Rep w a l H) (hi : Inv H M) (hage : H.age ≤ 1000000000) (hs : LsB w a l ao ss) (hsl : (ss.length : Int) ≤ 9223372036854775807) :
  Calls Tryd.prog 34 #[.pointer (some ⟨a, 0, none⟩), .slice ao ss.length c] w fun e w' => e = .returned (.tuple #[.int .i64 (keepA M ss).1, .int .i64 (keepA M ss).2.1, .int .i64 (keepA M ss).2.2]) ∧ PN (ss.all (mhas M)) a l H (keepN M ss) w w' := by
 cases hall : ss.all (mhas M) with
 | false =>
  have e1 : keepA M ss = (0, 0, 20) := if_neg (by rw [hall]; simp)
  have e2 : keepN M ss = M := if_neg (by rw [hall]; simp)
  rw [e1, e2]
  obtain ⟨j0, h1, h2, h3⟩ := all_badK _ ss hall
  obtain ⟨b, hb, hbl, hbn, -⟩ := hs j0 h1
  subst hb
  refine Calls.mono (Keep_no ss j0 b 0 c a l H w h h1 (fun j hj => by rw [hi.hasM]; exact h2 j hj) (by rw [hi.hasM]; exact h3) (by have := hi.safe.seats; omega) hbl hbn (fun j hj => by
   obtain ⟨b2, e, -, -, hc⟩ := hs j hj
   injection e with e
   injection e with e
   subst e
   rw [Nat.zero_add]
   exact hc) hsl) ?_
  rintro e w' ⟨rfl, hr, hx⟩
  exact ⟨rfl, l, H, hr, hi, hx, Old.refl H⟩
 | true =>
  obtain ⟨ks, hk1, hk2⟩ := all_nat M ss hall
  have e2 : keepN M ss = { M with things := keptTh M.things ks } := by unfold keepN; rw [if_pos hall, hk1, map_nat_back]
  obtain ⟨hko, hki⟩ := hi.keep ks hk2 hage
  have hlen : ks.length = ss.length := by rw [hk1, List.length_map]
  have hf := Keep_any ks ao c a l H w h hko (fun j hj => by
   obtain ⟨b, e, hbl, hbn, hc⟩ := hs j (by omega)
   refine ⟨b, e, hbl, hbn, ?_⟩
   rw [hc, hk1, List.getD_eq_getElem?_getD, List.getElem?_map, List.getD_eq_getElem?_getD, List.getElem?_eq_getElem hj]
   rfl) (by omega)
  rw [hlen] at hf
  refine Calls.mono hf ?_
  rintro e w' ⟨rfl, hr, hx⟩
  have e1 : keepA M ss = ((H.count : Int) - (keepH H ks).count, (H.mem.length : Int) - (keepH H ks).mem.length, 0) := by
   unfold keepA
   rw [if_pos hall, e2, hi.count, hi.fin, hki.count, hki.fin]
  rw [e1, e2]
  exact ⟨rfl, l, _, hr, hki, hx, .inr ⟨rfl, rfl⟩⟩
theorem rStateM {H : HS} (r : Nat) (R : RS) (M : MS) (w : World) (h : RRep w 0 r R) (hi : Inv H M) (hd : Doc M R) (hb : RBd M R) : Calls Tryd.prog 24 #[.pointer (some ⟨r, 0, none⟩)] w fun e w' => ∃ ov ls, e = .returned (.agg #[.int .i64 (M.words : Int), .int .i64 (M.oops : Int), .int .i64 (M.mark : Int), ov]) ∧ SRep w' w.heap.size ov ls ∧ ls.map osKey = (liveO H).map (keyO M.things) ∧ Fr [] w w' := by
 have hr := rState_ok 0 r R w h hb.ok
 have hk : R.objs.map roNat = (liveO H).map (keyO M.things) := by
  obtain ⟨-, ho⟩ := hd.oopsL hi.toInvV.srt
  rw [← ho, List.map_map]
  refine List.map_congr_left fun o o1 => ?_
  obtain ⟨p1, p2, p3, p4, p5⟩ := rv_parts (hd.each o o1).1
  show roNat o = keyO M.things o.oop
  unfold roNat keyO
  rw [← p2, ← p4, ← p5]
 rw [hk, hd.words, hd.oops, hd.mark] at hr
 exact hr
end Go.Proofs.YtklfnjlenbgmoaaDoor
