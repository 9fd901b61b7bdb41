import Derived.Test.YtblbjgifhgfifaaPG23QCl2
import Derived.Test.YtblbjgifhgfifaaPQLin
namespace Go.Proofs.Ytblbjgifhgfifaa
open Go.RowKit Go.Maps Go.WideMaps
set_option linter.unusedVariables false
set_option linter.unusedSimpArgs false
/-- a value put into a box of its own in a drawn region -/
theorem stepB {ops : Array Oper} {o : Oper} {a : Act} {w : World} {K : Act → World → Prop} {Q : Exit → Act → World → Prop} {E : Prop} (hw : Region.wanted o (yielded ops a.tmps) = true) (t : TypeId) (x : Operand) (ho : o.op = .box t x) (vs : Array Value) (hx : a.eval x = .agg vs)
    (h : K (a.put o.dst (.pointer (some ⟨w.heap.size, 0, none⟩))) (w.alloc (.cells vs t))) : if Region.wanted o (yielded ops a.tmps) = true then Oper.wp Try.prog o a w K Q else E := by
  rw [if_pos hw]
  unfold Oper.wp
  have e1 : (execOp a.eval o).run Try.prog w = .ok (.value (.pointer (some ⟨w.heap.size, 0, none⟩))) (w.alloc (.cells vs t)) := by
    simp [execOp, ho, hx, Instr.box, newVar, newRow, Value.cells]
  rw [e1]
  exact h
/-- a reshaping in memory, at block b -/
structure Rsh (w : World) (v : Value) (l : List Cl) (top : Nat) (own : List ByteArray) (ov : Value) (b : Nat) : Prop where
  ex : ∃ (gc oc cc ga bf m b4 m4 : Nat) (q5 : Option Addr) (d5 b6 b3 b1 gs c6 c3 c1 cs : Nat) (po : Option Addr) (no co : Nat), v = .slice (some ⟨gc, oc, none⟩) l.length cc ∧ ov = .slice po no co ∧ w.heap[b]? = some (.cells #[.slice (some ⟨gc, oc, none⟩) l.length cc, .slice (some ⟨ga, 0, none⟩) l.length l.length, .func (.func 58) #[] #[.pointer (some ⟨bf, 0, none⟩)], .slice po no co, .func (.func 60) #[] #[.pointer (some ⟨b4, 0, none⟩)], .slice q5 (famZ l top l.length).length d5, .func (.func 61) #[] #[.pointer (some ⟨b6, 0, none⟩), .pointer (some ⟨b3, 0, none⟩), .pointer (some ⟨b1, 0, none⟩)], .func (.func 61) #[] #[.pointer (some ⟨c6, 0, none⟩), .pointer (some ⟨c3, 0, none⟩), .pointer (some ⟨c1, 0, none⟩)]] 82 (0, 0)) ∧
    Lin w v l ga bf m ∧ Fnd w b4 m4 own ∧ RdI w (.slice q5 (famZ l top l.length).length d5) (famZ l top l.length) ∧ Gth w l b6 b3 b1 gs ∧ Gth w (turnC l top own ov) c6 c3 c1 cs ∧ (famZ l top l.length).length ≤ d5 ∧ d5 ≤ 9223372036854775807
  rdc : RdC w v l
  rds : RdS w ov own
theorem Rsh.idle {w w' : World} {v : Value} {l : List Cl} {top : Nat} {own : List ByteArray} {ov : Value} {b : Nat} (h : Rsh w v l top own ov b) (hf : Fr [] w w') : Rsh w' v l top own ov b := by
  obtain ⟨gc, oc, cc, ga, bf, m, b4, m4, q5, d5, b6, b3, b1, gs, c6, c3, c1, cs, po, no, co, e1, e2, h1, h2, h3, h4, h5, h6, h7⟩ := h.ex
  exact ⟨⟨gc, oc, cc, ga, bf, m, b4, m4, q5, d5, b6, b3, b1, gs, c6, c3, c1, cs, po, no, co, e1, e2, (hf.block _ (lt_of_heap h1) (by simp)).trans h1, h2.idle hf, h3.idle hf, h4.idle hf, h5.idle hf, h6.idle hf, h7⟩, h.rdc.idle hf, h.rds.idle hf⟩
theorem fam_len (l : List Cl) (top n : Nat) : (famZ l top n).length ≤ n := by
  have := aff_len l top n
  unfold famZ
  rw [List.length_map]; omega
set_option maxRecDepth 20000 in
set_option maxHeartbeats 4000000 in
theorem reshapingOf_ok (l : List Cl) (top : Nat) (own : List ByteArray) (v ov : Value) (ga bf m : Nat) (w : World) (h : RdC w v l) (ho : RdS w ov own) (ht : top < l.length) (hn : l.length ≤ 1048576) (hL : Lin w v l ga bf m) (hz : ∀ s ∈ own, s.size ≤ maxLen) :
    Calls Try.prog 38 #[.agg (linV v (.slice (some ⟨ga, 0, none⟩) l.length l.length) ⟨bf, 0, none⟩), .int .i64 top, ov] w fun e w' => ∃ b, e = .returned (.pointer (some ⟨b, 0, none⟩)) ∧ Rsh w' v l top own ov b ∧ Fr [] w w' := by
  obtain ⟨p, cc, rfl, h1⟩ := h.at_
  obtain ⟨gc, oc, rfl, x1, x2⟩ := h1 (by omega)
  obtain ⟨po, no, co, rfl⟩ : ∃ po no co, ov = .slice po no co := by obtain ⟨pv, cv, e, _⟩ := ho.at_; exact ⟨pv, _, cv, e⟩
  unfold linV
  have t0 : (0 : Int) ≤ (top : Int) := by omega
  have t1 : (top : Int) < (l.length : Int) := by omega
  obtain ⟨W0, hW0⟩ : ∃ W, w.alloc (.cells #[.slice (some ⟨gc, oc, none⟩) l.length cc, .slice (some ⟨ga, 0, none⟩) l.length l.length, .func (.func 58) #[] #[.pointer (some ⟨bf, 0, none⟩)]] 64) = W := ⟨_, rfl⟩
  have hb0 : W0.heap[w.heap.size]? = some (.cells #[.slice (some ⟨gc, oc, none⟩) l.length cc, .slice (some ⟨ga, 0, none⟩) l.length l.length, .func (.func 58) #[] #[.pointer (some ⟨bf, 0, none⟩)]] 64 (0, 0)) := hW0 ▸ heap_alloc_new w _
  have f0 : Fr [] w W0 := hW0 ▸ Fr.alloc [] w _
  have hs0 : W0.heap.size = w.heap.size + 1 := by rw [← hW0]; simp
  obtain ⟨W1, hW1⟩ : ∃ W, W0.alloc (.cells #[.slice (some ⟨gc, oc, none⟩) l.length cc, .slice (some ⟨ga, 0, none⟩) l.length l.length, .func (.func 58) #[] #[.pointer (some ⟨bf, 0, none⟩)]] 64) = W := ⟨_, rfl⟩
  have hb1 : W1.heap[w.heap.size + 1]? = some (.cells #[.slice (some ⟨gc, oc, none⟩) l.length cc, .slice (some ⟨ga, 0, none⟩) l.length l.length, .func (.func 58) #[] #[.pointer (some ⟨bf, 0, none⟩)]] 64 (0, 0)) := by rw [← hs0, ← hW1]; exact heap_alloc_new W0 _
  have f1 : Fr [] W0 W1 := hW1 ▸ Fr.alloc [] W0 _
  have hs1 : W1.heap.size = w.heap.size + 2 := by rw [← hW1]; simp [hs0]
  have hb01 := (f1.block _ (lt_of_heap hb0) (by simp)).trans hb0
  have c0 : W0.cell? ⟨w.heap.size, 0, none⟩ = some (.slice (some ⟨gc, oc, none⟩) l.length cc) := by rw [cell_in hb0]; rfl
  have c1 : W0.cell? ⟨w.heap.size, 1, none⟩ = some (.slice (some ⟨ga, 0, none⟩) l.length l.length) := by rw [cell_in hb0]; rfl
  have c2 : W0.cell? ⟨w.heap.size, 2, none⟩ = some (.func (.func 58) #[] #[.pointer (some ⟨bf, 0, none⟩)]) := by rw [cell_in hb0]; rfl
  have d0 : W1.cell? ⟨w.heap.size, 0, none⟩ = some (.slice (some ⟨gc, oc, none⟩) l.length cc) := by rw [cell_in hb01]; rfl
  have F1 : Fr [] w W1 := f0.trans f1 (by simp)
  have HCl := mkHid (clone_ok l (.slice (some ⟨gc, oc, none⟩) l.length cc) W1 (h.idle F1) (by omega) hn)
  have HF1 := mkHid F1
  have HB1 := mkHid hb1
  have HB0 := mkHid hb01
  have HC := mkHid h
  have HO := mkHid ho
  have HL := mkHid hL
  have HZ := mkHid hz
  have HAll : Hid (∀ (w3 : World) (g2 cap : Nat) (cur : Array Value), w3.heap[g2]? = some (.cells cur 47 (0, 0)) → cur.toList.take (l.length * 4) = clss l → W1.heap.size ≤ g2 → Fr [] W1 w3 → ∃ W4 W5, w3.setCell ⟨w.heap.size + 1, 0, none⟩ (.slice (some ⟨g2, 0, none⟩) l.length cap) = W4 ∧ W4.setCell ⟨g2, top * 4 + 2, none⟩ (.slice po no co) = W5 ∧
      w3.cell? ⟨w.heap.size + 1, 0, none⟩ = some (.slice (some ⟨gc, oc, none⟩) l.length cc) ∧ w3.frozen? ⟨w.heap.size + 1, 0, none⟩ = false ∧ W4.cell? ⟨w.heap.size + 1, 0, none⟩ = some (.slice (some ⟨g2, 0, none⟩) l.length cap) ∧ W4.cell? ⟨g2, top * 4 + 2, none⟩ = some (clAt l top).v ∧ W4.frozen? ⟨g2, top * 4 + 2, none⟩ = false ∧
      Hid (Fr [] w W5) ∧ Hid (RdC W5 (.slice (some ⟨g2, 0, none⟩) l.length cap) (turnC l top own (.slice po no co))) ∧ Hid (∀ V, Hid (Fr [] W5 V) → (fun V => V.cell? ⟨w.heap.size, 0, none⟩ = some (.slice (some ⟨gc, oc, none⟩) l.length cc) ∧ V.cell? ⟨w.heap.size, 1, none⟩ = some (.slice (some ⟨ga, 0, none⟩) l.length l.length) ∧ V.cell? ⟨w.heap.size, 2, none⟩ = some (.func (.func 58) #[] #[.pointer (some ⟨bf, 0, none⟩)]) ∧ V.cell? ⟨(w.heap.size + 1), 0, none⟩ = some (.slice (some ⟨g2, 0, none⟩) l.length cap) ∧ V.cell? ⟨(w.heap.size + 1), 1, none⟩ = some (.slice (some ⟨ga, 0, none⟩) l.length l.length) ∧ V.cell? ⟨(w.heap.size + 1), 2, none⟩ = some (.func (.func 58) #[] #[.pointer (some ⟨bf, 0, none⟩)])) V)) := mkHid (fun w3 g2 cap cur kb kc kg kf => by
    have kb1 := (kf.block _ (lt_of_heap HB1.out) (by simp)).trans HB1.out
    have kb0 := (kf.block _ (lt_of_heap HB0.out) (by simp)).trans HB0.out
    have k1 : w3.cell? ⟨w.heap.size + 1, 0, none⟩ = some (.slice (some ⟨gc, oc, none⟩) l.length cc) := by rw [cell_in kb1]; rfl
    have k2 := frozen_in kb1 0
    have f4 : Fr [w.heap.size + 1] w3 (w3.setCell ⟨w.heap.size + 1, 0, none⟩ (.slice (some ⟨g2, 0, none⟩) l.length cap)) := Fr.setCell w3 ⟨w.heap.size + 1, _, none⟩ _ (by simp)
    have kb4 : (w3.setCell ⟨w.heap.size + 1, 0, none⟩ (.slice (some ⟨g2, 0, none⟩) l.length cap)).heap[w.heap.size + 1]? = some (.cells #[.slice (some ⟨g2, 0, none⟩) l.length cap, .slice (some ⟨ga, 0, none⟩) l.length l.length, .func (.func 58) #[] #[.pointer (some ⟨bf, 0, none⟩)]] 64 (0, 0)) := by rw [set_in kb1]; rfl
    have kb04 := (f4.block _ (lt_of_heap kb0) (by simp)).trans kb0
    have kg4 := (f4.block g2 (lt_of_heap kb) (by simp; omega)).trans kb
    have F4 : Fr [] w (w3.setCell ⟨w.heap.size + 1, 0, none⟩ (.slice (some ⟨g2, 0, none⟩) l.length cap)) := (HF1.out.trans kf (by simp)).trans f4 (by simp)
    obtain ⟨q1, q2, q3, q4⟩ := clone_set (cap := cap) (HC.out.idle F4) kg4 kc ht (HO.out.idle F4) (fun b hb e => by
      obtain ⟨k, hk, hp, hv⟩ := hb
      have := (HC.out.own k hk).lt hp b hv
      omega) (fun hp b hb e => by
      have := HO.out.lt hp b hb; omega)
    have k3 : (w3.setCell ⟨w.heap.size + 1, 0, none⟩ (.slice (some ⟨g2, 0, none⟩) l.length cap)).cell? ⟨w.heap.size + 1, 0, none⟩ = some (.slice (some ⟨g2, 0, none⟩) l.length cap) := by rw [cell_in kb4]; rfl
    refine ⟨_, _, rfl, rfl, k1, k2, k3, q1, q2, mkHid (F4.trans q4 (by simp; omega)), mkHid q3, mkHid (fun V hV => ?_)⟩
    have z0 := (hV.out.block w.heap.size (by have := lt_of_heap kb04; have := q4.size; omega) (by simp)).trans ((q4.block w.heap.size (lt_of_heap kb04) (by simp; omega)).trans kb04)
    have z1 := (hV.out.block (w.heap.size + 1) (by have := lt_of_heap kb4; have := q4.size; omega) (by simp)).trans ((q4.block (w.heap.size + 1) (lt_of_heap kb4) (by simp; omega)).trans kb4)
    exact ⟨by rw [cell_in z0]; rfl, by rw [cell_in z0]; rfl, by rw [cell_in z0]; rfl, by rw [cell_in z1]; rfl, by rw [cell_in z1]; rfl, by rw [cell_in z1]; rfl⟩)
  obtain ⟨pv, nv, cv, ev⟩ : ∃ pv nv cv, (clAt l top).v = .slice pv nv cv := by obtain ⟨pv, cv, e, _⟩ := (h.own top ht).at_; exact ⟨pv, _, cv, e⟩
  rw [ev] at HAll
  have hgl : Hid (W1.heap.size = w.heap.size + 2) := mkHid hs1
  clear h ho hL hz h1 x1 x2 f0 f1 F1 hb0 hb1 hb01 ev
  go_enter Try.func38, Try.ntmps38
  go_wp2_with (first
    | (go_at_call 50
       refine HCl.out.mono ?_
       rintro e w3 ⟨g2, cap, cur, rfl, kb, kc, kg, kf⟩
       obtain ⟨W4, W5, hW4, hW5, k1, k2, k3, q1, q2, hF5, hC5, HCC⟩ := HAll.out w3 g2 cap cur kb kc kg kf
       clear kb kc kg kf))
  have hR : Hid (Fr [] W5 W5) := mkHid (Fr.refl _ _)
  have HC51 : Hid (∀ V, Hid (Fr [] W5 V) → Calls Try.prog 51 #[.slice po no co, .func (.func 52) #[] #[]] V fun e w2 => ∃ x, e = .returned x ∧ ∃ b4 m4, x = .func (.func 60) #[] #[.pointer (some ⟨b4, 0, none⟩)] ∧ Hid (Fnd w2 b4 m4 own) ∧ Hid (Fr [] W5 w2)) := mkHid (fun V hV => by
    refine Calls.mono (finderS_ok own _ V (HO.out.idle (hF5.out.trans hV.out (by simp))) HZ.out) ?_
    rintro e w2 ⟨b4, m4, rfl, q1, q2, _⟩
    exact ⟨_, rfl, b4, m4, rfl, mkHid q1, mkHid (hV.out.trans q2 (by simp))⟩)
  have HAb : Hid (∀ V, Hid (Fr [] W5 V) → RdI V (.slice (some ⟨ga, 0, none⟩) l.length l.length) (ups (upN l) l.length)) := mkHid (fun V hV => ((HL.out.above.keep hF5.out (by simp)).keep hV.out (by simp)).rd (by omega))
  have HC53 : Hid (∀ V, Hid (Fr [] W5 V) → Calls Try.prog 53 #[.agg #[.slice (some ⟨gc, oc, none⟩) l.length cc, .slice (some ⟨ga, 0, none⟩) l.length l.length, .func (.func 58) #[] #[.pointer (some ⟨bf, 0, none⟩)]], .int .i64 top] V fun e w2 => ∃ x, e = .returned x ∧ ∃ q5 d5, x = .slice q5 (famZ l top l.length).length d5 ∧ Hid (w2.ownsRow w.heap.size 3 1 (.slice q5 (famZ l top l.length).length d5) (famZ l top l.length).length (ints (famZ l top l.length))) ∧ Hid (Fr [] W5 w2) ∧ Hid (Fr [] V w2)) := mkHid (fun V hV => by
    refine Calls.mono (under_ok l top ht hn _ _ _ _ _ V (HAb.out V hV)) ?_
    rintro e w2 ⟨q5, d5, rfl, q1, q2⟩
    exact ⟨_, rfl, q5, d5, rfl, mkHid (own_down q1 (by have := hF5.out.size; have := hV.out.size; omega)), mkHid (hV.out.trans q2 (by simp)), mkHid q2⟩)
  have HC54 : Hid (∀ V, Hid (Fr [] W5 V) → Calls Try.prog 54 #[.agg #[.slice (some ⟨gc, oc, none⟩) l.length cc, .slice (some ⟨ga, 0, none⟩) l.length l.length, .func (.func 58) #[] #[.pointer (some ⟨bf, 0, none⟩)]]] V fun e w2 => ∃ x, e = .returned x ∧ ∃ b6 b3 b1 gs, x = .func (.func 61) #[] #[.pointer (some ⟨b6, 0, none⟩), .pointer (some ⟨b3, 0, none⟩), .pointer (some ⟨b1, 0, none⟩)] ∧ Hid (Gth w2 l b6 b3 b1 gs) ∧ Hid (Fr [] W5 w2) ∧ Hid (Fr [] V w2)) := mkHid (fun V hV => by
    refine Calls.mono (gatherer_ok l _ _ _ V (HC.out.idle (hF5.out.trans hV.out (by simp))) hn (HAb.out V hV)) ?_
    rintro e w2 ⟨b6, b3, b1, gs, rfl, q1, q2⟩
    exact ⟨_, rfl, b6, b3, b1, gs, rfl, mkHid q1, mkHid (hV.out.trans q2 (by simp)), mkHid q2⟩)
  have HC54b : Hid (∀ V, Hid (Fr [] W5 V) → Calls Try.prog 54 #[.agg #[.slice (some ⟨g2, 0, none⟩) l.length cap, .slice (some ⟨ga, 0, none⟩) l.length l.length, .func (.func 58) #[] #[.pointer (some ⟨bf, 0, none⟩)]]] V fun e w2 => ∃ x, e = .returned x ∧ ∃ b6 b3 b1 gs, x = .func (.func 61) #[] #[.pointer (some ⟨b6, 0, none⟩), .pointer (some ⟨b3, 0, none⟩), .pointer (some ⟨b1, 0, none⟩)] ∧ Hid (Gth w2 (turnC l top own (.slice po no co)) b6 b3 b1 gs) ∧ Hid (Fr [] W5 w2) ∧ Hid (Fr [] V w2)) := mkHid (fun V hV => by
    have hT := turnC_trn l top own (.slice po no co) ht
    have hlen := turnC_len l top own (.slice po no co)
    have hup : ups (upN (turnC l top own (.slice po no co))) (turnC l top own (.slice po no co)).length = ups (upN l) l.length := by
      rw [hlen]; unfold ups; exact List.map_congr_left (fun c _ => by rw [hT.upN])
    refine Calls.mono (gatherer_ok (turnC l top own (.slice po no co)) _ _ _ V (hC5.out.idle hV.out) (by omega) (by rw [hup]; exact HAb.out V hV)) ?_
    rintro e w2 ⟨b6, b3, b1, gs, rfl, q1, q2⟩
    exact ⟨_, rfl, b6, b3, b1, gs, rfl, mkHid q1, mkHid (hV.out.trans q2 (by simp)), mkHid q2⟩)
  clear HAb HAll HCl HB0 HB1 hW4 hW5 hW1 hW0 c0 c1 c2 d0 q1 q2 k1 k2 k3
  refine wp_region_held_drew (S := fun V => V.cell? ⟨w.heap.size, 0, none⟩ = some (.slice (some ⟨gc, oc, none⟩) l.length cc) ∧ V.cell? ⟨w.heap.size, 1, none⟩ = some (.slice (some ⟨ga, 0, none⟩) l.length l.length) ∧ V.cell? ⟨w.heap.size, 2, none⟩ = some (.func (.func 58) #[] #[.pointer (some ⟨bf, 0, none⟩)]) ∧ V.cell? ⟨(w.heap.size + 1), 0, none⟩ = some (.slice (some ⟨g2, 0, none⟩) l.length cap) ∧ V.cell? ⟨(w.heap.size + 1), 1, none⟩ = some (.slice (some ⟨ga, 0, none⟩) l.length l.length) ∧ V.cell? ⟨(w.heap.size + 1), 2, none⟩ = some (.func (.func 58) #[] #[.pointer (some ⟨bf, 0, none⟩)])) (by kernel_rfl) (HCC.out _ (hidD hR)) (fun hHeld => ?_)
  refine wpAnyH_take (i := 0) (v := ?_) rfl (by kernel_rfl) (by kernel_rfl) (by kernel_rfl) (fun _ _ _ h => h) (Or.inl ⟨by rfl, ?_⟩) (by assumption) ?_
  rotate_left
  · (intro w hSw; (try dsimp only at hSw); first | (go_simp; done) | (go_simp; with_reducible rfl))
  try simp only [Act.put, List.getElem_toArray, List.getElem_cons_zero, List.getElem_cons_succ, List.setIfInBounds_toArray, List.set_cons_zero, List.set_cons_succ]
  refine wpAnyH_take (i := 1) (v := ?_) rfl (by kernel_rfl) (by kernel_rfl) (by kernel_rfl) (fun _ _ _ h => h) (Or.inl ⟨by rfl, ?_⟩) (by assumption) ?_
  rotate_left
  · (intro w hSw; (try dsimp only at hSw); first | (go_simp; done) | (go_simp; with_reducible rfl))
  try simp only [Act.put, List.getElem_toArray, List.getElem_cons_zero, List.getElem_cons_succ, List.setIfInBounds_toArray, List.set_cons_zero, List.set_cons_succ]
  refine wpAnyH_take (i := 2) (v := ?_) rfl (by kernel_rfl) (by kernel_rfl) (by kernel_rfl) (fun _ _ _ h => h) (Or.inl ⟨by rfl, ?_⟩) (by assumption) ?_
  rotate_left
  · (intro w hSw; (try dsimp only at hSw); first | (go_simp; done) | (go_simp; with_reducible rfl))
  try simp only [Act.put, List.getElem_toArray, List.getElem_cons_zero, List.getElem_cons_succ, List.setIfInBounds_toArray, List.set_cons_zero, List.set_cons_succ]
  refine wpAnyH_take (i := 4) (v := ?_) rfl (by kernel_rfl) (by kernel_rfl) (by kernel_rfl) (fun _ _ _ h => h) (Or.inl ⟨by rfl, ?_⟩) (by assumption) ?_
  rotate_left
  · (intro w hSw; (try dsimp only at hSw); first | (go_simp; done) | (go_simp; with_reducible rfl))
  try simp only [Act.put, List.getElem_toArray, List.getElem_cons_zero, List.getElem_cons_succ, List.setIfInBounds_toArray, List.set_cons_zero, List.set_cons_succ]
  refine wpAnyH_take (i := 5) (v := ?_) rfl (by kernel_rfl) (by kernel_rfl) (by kernel_rfl) (fun _ _ _ h => h) (Or.inl ⟨by rfl, ?_⟩) (by assumption) ?_
  rotate_left
  · (intro w hSw; (try dsimp only at hSw); first | (go_simp; done) | (go_simp; with_reducible rfl))
  try simp only [Act.put, List.getElem_toArray, List.getElem_cons_zero, List.getElem_cons_succ, List.setIfInBounds_toArray, List.set_cons_zero, List.set_cons_succ]
  refine wpAnyH_take (i := 7) (v := ?_) rfl (by kernel_rfl) (by kernel_rfl) (by kernel_rfl) (fun _ _ _ h => h) (Or.inl ⟨by rfl, ?_⟩) (by assumption) ?_
  rotate_left
  · (intro w hSw; (try dsimp only at hSw); first | (go_simp; done) | (go_simp; with_reducible rfl))
  try simp only [Act.put, List.getElem_toArray, List.getElem_cons_zero, List.getElem_cons_succ, List.setIfInBounds_toArray, List.set_cons_zero, List.set_cons_succ]
  refine wpAnyH_take (i := 9) (v := ?_) rfl (by kernel_rfl) (by kernel_rfl) (by kernel_rfl) (fun _ _ _ h => h) (Or.inl ⟨by rfl, ?_⟩) (by assumption) ?_
  rotate_left
  · (intro w hSw; (try dsimp only at hSw); first | (go_simp; done) | (go_simp; with_reducible rfl))
  try simp only [Act.put, List.getElem_toArray, List.getElem_cons_zero, List.getElem_cons_succ, List.setIfInBounds_toArray, List.set_cons_zero, List.set_cons_succ]
  refine oneH (i := 3) (by kernel_rfl) rfl (fun K hK => ?_)
  refine stepG (by rfl) 51 Try.f51 Try.func51 (by kernel_rfl) (by kernel_rfl) _ _ rfl _ (by simp [Act.eval]) (fun x w2 => ∃ b4 m4, x = .func (.func 60) #[] #[.pointer (some ⟨b4, 0, none⟩)] ∧ Hid (Fnd w2 b4 m4 own) ∧ Hid (Fr [] W5 w2)) (HC51.out _ (hidD hR)) ?_
  rintro _ w6 ⟨b4, m4, rfl, hn6, hg6⟩
  refine hK.out _ _ (HCC.out _ hg6) (fun hHeld => ?_)
  clear hK K
  try simp only [Act.put, List.getElem_toArray, List.getElem_cons_zero, List.getElem_cons_succ, List.setIfInBounds_toArray, List.set_cons_zero, List.set_cons_succ]
  refine oneH (i := 6) (by kernel_rfl) rfl (fun K hK => ?_)
  refine stepG (by rfl) 53 Try.f53 Try.func53 (by kernel_rfl) (by kernel_rfl) _ _ rfl _ (by simp [Act.eval]) (fun x w2 => ∃ q5 d5, x = .slice q5 (famZ l top l.length).length d5 ∧ Hid (w2.ownsRow w.heap.size 3 1 (.slice q5 (famZ l top l.length).length d5) (famZ l top l.length).length (ints (famZ l top l.length))) ∧ Hid (Fr [] W5 w2) ∧ Hid (Fr [] w6 w2)) (HC53.out _ hg6) ?_
  rintro _ w7 ⟨q5, d5, rfl, hn7, hg7, hf7⟩
  refine hK.out _ _ (HCC.out _ hg7) (fun hHeld => ?_)
  clear hK K
  try simp only [Act.put, List.getElem_toArray, List.getElem_cons_zero, List.getElem_cons_succ, List.setIfInBounds_toArray, List.set_cons_zero, List.set_cons_succ]
  refine oneH (i := 8) (by kernel_rfl) rfl (fun K hK => ?_)
  refine stepG (by rfl) 54 Try.f54 Try.func54 (by kernel_rfl) (by kernel_rfl) _ _ rfl _ (by simp [Act.eval]) (fun x w2 => ∃ b6 b3 b1 gs, x = .func (.func 61) #[] #[.pointer (some ⟨b6, 0, none⟩), .pointer (some ⟨b3, 0, none⟩), .pointer (some ⟨b1, 0, none⟩)] ∧ Hid (Gth w2 l b6 b3 b1 gs) ∧ Hid (Fr [] W5 w2) ∧ Hid (Fr [] w7 w2)) (HC54.out _ hg7) ?_
  rintro _ w8 ⟨b6, b3, b1, gs, rfl, hn8, hg8, hf8⟩
  refine hK.out _ _ (HCC.out _ hg8) (fun hHeld => ?_)
  clear hK K
  try simp only [Act.put, List.getElem_toArray, List.getElem_cons_zero, List.getElem_cons_succ, List.setIfInBounds_toArray, List.set_cons_zero, List.set_cons_succ]
  refine oneH (i := 10) (by kernel_rfl) rfl (fun K hK => ?_)
  refine stepG (by rfl) 54 Try.f54 Try.func54 (by kernel_rfl) (by kernel_rfl) _ _ rfl _ (by simp [Act.eval]) (fun x w2 => ∃ b6 b3 b1 gs, x = .func (.func 61) #[] #[.pointer (some ⟨b6, 0, none⟩), .pointer (some ⟨b3, 0, none⟩), .pointer (some ⟨b1, 0, none⟩)] ∧ Hid (Gth w2 (turnC l top own (.slice po no co)) b6 b3 b1 gs) ∧ Hid (Fr [] W5 w2) ∧ Hid (Fr [] w8 w2)) (HC54b.out _ hg8) ?_
  rintro _ w9 ⟨c6, c3, c1, cs, rfl, hn9, hg9, hf9⟩
  refine hK.out _ _ (HCC.out _ hg9) (fun hHeld => ?_)
  clear hK K
  try simp only [Act.put, List.getElem_toArray, List.getElem_cons_zero, List.getElem_cons_succ, List.setIfInBounds_toArray, List.set_cons_zero, List.set_cons_succ]
  refine wpAnyH_take (i := 11) (v := ?_) rfl (by kernel_rfl) (by kernel_rfl) (by kernel_rfl) (fun _ _ _ h => h) (Or.inl ⟨by rfl, ?_⟩) (by assumption) ?_
  rotate_left
  · (intro w hSw; (try dsimp only at hSw); first | (go_simp; done) | (go_simp; with_reducible rfl))
  try simp only [Act.put, List.getElem_toArray, List.getElem_cons_zero, List.getElem_cons_succ, List.setIfInBounds_toArray, List.set_cons_zero, List.set_cons_succ]
  refine oneH (i := 12) (by kernel_rfl) rfl (fun K hK => ?_)
  refine stepB (by rfl) 82 _ rfl #[.slice (some ⟨gc, oc, none⟩) l.length cc, .slice (some ⟨ga, 0, none⟩) l.length l.length, .func (.func 58) #[] #[.pointer (some ⟨bf, 0, none⟩)], .slice po no co, .func (.func 60) #[] #[.pointer (some ⟨b4, 0, none⟩)], .slice q5 (famZ l top l.length).length d5, .func (.func 61) #[] #[.pointer (some ⟨b6, 0, none⟩), .pointer (some ⟨b3, 0, none⟩), .pointer (some ⟨b1, 0, none⟩)], .func (.func 61) #[] #[.pointer (some ⟨c6, 0, none⟩), .pointer (some ⟨c3, 0, none⟩), .pointer (some ⟨c1, 0, none⟩)]] rfl ?_
  refine hK.out _ _ (HCC.out _ (mkHid (hg9.out.trans (Fr.alloc [] _ _) (by simp)))) (fun hHeld => ?_)
  clear hK K
  try simp only [Act.put, List.getElem_toArray, List.getElem_cons_zero, List.getElem_cons_succ, List.setIfInBounds_toArray, List.set_cons_zero, List.set_cons_succ]
  refine wpAnyH_take (i := 13) (v := ?_) rfl (by kernel_rfl) (by kernel_rfl) (by kernel_rfl) (fun _ _ _ h => h) (Or.inl ⟨by rfl, ?_⟩) (by assumption) ?_
  rotate_left
  · (intro w hSw; (try dsimp only at hSw); first | (go_simp; done) | (go_simp; with_reducible rfl))
  try simp only [Act.put, List.getElem_toArray, List.getElem_cons_zero, List.getElem_cons_succ, List.setIfInBounds_toArray, List.set_cons_zero, List.set_cons_succ]
  refine wpAnyH_done (by kernel_rfl) ?_ _
  go_wp2_with fail
  go_ret
  have F9 := Fr.alloc [] w9 (.cells #[.slice (some ⟨gc, oc, none⟩) l.length cc, .slice (some ⟨ga, 0, none⟩) l.length l.length, .func (.func 58) #[] #[.pointer (some ⟨bf, 0, none⟩)], .slice po no co, .func (.func 60) #[] #[.pointer (some ⟨b4, 0, none⟩)], .slice q5 (famZ l top l.length).length d5, .func (.func 61) #[] #[.pointer (some ⟨b6, 0, none⟩), .pointer (some ⟨b3, 0, none⟩), .pointer (some ⟨b1, 0, none⟩)], .func (.func 61) #[] #[.pointer (some ⟨c6, 0, none⟩), .pointer (some ⟨c3, 0, none⟩), .pointer (some ⟨c1, 0, none⟩)]] 82)
  have e9 : Fr [] w w9 := hF5.out.trans hg9.out (by simp)
  refine ⟨_, rfl, ⟨⟨gc, oc, cc, ga, bf, m, b4, m4, q5, d5, b6, b3, b1, gs, c6, c3, c1, cs, po, no, co, rfl, rfl, heap_alloc_new w9 _, (HL.out.idle e9).idle F9, (((hn6.out.idle hf7.out).idle hf8.out).idle hf9.out).idle F9, ?_, (hn8.out.idle hf9.out).idle F9, hn9.out.idle F9, ?_⟩, (HC.out.idle e9).idle F9, (HO.out.idle e9).idle F9⟩, e9.trans F9 (by simp)⟩
  · have := own_rdI hn7.out (by have := fam_len l top l.length; omega)
    exact ((this.idle hf8.out).idle hf9.out).idle F9
  · rcases hn7.out.2 with ⟨e, e2⟩ | ⟨g, c', cur, e, _, _, q1, q2, _⟩
    · injection e with _ _ e3; omega
    · injection e with _ _ e3; unfold maxLen at q2; omega
end Go.Proofs.Ytblbjgifhgfifaa
