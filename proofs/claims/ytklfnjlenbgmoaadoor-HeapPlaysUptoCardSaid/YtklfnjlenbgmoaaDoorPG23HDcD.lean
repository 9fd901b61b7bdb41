import Derived.Test.YtklfnjlenbgmoaaDoorPG18RKeepP
import Derived.Test.YtklfnjlenbgmoaaDoorPG17HRefP
import Derived.Test.YtklfnjlenbgmoaaDoorPG14HObj
import Derived.BigQuiet
import Derived.Test.YtklfnjlenbgmoaaDoorPHDcA
import Derived.Test.YtklfnjlenbgmoaaDoorPG19HDoc3
set_option linter.unusedSimpArgs false
set_option linter.unusedVariables false
namespace Go.Proofs.YtklfnjlenbgmoaaDoor
open Go.RowKit
theorem nodup_len : ∀ (n : Nat) (l : List Nat), l.Nodup → (∀ q ∈ l, q < n) → l.length ≤ n
 | 0, l, _, h => by
  cases l with
  | nil => simp
  | cons x l => exact absurd (h x (by simp)) (by omega)
 | n + 1, l, hd, h => by
  have h1 := nodup_len n (l.erase n) (hd.erase n) (fun q hq => by
   have h2 := (hd.mem_erase_iff).1 hq
   have := h q h2.2
   have := h2.1
   omega)
  have h3 := List.length_erase (a := n) (l := l)
  split at h3 <;> omega
theorem take_get {α : Type} (l : List α) (d : α) (k : Nat) (hk : k < l.length) : l.take (k + 1) = l.take k ++ [l.getD k d] := by
 rw [List.take_succ_eq_append_getElem hk, List.getD_eq_getElem?_getD, List.getElem?_eq_getElem hk]; rfl
theorem roD_mem {l : List RO} {k : Nat} (hk : k < l.length) : l.getD k noRO ∈ l := by rw [List.getD_eq_getElem?_getD, List.getElem?_eq_getElem hk]; exact List.getElem_mem hk
theorem set_get (l : List RO) (k m : Nat) (o : RO) : (l.set k o).getD m noRO = if k = m ∧ m < l.length then o else l.getD m noRO := by
 rw [List.getD_eq_getElem?_getD, List.getElem?_set, List.getD_eq_getElem?_getD]
 by_cases e : k = m
 ·subst e
  by_cases h : k < l.length
  ·simp [h]
  ·simp [h]
 ·simp [e]
theorem row_is {w : World} {b : Nat} {e : TypeId} {s : Nat} {v : Value} {n : Nat} {xs : List Value} (h : w.ownsRow b e s v n xs) : ∃ p c, v = .slice p n c := by
 rcases h.2 with ⟨h2, h3⟩ | ⟨g, cap, cur, h2, _⟩
 ·exact ⟨none, 0, by rw [h2, h3]⟩
 ·exact ⟨_, cap, h2⟩
end Go.Proofs.YtklfnjlenbgmoaaDoor
namespace Go.Proofs.YtklfnjlenbgmoaaDoor
open Go.RowKit
attribute [local go_sem ↓] Go.wp_at_zero Go.wp_at_succ
theorem row_is2 {w : World} {b : Nat} {e : TypeId} {s : Nat} {v : Value} {n : Nat} {xs : List Value} (h : w.ownsRow b e s v n xs) : ∃ p c, v = .slice p n c := by
 rcases h.2 with ⟨h2, h3⟩ | ⟨g, cap, cur, h2, h3⟩
 ·exact ⟨none, 0, by rw [h2, h3]⟩
 ·exact ⟨_, cap, h2⟩
theorem take_get2 {α : Type} (l : List α) (d : α) (k : Nat) (hk : k < l.length) : l.take (k + 1) = l.take k ++ [l.getD k d] := by
 rw [List.take_succ_eq_append_getElem hk, List.getD_eq_getElem?_getD, List.getElem?_eq_getElem hk]; rfl
theorem infoRO2 : (Tryd.prog.info? 114).map (fun i => (i.zero, i.size, i.bytes)) = some (some (.agg #[.int .i64 0, .int .i64 0, .int .i64 0, .int .i64 0, .int .i64 0, .slice none 0 0]), 6, 64) := by kernel_rfl
theorem info137b : (Tryd.prog.info? 111).isSome = true := by kernel_rfl
def rCut (R : RS) (c : Nat) (v : Value) : RS := { R with objs := R.objs.take c, ov := v, turn := R.turn + 1 }
theorem RRep.cut {w V V' : World} {B r : Nat} {R : RS} {v : Value} {c : Nat} (h : RRep w B r R) (hf : Fr [] w V) (hown : V.ownsRow w.heap.size 114 6 v (R.objs.take c).length (roCells (R.objs.take c))) (he : Eqw ((V.setCell ⟨r, 5, none⟩ v).setCell ⟨r, 4, none⟩ (I (R.turn + 1))) V') : RRep V' B r (rCut R c v) ∧ Fr [r] w V' := by
 have hr := lt_of_heap h.top
 have hlo := h.lo
 have hV : ∀ i, i ≠ r → V'.heap[i]? = V.heap[i]? := fun i hi => by rw [he.2.2.2, set_else hi, set_else hi]
 have htop : V.heap[r]? = some (.cells (rcells R) 111 (0, 0)) := (hf.block r hr (by simp)).trans h.top
 refine ⟨⟨h.lo, ?_, ?_, fun o ho => ?_⟩, ?_⟩
 ·rw [he.2.2.2, set_in (set_in htop 5 _) 4 _]
  rfl
 ·have h2 : V'.ownsRow w.heap.size 114 6 v (R.objs.take c).length (roCells (R.objs.take c)) := own_congr hown fun g hg => hV g (fun e => by have := (hown.lt g hg).1; omega)
  exact own_base h2 (by omega)
 ·have hs := h.slots o ((List.take_sublist c R.objs).subset ho)
  refine own_congr hs fun g hg => ?_
  rw [hV g (fun e => ?_)]
  ·exact hf.block g (hs.lt g hg).2 (by simp)
  ·subst e
   have h2 := h.top
   rcases hs.2 with ⟨q1, _⟩ | ⟨g1, cap1, cur1, q1, q2, q3, _⟩
   ·rw [q1] at hg; simp [Value.ownBlock] at hg
   ·rw [q1] at hg
    have a1 : g1 = g := by simpa [Value.ownBlock] using hg
    subst a1
    rw [h2] at q3
    simp at q3
 ·have h1 : Fr [r] w (V.setCell ⟨r, 5, none⟩ v) := (hf.mono (by simp)).trans (Fr.setCell V ⟨r, 5, none⟩ v (S := [r]) (by simp)) (by simp)
  have h2 := h1.trans (Fr.setCell (V.setCell ⟨r, 5, none⟩ v) ⟨r, 4, none⟩ (I (R.turn + 1)) (S := [r]) (by simp)) (by simp)
  exact h2.trans (he.fr [r]) (by simp)
set_option maxRecDepth 20000 in
set_option maxHeartbeats 4000000 in
theorem rBack_cut (pb c : Nat) (B r : Nat) (R : RS) (w : World) (h : RRep w B r R) (ho : ROk R) (ht : R.turn ≤ 1000000000) (hcl : c ≤ R.objs.length) (hcut : ∀ k, k < R.objs.length → ((R.objs.getD k noRO).born < pb ↔ k < c)) (hpb : pb ≤ 1000000000000000) (hbb : ∀ o ∈ R.objs, o.born ≤ 1000000000000000) :
  Calls Tryd.prog 88 #[.pointer (some ⟨r, 0, none⟩), .agg #[.pointer (some ⟨r, 0, none⟩), .int .i64 (pb : Int), .int .i64 (R.turn : Int)]] w fun e w' => ∃ v, e = .returned (.int .i64 0) ∧ RRep w' B r (rCut R c v) ∧ Fr [r] w w' ∧ ∀ g, v.ownBlock = some g → w.heap.size ≤ g := by
 obtain ⟨i114, ii114, iz114, is114, ib114⟩ := info_parts infoRO2
 have hrl := lt_of_heap h.top
 obtain ⟨po, co, hov⟩ := h.ovIs
 have hl := ho.len
 have c4 : w.cell? ⟨r, 4, none⟩ = some (.int .i64 (R.turn : Int)) := by rw [h.c]; rfl
 have d4 := (World.cell?_alloc_lt w (.cells #[.pointer (some ⟨r, 0, none⟩), .int .i64 (pb : Int), .int .i64 (R.turn : Int)] 139) ⟨r, 4, none⟩ hrl).trans c4
 have HR := mkHid h
 have HO := mkHid ho
 have HOld := mkHid hcut
 have HA : Hid (Fr [] w (w.alloc (.cells #[.pointer (some ⟨r, 0, none⟩), .int .i64 (pb : Int), .int .i64 (R.turn : Int)] 139))) := Fr.alloc [] _ _
 have HP0 : Hid ((w.alloc (.cells #[.pointer (some ⟨r, 0, none⟩), .int .i64 (pb : Int), .int .i64 (R.turn : Int)] 139)).heap[w.heap.size]? = some (.cells #[.pointer (some ⟨r, 0, none⟩), .int .i64 (pb : Int), .int .i64 (R.turn : Int)] 139 (0, 0))) := heap_alloc_new _ _
 obtain ⟨j, hj⟩ := Option.isSome_iff_exists.1 info137b
 have hq := fun V => run_neq_ptr_same V ⟨r, 0, none⟩ Tryd.underlying42 hj
 clear h ho hcut hj
 go_enter Tryd.func88, Tryd.ntmps88
 go_wp2_with fail
 go_region
 all_goals go_wp2_with fail
 have HC : Hid (∀ V, Fr [] w V → V.cell? ⟨r, 5, none⟩ = some (.slice po R.objs.length co) ∧ V.cell? ⟨r, 4, none⟩ = some (.int .i64 (R.turn : Int)) ∧ V.frozen? ⟨r, 5, none⟩ = false ∧ V.frozen? ⟨r, 4, none⟩ = false) := fun V hV => by
  have h1 := HR.out.idle hV
  exact ⟨by rw [h1.c, ← hov]; rfl, by rw [h1.c]; rfl, frozen_in h1.top 5, frozen_in h1.top 4⟩
 obtain ⟨W1, hW1⟩ : ∃ W1, W1 = (w.alloc (.cells #[.pointer (some ⟨r, 0, none⟩), .int .i64 (pb : Int), .int .i64 (R.turn : Int)] 139)).drew := ⟨_, rfl⟩
 have F1 : Hid (Fr [] w W1) := by rw [hW1]; exact HA.out.trans (Fr.drew [] _) (by simp)
 have HP1 : Hid (W1.heap[w.heap.size]? = some (.cells #[.pointer (some ⟨r, 0, none⟩), .int .i64 (pb : Int), .int .i64 (R.turn : Int)] 139 (0, 0))) := by rw [hW1]; exact HP0.out
 rw [← hW1]
 clear hW1 d4 c4 HA HP0 hq
 go_loopw [5, 6] (fun v q wr => ∃ k : Nat, k ≤ R.objs.length ∧ q = .int .i64 k ∧ wr.ownsRow W1.heap.size 114 6 v (min k c) (roCells (R.objs.take (min k c))) ∧ Hid (Fr [] W1 wr)) (fun _ q _ => R.objs.length - (intOf q).toNat)
 case atStart => exact ⟨0, Nat.zero_le _, rfl, by rw [Nat.zero_min]; exact World.ownsRow_nil _ _ _ _, Fr.refl _ _⟩
 case round =>
  obtain ⟨k, hkn, rfl, hown, hfr⟩ := hrel
  have HFw : Hid (Fr [] w wr) := F1.out.trans hfr.out (by simp)
  have k1 : (0 : Int) ≤ (k : Int) := by omega
  by_cases hlt : k < R.objs.length
  ·have k2 : (k : Int) < (R.objs.length : Int) := by omega
   have HCl : Hid (∀ V, Fr [] w V → ∃ g c', po = some ⟨g, 0, none⟩ ∧ (V.cell? ⟨g, k * 6, none⟩ = some (I (R.objs.getD k noRO).oop) ∧ V.cell? ⟨g, k * 6 + 1, none⟩ = some (I (R.objs.getD k noRO).fmt) ∧ V.cell? ⟨g, k * 6 + 2, none⟩ = some (I (R.objs.getD k noRO).place) ∧ V.cell? ⟨g, k * 6 + 3, none⟩ = some (I (R.objs.getD k noRO).born) ∧ V.cell? ⟨g, k * 6 + 4, none⟩ = some (.int .i64 (R.objs.getD k noRO).cls) ∧ V.cell? ⟨g, k * 6 + 5, none⟩ = some (R.objs.getD k noRO).v)) := fun V hV => by
    have hRr := HR.out.idle hV
    obtain ⟨g, c', hv1, hc⟩ := hRr.at_ (by omega)
    rw [hov] at hv1
    injection hv1 with e1 e2 e3
    exact ⟨g, c', e1, hc k hlt⟩
   obtain ⟨p5, c5', hv5⟩ := HR.out.vIs k hlt
   have hold := HOld.out k hlt
   have hsn := take_get2 R.objs noRO k hlt
   have hob := HO.out.getD k hlt
   generalize hoo : R.objs.getD k noRO = o at *
   clear hoo
   obtain ⟨oo, of_, opl, obn, oc, os, oov⟩ := o
   dsimp only at *
   subst hv5
   have HSn := mkHid hsn
   obtain ⟨c5, c4, z5, z4⟩ := HC.out _ HFw.out
   obtain ⟨g, c', rfl, q0, q1, q2, q3, q4, q5⟩ := HCl.out _ HFw.out
   have b1 : wr.cell? ⟨w.heap.size, 1, none⟩ = some (.int .i64 (pb : Int)) := by rw [cell_in ((hfr.out.block _ (lt_of_heap HP1.out) (by simp)).trans HP1.out)]; rfl
   by_cases hkc : k < c
   ·have hbn : (obn : Int) < (pb : Int) := by have := hold.2 hkc; omega
    rw [Nat.min_eq_left (by omega)] at hown
    simp only [I] at q0 q1 q2 q3
    clear hsn
    go_upto_region 9 with (fail)
    go_quiet (fail)
    have FV : Fr [] wr (wr.drewN nq) := Fr.drewN [] _ _
    generalize wr.drewN nq = V at *
    have hownV : V.ownsRow W1.heap.size 114 6 _ k (roCells (R.objs.take k)) := own_congr hown fun b hb => FV.block b (hown.lt b hb).2 (by simp)
    have HFV : Hid (Fr [] W1 V) := hfr.out.trans FV (by simp)
    clear c5 c4 z5 z4 q0 q1 q2 q3 q4 q5 b1 hown FV
    obtain ⟨c5, c4, z5, z4⟩ := HC.out _ (F1.out.trans HFV.out (by simp))
    obtain ⟨g2, c2', e2, q0, q1, q2, q3, q4, q5⟩ := HCl.out _ (F1.out.trans HFV.out (by simp))
    injection e2 with e2
    injection e2 with e2
    subst e2
    simp only [I] at q0 q1 q2 q3
    have hown2 := hownV.alloc (.cells #[.int .i64 (oo : Int), .int .i64 (of_ : Int), .int .i64 (opl : Int), .int .i64 (obn : Int), .int .i64 oc, .slice p5 os.length c5'] 114)
    have HF7 : Hid (Fr [] W1 (V.alloc (.cells #[.int .i64 (oo : Int), .int .i64 (of_ : Int), .int .i64 (opl : Int), .int .i64 (obn : Int), .int .i64 oc, .slice p5 os.length c5'] 114))) := HFV.out.trans (Fr.alloc [] _ _) (by simp)
    clear hownV
    go_wp2_with (first
     | (at_builtin; refine wpList_append_own _ rfl (.tmp 42) (.tmp 50) 109 rfl W1.heap.size 114 i114 (.agg #[.int .i64 0, .int .i64 0, .int .i64 0, .int .i64 0, .int .i64 0, .slice none 0 0]) 6 64 Tryd.underlying109 ii114 iz114 is114 ib114 rfl (by decide) _ _ _ rfl hown2 ⟨V.heap.size, 0, none⟩ 1 1 [.int .i64 (oo : Int), .int .i64 (of_ : Int), .int .i64 (opl : Int), .int .i64 (obn : Int), .int .i64 oc, .slice p5 os.length c5'] rfl rfl ?d1 ?d2 ?d3 ?d4 ?d5 ?_)
     | go_in)
    case d2 => exact ⟨rfl, rfl, rfl, rfl, rfl, rfl⟩
    case d3 => unfold maxLen; omega
    case d4 => omega
    case d5 => have := HFV.out.size; omega
    intro v' w1 hown' hgrow _
    have hrow : w1.ownsRow W1.heap.size 114 6 v' (k + 1) (roCells (R.objs.take (k + 1))) := by
     rw [HSn.out, roCells_append]
     exact hown'
    have HG : Hid (Fr [] W1 w1) := by
     refine ⟨hgrow.os.trans HF7.out.os, hgrow.tape.trans HF7.out.tape, hgrow.output.trans HF7.out.output, Nat.le_trans HF7.out.size hgrow.size, fun i hi hn => ?_⟩
     rw [hgrow.block i (Nat.lt_of_lt_of_le hi HF7.out.size) (fun e => ?_)]
     ·exact HF7.out.block i hi hn
     ·have := (hown2.lt i e.symm).1
      omega
    have HO3 := mkHid hrow
    clear hrow hown' hgrow hown2 HF7
    go_wp2
    go_roundw
    case rel => exact ⟨k + 1, by omega, by go_num, by rw [Nat.min_eq_left (by omega)]; exact HO3.out, HG⟩
    case measure => simp [intOf]; omega
   ·have hbn : (pb : Int) ≤ (obn : Int) := by have := fun h => hkc (hold.1 h); omega
    rw [Nat.min_eq_right (by omega)] at hown
    simp only [I] at q0 q1 q2 q3
    clear hsn
    go_upto_region 9 with (fail)
    go_quiet (fail)
    have FV : Fr [] wr (wr.drewN nq) := Fr.drewN [] _ _
    generalize wr.drewN nq = V at *
    have hownV := own_congr hown fun b hb => FV.block b (hown.lt b hb).2 (by simp)
    have HFV : Hid (Fr [] W1 V) := hfr.out.trans FV (by simp)
    have HOV := mkHid hownV
    clear c5 c4 z5 z4 q0 q1 q2 q3 q4 q5 b1 hown FV hownV
    go_wp2_with fail
    go_roundw
    case rel => exact ⟨k + 1, by omega, by go_num, by rw [Nat.min_eq_right (by omega)]; exact HOV.out, HFV⟩
    case measure => simp [intOf]; omega
  ·have hke : k = R.objs.length := by omega
   subst hke
   rw [Nat.min_eq_right hcl] at hown
   obtain ⟨pv, cv, rfl⟩ := row_is2 hown
   have htl : (R.objs.take c).length = c := by rw [List.length_take]; omega
   obtain ⟨c5, c4, z5, z4⟩ := HC.out _ HFw.out
   have hown0 : wr.ownsRow w.heap.size 114 6 (.slice pv c cv) (R.objs.take c).length (roCells (R.objs.take c)) := by rw [htl]; exact own_base hown (by have := F1.out.size; omega)
   have HK : Hid (∀ V', Eqw ((wr.setCell ⟨r, 5, none⟩ (.slice pv c cv)).setCell ⟨r, 4, none⟩ (I (R.turn + 1))) V' → RRep V' B r (rCut R c (.slice pv c cv)) ∧ Fr [r] w V') := fun V' hV => HR.out.cut HFw.out hown0 hV
   have s5 : (wr.setCell ⟨r, 5, none⟩ (.slice pv c cv)).cell? ⟨r, 4, none⟩ = some (.int .i64 (R.turn : Int)) := by
    rw [cell_in (set_in (HR.out.idle HFw.out).top 5 _)]; rfl
   have s6 : (wr.setCell ⟨r, 5, none⟩ (.slice pv c cv)).frozen? ⟨r, 4, none⟩ = false := frozen_in (set_in (HR.out.idle HFw.out).top 5 _) 4
   have HFs : Hid (∀ g, (Value.slice pv c cv).ownBlock = some g → w.heap.size ≤ g) := fun g hg => (hown0.lt g hg).1
   clear hown hown0
   go_upto_region 12 with (fail)
   generalize hV7 : wr.setCell ⟨r, 5, none⟩ (.slice pv c cv) = V7 at *
   clear hV7 c5 c4 z5 z4
   go_wp2_with fail
   go_ret
   obtain ⟨h1, h2⟩ := HK.out _ ⟨rfl, rfl, rfl, rfl⟩
   exact ⟨_, rfl, h1, h2, HFs.out⟩
theorem roCells_len (l : List RO) : (roCells l).length = l.length * 6 := by
 induction l with
 | nil => rfl
 | cons o t ih =>
  have e : roCells (o :: t) = ro6 o ++ roCells t := by simp [roCells]
  rw [e, List.length_append, ih]
  simp [ro6]
  omega
theorem roCells_app (a b : List RO) : roCells (a ++ b) = roCells a ++ roCells b := by simp [roCells]
theorem roCells_drop (l : List RO) (k : Nat) : roCells (l.drop k) = (roCells l).drop (k * 6) := by
 by_cases hk : k ≤ l.length
 ·have e : roCells l = roCells (l.take k) ++ roCells (l.drop k) := by rw [← roCells_app, List.take_append_drop]
  rw [e, List.drop_left']
  rw [roCells_len, List.length_take, Nat.min_eq_left hk]
 ·rw [List.drop_eq_nil_of_le (by omega), List.drop_eq_nil_of_le (by rw [roCells_len]; omega)]
  rfl
theorem roCells_take (l : List RO) (k : Nat) : roCells (l.take k) = (roCells l).take (k * 6) := by
 by_cases hk : k ≤ l.length
 ·have e : roCells l = roCells (l.take k) ++ roCells (l.drop k) := by rw [← roCells_app, List.take_append_drop]
  rw [e, List.take_left']
  rw [roCells_len, List.length_take, Nat.min_eq_left hk]
 ·rw [List.take_of_length_le (by omega), List.take_of_length_le (by rw [roCells_len]; omega)]
theorem roCells_one {l : List RO} {x : Value} (h : ∀ o ∈ l, ∃ p n c, o.v = .slice p n c) (hx : x ∈ roCells l) : x.oneCell' = true := by
 unfold roCells at hx
 obtain ⟨o, ho, hx⟩ := List.mem_flatMap.1 hx
 obtain ⟨p, n, c, e⟩ := h o ho
 unfold ro6 at hx
 rw [e] at hx
 simp only [List.mem_cons, List.not_mem_nil, or_false, I] at hx
 rcases hx with rfl | rfl | rfl | rfl | rfl | rfl <;> rfl
set_option maxRecDepth 20000 in
set_option maxHeartbeats 1000000 in
theorem without_ok (k : Nat) (B r : Nat) (R : RS) (w : World) (h : RRep w B r R) (hl : R.objs.length ≤ 1048576) (hk : k < R.objs.length) :
  Calls Tryd.prog 110 #[R.ov, .int .i64 (k : Int)] w fun e w' => ∃ v, e = .returned v ∧ w'.ownsRow w.heap.size 114 6 v (R.objs.take k ++ R.objs.drop (k + 1)).length (roCells (R.objs.take k ++ R.objs.drop (k + 1))) ∧ Fr [] w w' := by
 obtain ⟨i114, ii114, iz114, is114, ib114⟩ := info_parts infoRO2
 obtain ⟨g, c, hov, -⟩ := h.at_ (by omega)
 have hrow := h.row
 have hcap : R.objs.length ≤ c := by
  rcases hrow.2 with ⟨h2, h3⟩ | ⟨g', cap', cur', h2, h3, h4, h5⟩
  ·rw [hov] at h2; cases h2
  ·rw [hov] at h2
   injection h2 with _ _ e
   subst e
   exact h5.1
 have hone : ∀ x ∈ roCells R.objs, x.oneCell' = true := fun x hx => roCells_one (fun o ho => by
  obtain ⟨p, c, e⟩ := row_is (h.slots o ho)
  exact ⟨p, _, c, e⟩) hx
 rw [hov] at hrow ⊢
 have hcell : ∀ j, j < R.objs.length * 6 → w.cell? ⟨g, j, none⟩ = (roCells R.objs)[j]? := fun j hj => hrow.cellAt j hj
 have hgl : g < w.heap.size := (hrow.lt g rfl).2
 have HC := mkHid hcell
 have HOne := mkHid hone
 have k1 : (0 : Int) ≤ (k : Int) := by omega
 have k2 : (k : Int) ≤ (c : Int) := by omega
 have k3 : (k : Int) + 1 ≤ (R.objs.length : Int) := by omega
 have k4 : (R.objs.length : Int) ≤ (c : Int) := by omega
 have kw : IntKind.i64.wrap ((k : Int) + 1) = (k : Int) + 1 := by rw [iwrap]; unfold wrap64; omega
 clear h hrow hcell hone
 have hown0 : w.ownsRow w.heap.size 114 6 (.slice none 0 0) 0 [] := World.ownsRow_nil _ _ _ _
 go_enter Tryd.func110, Tryd.ntmps110
 go_wp2_with (first
  | (at_builtin; refine wpList_append_own _ rfl (.tmp 6) (.tmp 9) 109 rfl w.heap.size 114 i114 (.agg #[.int .i64 0, .int .i64 0, .int .i64 0, .int .i64 0, .int .i64 0, .slice none 0 0]) 6 64 Tryd.underlying109 ii114 iz114 is114 ib114 rfl (by decide) _ _ _ rfl hown0 ⟨g, 0, none⟩ k c (roCells (R.objs.take k)) rfl ?a1 ?a2 ?a3 ?a4 ?a5 ?a6 ?_)
  | fail)
 case a1 => rw [roCells_len, List.length_take, Nat.min_eq_left (by omega)]
 case a2 =>
  intro j u hu
  rw [roCells_take, List.getElem?_take] at hu
  split at hu
  ·rw [Addr.add_mid, Nat.zero_add, HC.out j (by omega)]; exact hu
  ·cases hu
 case a3 => exact fun u hu => HOne.out u (by rw [roCells_take] at hu; exact List.mem_of_mem_take hu)
 case a4 => unfold maxLen; omega
 case a5 => omega
 case a6 => exact Nat.le_refl _
 intro v1 w1 hown1 hgrow1 _
 replace hown1 : w1.ownsRow w.heap.size 114 6 v1 k (roCells (R.objs.take k)) := by first | exact hown1 | (have h := hown1; rw [Nat.zero_add] at h; exact h)
 have hF1 : Fr [] w w1 := Fr.grown hgrow1 (fun b hb => by simp [Value.ownBlock] at hb)
 have hC1 : ∀ j, j < R.objs.length * 6 → w1.cell? ⟨g, j, none⟩ = (roCells R.objs)[j]? := fun j hj => (hF1.cell (p := ⟨g, j, none⟩) hgl (by simp)).trans (HC.out j hj)
 have HC1 := mkHid hC1
 obtain ⟨p1, c1, hv1⟩ := row_is hown1
 subst hv1
 have HF1 := mkHid hF1
 have hz1 := hF1.size
 clear hgrow1 hC1 hF1 HC hown0
 by_cases hck : c = k + 1
 ·have hl0 : R.objs.length = k + 1 := by omega
  have hd0 : R.objs.drop (k + 1) = [] := List.drop_eq_nil_of_le (by omega)
  rw [hl0, hck] at *
  go_wp2_with (first
   | (at_builtin; refine wpList_append_own _ rfl (.tmp 11) (.tmp 15) 109 rfl w.heap.size 114 i114 (.agg #[.int .i64 0, .int .i64 0, .int .i64 0, .int .i64 0, .int .i64 0, .slice none 0 0]) 6 64 Tryd.underlying109 ii114 iz114 is114 ib114 rfl (by decide) _ _ _ rfl hown1 _ 0 _ [] rfl rfl (fun j u hu => by simp at hu) (fun u hu => by simp at hu) ?b4 ?b5 ?b6 ?_)
   | fail)
  case b4 => unfold maxLen; omega
  case b5 => omega
  intro v2 w2 hown2 hgrow2 _
  have hF2 : Fr [] w w2 := by
   refine ⟨hgrow2.os.trans HF1.out.os, hgrow2.tape.trans HF1.out.tape, hgrow2.output.trans HF1.out.output, Nat.le_trans HF1.out.size hgrow2.size, fun i hi hn => ?_⟩
   rw [hgrow2.block i (by omega) (fun e => by have := (hown1.lt i e.symm).1; omega)]
   exact HF1.out.block i hi hn
  have hown3 : w2.ownsRow w.heap.size 114 6 v2 (R.objs.take k ++ R.objs.drop (k + 1)).length (roCells (R.objs.take k ++ R.objs.drop (k + 1))) := by
   rw [hd0, List.append_nil, List.length_take, Nat.min_eq_left (by omega)]
   exact hown2
  have HE := mkHid (And.intro hown3 hF2)
  clear hown1 hown2 hgrow2 hF2 hown3 HF1 HC1
  go_wp2_with fail
  go_ret
  exact ⟨v2, rfl, HE.out.1, HE.out.2⟩
 ·have hck2 : (c : Int) ≠ (k : Int) + 1 := by omega
  go_wp2_with (first
   | (at_builtin; refine wpList_append_own _ rfl (.tmp 11) (.tmp 15) 109 rfl w.heap.size 114 i114 (.agg #[.int .i64 0, .int .i64 0, .int .i64 0, .int .i64 0, .int .i64 0, .slice none 0 0]) 6 64 Tryd.underlying109 ii114 iz114 is114 ib114 rfl (by decide) _ _ _ rfl hown1 ⟨g, (k + 1) * 6, none⟩ (R.objs.length - (k + 1)) (c - (k + 1)) (roCells (R.objs.drop (k + 1))) rfl ?b1 ?b2 ?b3 ?b4 ?b5 ?b6 ?_)
   | fail)
  case b1 => rw [roCells_len, List.length_drop]
  case b2 =>
   intro j u hu
   have hj : j < (roCells (R.objs.drop (k + 1))).length := (List.getElem?_eq_some_iff.1 hu).1
   rw [roCells_len, List.length_drop] at hj
   rw [roCells_drop, List.getElem?_drop] at hu
   rw [Addr.add_mid, HC1.out _ (by omega)]
   exact hu
  case b3 => exact fun u hu => HOne.out u (by rw [roCells_drop] at hu; exact List.mem_of_mem_drop hu)
  case b4 => unfold maxLen; omega
  case b5 => omega
  intro v2 w2 hown2 hgrow2 _
  have hF2 : Fr [] w w2 := by
   refine ⟨hgrow2.os.trans HF1.out.os, hgrow2.tape.trans HF1.out.tape, hgrow2.output.trans HF1.out.output, Nat.le_trans HF1.out.size hgrow2.size, fun i hi hn => ?_⟩
   rw [hgrow2.block i (by omega) (fun e => by have := (hown1.lt i e.symm).1; omega)]
   exact HF1.out.block i hi hn
  have hown3 : w2.ownsRow w.heap.size 114 6 v2 (R.objs.take k ++ R.objs.drop (k + 1)).length (roCells (R.objs.take k ++ R.objs.drop (k + 1))) := by
   rw [List.length_append, List.length_take, List.length_drop, Nat.min_eq_left (by omega), roCells_app]
   exact hown2
  have HE := mkHid (And.intro hown3 hF2)
  clear hown1 hown2 hgrow2 hF2 hown3 HF1 HC1
  go_wp2_with fail
  go_ret
  exact ⟨v2, rfl, HE.out.1, HE.out.2⟩
def rDrop (R : RS) (k : Nat) (v : Value) : RS := { R with objs := R.objs.take k ++ R.objs.drop (k + 1), ov := v, turn := R.turn + 1 }
theorem RRep.drop {w V V' : World} {B r : Nat} {R : RS} {v : Value} {k : Nat} (h : RRep w B r R) (hf : Fr [] w V) (hown : V.ownsRow w.heap.size 114 6 v (R.objs.take k ++ R.objs.drop (k + 1)).length (roCells (R.objs.take k ++ R.objs.drop (k + 1)))) (he : Eqw ((V.setCell ⟨r, 5, none⟩ v).setCell ⟨r, 4, none⟩ (I (R.turn + 1))) V') : RRep V' B r (rDrop R k v) ∧ Fr [r] w V' := by
 have hr := lt_of_heap h.top
 have hlo := h.lo
 have hV : ∀ i, i ≠ r → V'.heap[i]? = V.heap[i]? := fun i hi => by rw [he.2.2.2, set_else hi, set_else hi]
 have htop : V.heap[r]? = some (.cells (rcells R) 111 (0, 0)) := (hf.block r hr (by simp)).trans h.top
 refine ⟨⟨h.lo, ?_, ?_, fun o ho => ?_⟩, ?_⟩
 ·rw [he.2.2.2, set_in (set_in htop 5 _) 4 _]
  rfl
 ·have h2 := own_congr (w' := V') hown fun g hg => hV g (fun e => by have := (hown.lt g hg).1; omega)
  exact own_base h2 (by omega)
 ·have ho2 : o ∈ R.objs := by
   rcases List.mem_append.1 ho with h1 | h1
   ·exact List.mem_of_mem_take h1
   ·exact List.mem_of_mem_drop h1
  have hs := h.slots o ho2
  refine own_congr hs fun g hg => ?_
  rw [hV g (h.ne111 hs (by decide) g hg)]
  exact hf.block g (hs.lt g hg).2 (by simp)
 ·have h1 : Fr [r] w (V.setCell ⟨r, 5, none⟩ v) := (hf.mono (by simp)).trans (Fr.setCell V ⟨r, 5, none⟩ v (S := [r]) (by simp)) (by simp)
  have h2 := h1.trans (Fr.setCell (V.setCell ⟨r, 5, none⟩ v) ⟨r, 4, none⟩ (I (R.turn + 1)) (S := [r]) (by simp)) (by simp)
  exact h2.trans (he.fr [r]) (by simp)
theorem rFree_no (oop : Int) (B r : Nat) (R : RS) (w : World) (h : RRep w B r R) (hl : R.objs.length ≤ 1048576) (hn : RNo R oop) : Calls Tryd.prog 79 #[.pointer (some ⟨r, 0, none⟩), .int .i64 oop] w fun e w' => e = .returned (.int .i64 20) ∧ w' = w := by
 have HF := mkHid (rfind_no oop B r R w h hl hn)
 clear h
 go_enter Tryd.func79, Tryd.ntmps79
 go_wp2_with fail
 refine Calls.mono HF.out ?_
 rintro e w2 ⟨rfl, hw⟩
 rw [hw]
 clear hw w2
 go_wp2_with fail
 go_ret
 exact ⟨rfl, rfl⟩
set_option maxRecDepth 20000 in
set_option maxHeartbeats 1000000 in
theorem rFree_ok (oop : Int) (B r : Nat) (R : RS) (w : World) (h : RRep w B r R) (hl : R.objs.length ≤ 1048576) (hn : ¬ RNo R oop) (ht : R.turn ≤ 1000000000) : Calls Tryd.prog 79 #[.pointer (some ⟨r, 0, none⟩), .int .i64 oop] w fun e w' => e = .returned (.int .i64 0) ∧ ∃ k v, RIs R oop k ∧ RRep w' B r (rDrop R k v) ∧ Fr [r] w w' ∧ ∀ g, v.ownBlock = some g → w.heap.size ≤ g := by
 obtain ⟨k, hk, hf⟩ := rfind_yes oop B r R w h hl hn
 have HF := mkHid hf
 have HW := mkHid (without_ok k B r R w h hl hk.1)
 obtain ⟨po, co, hov⟩ := h.ovIs
 rw [hov] at HW
 have c5 : w.cell? ⟨r, 5, none⟩ = some (.slice po R.objs.length co) := by rw [h.c, ← hov]; rfl
 have HR := mkHid h
 have HI := mkHid hk
 have k1 : (0 : Int) ≤ (k : Int) := by omega
 clear h hf hk
 go_enter Tryd.func79, Tryd.ntmps79
 go_wp2_with fail
 refine Calls.mono HF.out ?_
 rintro e w2 ⟨rfl, hw⟩
 rw [hw]
 clear hw w2
 go_wp2_with fail
 refine Calls.mono HW.out ?_
 rintro e w1 ⟨v, rfl, hown, hf1⟩
 obtain ⟨pv, cv, hv⟩ := row_is hown
 subst hv
 have hR1 := HR.out.idle hf1
 have z5 : w1.frozen? ⟨r, 5, none⟩ = false := frozen_in hR1.top 5
 have y5 : w1.cell? ⟨r, 5, none⟩ = some (.slice po R.objs.length co) := by rw [hR1.c, ← hov]; rfl
 have y4 : w1.cell? ⟨r, 4, none⟩ = some (.int .i64 (R.turn : Int)) := by rw [hR1.c]; rfl
 have z4 : w1.frozen? ⟨r, 4, none⟩ = false := frozen_in hR1.top 4
 generalize hln : (R.objs.take k ++ R.objs.drop (k + 1)).length = ln at *
 have HK : Hid (∀ V', Eqw ((w1.setCell ⟨r, 5, none⟩ (.slice pv ln cv)).setCell ⟨r, 4, none⟩ (I (R.turn + 1))) V' → RRep V' B r (rDrop R k (.slice pv ln cv)) ∧ Fr [r] w V') := fun V' hV => HR.out.drop hf1 (by rw [hln]; exact hown) hV
 have s5 : (w1.setCell ⟨r, 5, none⟩ (.slice pv ln cv)).cell? ⟨r, 4, none⟩ = some (.int .i64 (R.turn : Int)) := by
  rw [cell_in (set_in hR1.top 5 _)]; rfl
 have s6 : (w1.setCell ⟨r, 5, none⟩ (.slice pv ln cv)).frozen? ⟨r, 4, none⟩ = false := frozen_in (set_in hR1.top 5 _) 4
 have HFs : Hid (∀ g, (Value.slice pv ln cv).ownBlock = some g → w.heap.size ≤ g) := fun g hg => (hown.lt g hg).1
 clear hown hf1 hR1 HW HF
 go_upto_region 7 with (fail)
 generalize hV7 : w1.setCell ⟨r, 5, none⟩ (.slice pv ln cv) = V7 at *
 clear hV7 y5 y4 z5 z4 c5
 go_wp2_with fail
 go_ret
 obtain ⟨h1, h2⟩ := HK.out _ ⟨rfl, rfl, rfl, rfl⟩
 exact ⟨rfl, k, _, HI.out, h1, h2, HFs.out⟩
set_option maxRecDepth 20000 in
set_option maxHeartbeats 1000000 in
theorem rLowest_ok (M : MS) (B r : Nat) (R : RS) (w : World) (h : RRep w B r R) (hl : R.objs.length ≤ 1048576) (hd : Doc M R) (hlen : M.things.length ≤ 65538) : Calls Tryd.prog 109 #[.pointer (some ⟨r, 0, none⟩)] w fun e w' => e = .returned (.int .i64 (lowTo M.things : Int)) ∧ w' = w := by
 have hle := lowTo_le M.things
 obtain ⟨f1, f2⟩ := lowTo_free M.things
 have hp : 1 ≤ lowTo M.things := by unfold lowTo; omega
 have HF : Hid (∀ k : Nat, 1 ≤ k → k ≤ lowTo M.things → ∃ z : Int, (0 ≤ z ↔ k < lowTo M.things) ∧ Calls Tryd.prog 55 #[.pointer (some ⟨r, 0, none⟩), .int .i64 (k : Int)] w fun e w' => e = .returned (.int .i64 z) ∧ w' = w) := by
  intro k k1 k2
  by_cases hk : k < lowTo M.things
  ·have hb : (M.things.getD (k - 1) noTh).there = true := f2 (k - 1) (by omega)
   have hy : mhas M (k : Int) = true := by
    have := mhas_of (M := M) (k - 1) (th_in hb) hb
    rwa [show ((k - 1 : Nat) : Int) + 1 = (k : Int) from by omega] at this
   obtain ⟨j, -, hf⟩ := rfind_yes (k : Int) B r R w h hl (hd.yes hy)
   exact ⟨j, ⟨fun _ => hk, fun _ => by omega⟩, hf⟩
  ·have hk2 : k = lowTo M.things := by omega
   have hn : RNo R (k : Int) := (hd.no _).2 (by
    refine decide_eq_false (fun hc => ?_)
    have h3 := hc.2.2
    rw [Int.toNat_natCast, hk2, f1] at h3
    cases h3)
   exact ⟨-1, ⟨fun hz => by omega, fun hz => absurd hz hk⟩, rfind_no (k : Int) B r R w h hl hn⟩
 clear h hd f1 f2
 generalize lowTo M.things = low at *
 go_enter Tryd.func109, Tryd.ntmps109
 go_wp2_with fail
 go_loopw [3] (fun q wr => ∃ k : Nat, 1 ≤ k ∧ k ≤ low ∧ q = .int .i64 k ∧ wr = w) (fun q _ => low - (intOf q).toNat)
 case atStart => exact ⟨1, Nat.le_refl _, hp, rfl, rfl⟩
 case round =>
  obtain ⟨k, k1, k2, rfl, rfl⟩ := hrel
  obtain ⟨z, hz, hf⟩ := HF.out k k1 k2
  have HF2 := mkHid hf
  clear hf
  by_cases hk : k < low
  ·have z0 : (0 : Int) ≤ z := hz.2 hk
   have kk : (k : Int) ≤ 65539 := by omega
   go_wp2_with fail
   refine Calls.mono HF2.out ?_
   rintro e w2 ⟨rfl, hw⟩
   rw [hw]
   clear hw w2
   go_wp2_with fail
   go_roundw
   case rel => exact ⟨k + 1, by omega, by omega, by go_num, trivial⟩
   case measure => simp [intOf]; omega
  ·have z0 : z < (0 : Int) := by
    have := fun h => hk (hz.1 h)
    omega
   have hke : k = low := by omega
   subst hke
   go_wp2_with fail
   refine Calls.mono HF2.out ?_
   rintro e w2 ⟨rfl, hw⟩
   rw [hw]
   clear hw w2
   go_wp2_with fail
   go_ret
   exact ⟨rfl, rfl⟩
theorem rAlloc_nil (X A B : Int) (w : World) : Calls Tryd.prog 77 #[.pointer none, .int .i64 X, .int .i64 A, .int .i64 B] w fun e w' => e = .returned (.tuple #[.int .i64 0, .int .i64 2]) ∧ w' = w := by
 go_enter Tryd.func77, Tryd.ntmps77
 go_wp2_with fail
 go_ret2
 exact ⟨rfl, rfl⟩
theorem rAlloc_arg (X A B : Int) (B0 r : Nat) (R : RS) (w : World) (h : RRep w B0 r R) (hbad : isW X = false ∨ A < 0 ∨ B < 0 ∨ 1 < B) : Calls Tryd.prog 77 #[.pointer (some ⟨r, 0, none⟩), .int .i64 X, .int .i64 A, .int .i64 B] w fun e w' => e = .returned (.tuple #[.int .i64 0, .int .i64 1]) ∧ w' = w := by
 have HK := mkHid (rKind_any X)
 have hisW : isW X = (kindOf X != 0) := rfl
 generalize kindOf X = kx at *
 have hbad2 : ((kx == 0) = true) ∨ ((kx == 0) = false ∧ B < 0) ∨ ((kx == 0) = false ∧ 0 ≤ B ∧ 1 < B) ∨ ((kx == 0) = false ∧ 0 ≤ B ∧ B ≤ 1 ∧ A < 0) := by
  rw [hisW] at hbad
  by_cases hk0 : kx = 0
  ·left; simp [hk0]
  ·have e1 : (kx == 0) = false := by simpa using hk0
   have e2 : (kx != 0) = true := by simpa using hk0
   right
   rcases hbad with h | h | h | h
   ·rw [e2] at h; cases h
   ·by_cases h1 : B < 0
    ·exact .inl ⟨e1, h1⟩
    ·by_cases h2 : 1 < B
     ·exact .inr (.inl ⟨e1, by omega, h2⟩)
     ·exact .inr (.inr ⟨e1, by omega, by omega, h⟩)
   ·exact .inl ⟨e1, h⟩
   ·by_cases h1 : B < 0
    ·exact .inl ⟨e1, h1⟩
    ·exact .inr (.inl ⟨e1, by omega, h⟩)
 clear hbad hisW h
 rcases hbad2 with h | ⟨h, h4⟩ | ⟨h, h4, h5⟩ | ⟨h, h4, h5, h6⟩
 all_goals
  go_enter Tryd.func77, Tryd.ntmps77
  go_wp2_with (go_at_call 56; refine Calls.mono (HK.out _) ?_; rintro e w1 ⟨rfl, hw1⟩; rw [hw1]; clear hw1 w1)
  go_ret2
  exact ⟨rfl, rfl⟩
theorem rAlloc_size (X : Int) (n f : Nat) (B0 r : Nat) (R : RS) (w : World) (h : RRep w B0 r R) (hW : isW X = true) (hf : f ≤ 1) (hbig : 8192 < (n : Int)) : Calls Tryd.prog 77 #[.pointer (some ⟨r, 0, none⟩), .int .i64 X, .int .i64 n, .int .i64 f] w fun e w' => e = .returned (.tuple #[.int .i64 0, .int .i64 22]) ∧ w' = w := by
 have HK := mkHid (rKind_any X)
 have hkx : (kindOf X == 0) = false := by
  have h2 : (kindOf X != 0) = true := hW
  have : kindOf X ≠ 0 := by simpa using h2
  simpa using this
 generalize kindOf X = kx at *
 have k1 : (0 : Int) ≤ (f : Int) := by omega
 have k2 : (f : Int) ≤ 1 := by omega
 have k3 : (0 : Int) ≤ (n : Int) := by omega
 clear hW h
 go_enter Tryd.func77, Tryd.ntmps77
 go_wp2_with (go_at_call 56; refine Calls.mono (HK.out _) ?_; rintro e w1 ⟨rfl, hw1⟩; rw [hw1]; clear hw1 w1)
 go_ret2
 exact ⟨rfl, rfl⟩
structure AlR (X : Int) (n f : Nat) (B0 r : Nat) (R : RS) (w : World) : Prop where
 rep : RRep w B0 r R
 ok : ROk R
 w_ : isW X = true
 f_ : f ≤ 1
 n_ : (n : Int) ≤ 8192
 words : (R.words : Int) ≤ 1048576
 oops : (R.oops : Int) ≤ 65536
 fin : (rEnd R.objs : Int) ≤ 1048576
set_option maxRecDepth 20000 in
set_option maxHeartbeats 1000000 in
theorem rAlloc_full (X : Int) (n f : Nat) (B0 r : Nat) (R : RS) (w : World) (h : AlR X n f B0 r R w) (hfull : R.oops ≤ R.objs.length ∨ R.words < rEnd R.objs + lenN n f) : Calls Tryd.prog 77 #[.pointer (some ⟨r, 0, none⟩), .int .i64 X, .int .i64 n, .int .i64 f] w fun e w' => e = .returned (.tuple #[.int .i64 0, .int .i64 23]) ∧ Fr [] w w' := by
 have HK := mkHid (rKind_any X)
 have hkx : (kindOf X == 0) = false := by
  have h2 : (kindOf X != 0) = true := h.w_
  have : kindOf X ≠ 0 := by simpa using h2
  simpa using this
 generalize kindOf X = kx at *
 have k1 : (0 : Int) ≤ (f : Int) := by omega
 have k2 : (f : Int) ≤ 1 := by have := h.f_; omega
 have k3 : (0 : Int) ≤ (n : Int) := by omega
 have k4 := h.n_
 have k5 := h.words
 have k6 := h.oops
 have k7 := h.fin
 have k8 := h.ok.len
 obtain ⟨po, co, hov⟩ := h.rep.ovIs
 have hL2 : (lenN n f : Int) ≤ 10000 := by unfold lenN; split <;> omega
 have HLen : Hid (∀ V, Calls Tryd.prog 59 #[.int .i64 n, .int .i64 f] V fun e w' => e = .returned (.int .i64 ((lenN n f : Nat) : Int)) ∧ w' = V) := fun V => refLen_any n f V (by omega)
 have HEnd : Hid (∀ V, Hid (Fr [] w V) → Calls Tryd.prog 58 #[.pointer (some ⟨r, 0, none⟩)] V fun e w' => e = .returned (.int .i64 (rEnd R.objs : Nat)) ∧ Hid (Fr [] w w')) := fun V hV => Calls.mono (rend_any B0 r R V (h.rep.idle hV.out) h.ok) (by rintro e w' ⟨rfl, hf⟩; exact ⟨rfl, hV.out.trans hf (by simp)⟩)
 have KS : Hid (∀ V, Hid (Fr [] w V) → V.cell? ⟨r, 5, none⟩ = some (.slice po R.objs.length co) ∧ V.cell? ⟨r, 1, none⟩ = some (.int .i64 (R.oops : Int)) ∧ V.cell? ⟨r, 0, none⟩ = some (.int .i64 (R.words : Int)) ∧ Hid (Fr [] w V)) := fun V hV => by
  have h1 := h.rep.idle hV.out
  exact ⟨by rw [h1.c, ← hov]; rfl, by rw [h1.c]; rfl, by rw [h1.c]; rfl, hV⟩
 have F1 : Hid (Fr [] w w) := Fr.refl _ _
 obtain ⟨c5, c1, c0, -⟩ := KS.out w F1
 have hf2 : ((R.oops : Int) ≤ (R.objs.length : Int)) ∨ ((R.objs.length : Int) < (R.oops : Int) ∧ (R.words : Int) < (rEnd R.objs : Int) + (lenN n f : Int)) := by omega
 clear h hfull
 generalize rEnd R.objs = EN at *
 generalize lenN n f = L at *
 have zw : IntKind.i64.wrap ((EN : Int) + (L : Int)) = (EN : Int) + (L : Int) := by rw [iwrap]; unfold wrap64; omega
 rcases hf2 with hx | ⟨hx, hx2⟩
 ·have hdec : decide (R.oops ≤ R.objs.length) = true := decide_eq_true (by omega)
  go_enter Tryd.func77, Tryd.ntmps77
  go_wp2_with (go_at_call 56; refine Calls.mono (HK.out _) ?_; rintro e w1 ⟨rfl, hw1⟩; rw [hw1]; clear hw1 w1)
  go_quiet (fail)
  go_wp2_with fail
  go_ret2
  exact ⟨rfl, Fr.drewN [] _ _⟩
 ·have hdec : decide (R.oops ≤ R.objs.length) = false := decide_eq_false (by omega)
  go_enter Tryd.func77, Tryd.ntmps77
  go_wp2_with (go_at_call 56; refine Calls.mono (HK.out _) ?_; rintro e w1 ⟨rfl, hw1⟩; rw [hw1]; clear hw1 w1)
  go_region_held3 (fun w' => w'.cell? ⟨r, 5, none⟩ = some (.slice po R.objs.length co) ∧ w'.cell? ⟨r, 1, none⟩ = some (.int .i64 (R.oops : Int)) ∧ w'.cell? ⟨r, 0, none⟩ = some (.int .i64 (R.words : Int)) ∧ Hid (Fr [] w w')) (exact KS.out _ (by first | assumption | exact hid_drew (by assumption) | (go_split_ands; first | assumption | exact hid_drew (by assumption))))
   (first
    | (go_at_call 58; refine (HEnd.out _ (by first | assumption | exact hid_drew (by assumption) | (go_split_ands; first | assumption | exact hid_drew (by assumption)))).mono ?_; rintro e w' ⟨rfl, hf'⟩)
    | (go_at_call 59; refine (HLen.out _).mono ?_; rintro e w' ⟨rfl, rfl⟩))
  have F2 : Hid (Fr [] w w') := by assumption
  go_wp2_with fail
  go_ret2
  exact ⟨rfl, F2.out⟩
end Go.Proofs.YtklfnjlenbgmoaaDoor
