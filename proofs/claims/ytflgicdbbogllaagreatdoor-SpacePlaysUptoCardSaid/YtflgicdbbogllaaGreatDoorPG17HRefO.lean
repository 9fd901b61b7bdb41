import Derived.Test.YtflgicdbbogllaaGreatDoorPHDcA
import Derived.Test.YtflgicdbbogllaaGreatDoorPG14HLoadT
set_option maxHeartbeats 4000000
set_option maxRecDepth 20000
set_option linter.unusedSimpArgs false
set_option linter.unusedVariables false
namespace Go.Proofs.YtflgicdbbogllaaGreatDoor
open Go.RowKit Tryz
open Value (int)
open IntKind (i64)
attribute [local go_sem ↓] wp_at_zero wp_at_succ
variable {B b c k n r s : Nat} {R : RS} {V V' w : World} {l : List RO} {v : Value} {xs : List Value}
theorem kGg : ∀ (n : Nat) (l : List Nat), l.Nodup → (∀ q ∈ l, q < n) → l.length ≤ n
 | 0, l, _, h => by
  cases l with
  | nil => simp
  | cons x l => exact absurd (h x (by simp)) (by omega)
 | n + 1, l, hd, h => by
  have h1 := kGg n (l.erase n) (hd.erase n) (fun q hq => by
   have h2 := (hd.mem_erase_iff).1 hq;have := h q h2.2;have := h2.1;omega)
  have h3 := List.length_erase (a := n) (l := l)
  split at h3 <;> omega
theorem kNN {α : Type} (l : List α) (d : α) (k : Nat) (hk : k < l.length) : l.take (k + 1) = l.take k ++ [l.getD k d] := by
 rw [jAO hk, jAA, jAB hk]; rfl
theorem kEc (hk : k < l.length) : l.getD k noRO ∈ l := by rw [jAA, jAB hk]; exact jAT hk
theorem kPx (l : List RO) (k m : Nat) (o : RO) : (l.set k o).getD m noRO = if k = m ∧ m < l.length then o else l.getD m noRO := by
 rw [jAA, jAh, jAA]
 by_cases e : k = m
 ·subst e
  by_cases h : k < l.length
  ·simp [h]
  ·simp [h]
 ·simp [e]
theorem kAv {e : TypeId} (h : w.ownsRow b e s v n xs) : ∃ p c, v = .slice p n c := by
 rcases h.2 with ⟨h2, h3⟩ | ⟨g, cap, cur, h2, _⟩
 ·exact ⟨none, 0, by rw [h2, h3]⟩
 ·exact ⟨_, cap, h2⟩
theorem kPT {e : TypeId} (h : w.ownsRow b e s v n xs) : ∃ p c, v = .slice p n c := by
 rcases h.2 with ⟨h2, h3⟩ | ⟨g, cap, cur, h2, h3⟩
 ·exact ⟨none, 0, by rw [h2, h3]⟩
 ·exact ⟨_, cap, h2⟩
theorem kLh {α : Type} (l : List α) (d : α) (k : Nat) (hk : k < l.length) : l.take (k + 1) = l.take k ++ [l.getD k d] := by
 rw [jAO hk, jAA, jAB hk]; rfl
theorem kHm : (prog.info? 143).map (fun i => (i.zero, i.size, i.bytes)) = some (some (.agg #[int i64 0, int i64 0, int i64 0, int i64 0, int i64 0, .slice none 0 0]), 6, 64) := by kernel_rfl
theorem kNQ : (prog.info? 99).isSome = true := by kernel_rfl
def rCut (R : RS) (c : Nat) (v : Value) : RS := { R with fE := R.fE.take c, ov := v, fO := R.fO + 1 }
theorem RRep.cut (h : RRep w B r R) (hf : Fr [] w V) (hown : V.ownsRow w.heap.size 143 6 v (R.fE.take c).length (kAH (R.fE.take c))) (he : Eqw ((V.setCell ⟨r, 5, none⟩ v).setCell ⟨r, 4, none⟩ (I (R.fO + 1))) V') : RRep V' B r (rCut R c v) ∧ Fr [r] w V' := by
 have hr := kAB h.top;have hlo := h.lo;have hV : ∀ i, i ≠ r → V'.heap[i]? = V.heap[i]? := fun i hi => by rw [he.2.2.2, kAK hi, kAK hi]
 have htop : V.heap[r]? = some (.cells (kDh R) 99 (0, 0)) := (hf.block r hr (by simp)).trans h.top;refine ⟨⟨h.lo, ?_, ?_, fun o ho => ?_⟩, ?_⟩
 ·rw [he.2.2.2, kAI (kAI htop 5 _) 4 _];rfl
 ·have h2 : V'.ownsRow w.heap.size 143 6 v (R.fE.take c).length (kAH (R.fE.take c)) := kAE hown fun g hg => hV g (fun e => by have := (hown.lt g hg).1; omega)
  exact kAV h2 (by omega)
 ·have hs := h.fB o ((List.take_sublist c R.fE).subset ho);refine kAE hs fun g hg => ?_
  rw [hV g (fun e => ?_)]
  ·exact hf.block g (hs.lt g hg).2 (by simp)
  ·subst e;have h2 := h.top;rcases hs.2 with ⟨q1, _⟩ | ⟨g1, cap1, cur1, q1, q2, q3, _⟩
   ·rw [q1] at hg; simp [Value.ownBlock] at hg
   ·rw [q1] at hg;have a1 : g1 = g := by simpa [Value.ownBlock] using hg
    subst a1;rw [h2] at q3
    simp at q3
 ·have h1 : Fr [r] w (V.setCell ⟨r, 5, none⟩ v) := (hf.mono (by simp)).trans (Fr.setCell V ⟨r, 5, none⟩ v (S := [r]) (by simp)) (by simp);have h2 := h1.trans (Fr.setCell (V.setCell ⟨r, 5, none⟩ v) ⟨r, 4, none⟩ (I (R.fO + 1)) (S := [r]) (by simp)) (by simp);exact h2.trans (he.fr [r]) (by simp)
theorem kKA (pb c : Nat) (B r : Nat) (R : RS) (w : World) (h : RRep w B r R) (ho : ROk R) (ht : R.fO ≤ 1000000000) (hcl : c ≤ R.fE.length) (hcut : ∀ k, k < R.fE.length → ((R.fE.getD k noRO).fL < pb ↔ k < c)) (hpb : pb ≤ 1000000000000000) (hbb : ∀ o ∈ R.fE, o.fL ≤ 1000000000000000) :
  Calls prog 68 #[.pointer (some ⟨r, 0, none⟩), .agg #[.pointer (some ⟨r, 0, none⟩), int i64 pb, int i64 R.fO]] w fun e w' => ∃ v, e = .returned (int i64 0) ∧ RRep w' B r (rCut R c v) ∧ Fr [r] w w' ∧ ∀ g, v.ownBlock = some g → w.heap.size ≤ g := by
 obtain ⟨i114, ii114, iz114, is114, ib114⟩ := info_parts kHm;have hrl := kAB h.top;obtain ⟨po, co, hov⟩ := h.ovIs;have hl := ho.len;have c4 : w.cell? ⟨r, 4, none⟩ = some (int i64 R.fO) := by rw [h.c]; rfl
 have d4 := (jAE w (.cells #[.pointer (some ⟨r, 0, none⟩), int i64 pb, int i64 R.fO] 54) ⟨r, 4, none⟩ hrl).trans c4;have HR := kAA h;have HO := kAA ho;have HOld := kAA hcut;have HA : Hid (Fr [] w (w.alloc (.cells #[.pointer (some ⟨r, 0, none⟩), int i64 pb, int i64 R.fO] 54))) := Fr.alloc [] _ _;have HP0 : Hid ((w.alloc (.cells #[.pointer (some ⟨r, 0, none⟩), int i64 pb, int i64 R.fO] 54)).heap[w.heap.size]? = some (.cells #[.pointer (some ⟨r, 0, none⟩), int i64 pb, int i64 R.fO] 54 (0, 0))) := heap_alloc_new _ _;obtain ⟨j, hj⟩ := jAv.1 kNQ;have hq := fun V => kBa V ⟨r, 0, none⟩ underlying50 hj
 clear h ho hcut hj;go_enter func68, ntmps68
 go_wp2_with fail
 go_region
 all_goals go_wp2_with fail
 have HC : Hid (∀ V, Fr [] w V → V.cell? ⟨r, 5, none⟩ = some (.slice po R.fE.length co) ∧ V.cell? ⟨r, 4, none⟩ = some (int i64 R.fO) ∧ V.frozen? ⟨r, 5, none⟩ = false ∧ V.frozen? ⟨r, 4, none⟩ = false) := fun V hV => by
  have h1 := HR.out.fK hV;exact ⟨by rw [h1.c, ← hov]; rfl, by rw [h1.c]; rfl, kAD h1.top 5, kAD h1.top 4⟩
 obtain ⟨W1, hW1⟩ := jex ((w.alloc (.cells #[.pointer (some ⟨r, 0, none⟩), int i64 pb, int i64 R.fO] 54)).drew);have F1 : Hid (Fr [] w W1) := by rw [hW1]; exact HA.out.trans (Fr.drew [] _) (by simp)
 have HP1 : Hid (W1.heap[w.heap.size]? = some (.cells #[.pointer (some ⟨r, 0, none⟩), int i64 pb, int i64 R.fO] 54 (0, 0))) := by rw [hW1]; exact HP0.out
 rw [← hW1];clear hW1 d4 c4 HA HP0 hq
 go_loopw [5, 6] (fun v q wr => ∃ k : Nat, k ≤ R.fE.length ∧ q = int i64 k ∧ wr.ownsRow W1.heap.size 143 6 v (min k c) (kAH (R.fE.take (min k c))) ∧ Hid (Fr [] W1 wr)) (fun _ q _ => R.fE.length - (intOf q).toNat)
 case atStart => exact ⟨0, jAH _, rfl, by rw [Nat.zero_min]; exact jAS _ _ _ _, Fr.refl _ _⟩
 case round =>
  obtain ⟨k, hkn, rfl, hown, hfr⟩ := hrel;have HFw : Hid (Fr [] w wr) := F1.out.trans hfr.out (by simp);have k1 := ng k
  by_cases hlt : k < R.fE.length
  ·have k2 : (k : Int) < R.fE.length := by omega
   have HCl : Hid (∀ V, Fr [] w V → ∃ g c', po = some ⟨g, 0, none⟩ ∧ (V.cell? ⟨g, k * 6, none⟩ = some (I (R.fE.getD k noRO).oop) ∧ V.cell? ⟨g, k * 6 + 1, none⟩ = some (I (R.fE.getD k noRO).fmt) ∧ V.cell? ⟨g, k * 6 + 2, none⟩ = some (I (R.fE.getD k noRO).fJ) ∧ V.cell? ⟨g, k * 6 + 3, none⟩ = some (I (R.fE.getD k noRO).fL) ∧ V.cell? ⟨g, k * 6 + 4, none⟩ = some (int i64 (R.fE.getD k noRO).cls) ∧ V.cell? ⟨g, k * 6 + 5, none⟩ = some (R.fE.getD k noRO).v)) := fun V hV => by
    have hRr := HR.out.fK hV;obtain ⟨g, c', hv1, hc⟩ := hRr.at_ (by omega);rw [hov] at hv1
    injection hv1 with e1 e2 e3
    exact ⟨g, c', e1, hc k hlt⟩
   obtain ⟨p5, c5', hv5⟩ := HR.out.vIs k hlt;have hold := HOld.out k hlt;have hsn := kLh R.fE noRO k hlt;have hob := HO.out.getD k hlt;generalize hoo : R.fE.getD k noRO = o at *;clear hoo;obtain ⟨oo, of_, opl, obn, oc, os, oov⟩ := o;dsimp only at *;subst hv5;have HSn := kAA hsn;obtain ⟨c5, c4, z5, z4⟩ := HC.out _ HFw.out;obtain ⟨g, c', rfl, q0, q1, q2, q3, q4, q5⟩ := HCl.out _ HFw.out;have b1 : wr.cell? ⟨w.heap.size, 1, none⟩ = some (int i64 pb) := by rw [kAC ((hfr.out.block _ (kAB HP1.out) (by simp)).trans HP1.out)]; rfl
   by_cases hkc : k < c
   ·have hbn : (obn : Int) < pb := by have := hold.2 hkc; omega
    rw [jBK (by omega)] at hown;simp only [I] at q0 q1 q2 q3;clear hsn
    go_upto_region 9 with (fail)
    go_quiet (fail)
    have FV : Fr [] wr (wr.drewN nq) := Fr.drewN [] _ _;generalize wr.drewN nq = V at *;have hownV : V.ownsRow W1.heap.size 143 6 _ k (kAH (R.fE.take k)) := kAE hown fun b hb => FV.block b (hown.lt b hb).2 (by simp)
    have HFV : Hid (Fr [] W1 V) := hfr.out.trans FV (by simp);clear c5 c4 z5 z4 q0 q1 q2 q3 q4 q5 b1 hown FV;obtain ⟨c5, c4, z5, z4⟩ := HC.out _ (F1.out.trans HFV.out (by simp));obtain ⟨g2, c2', e2, q0, q1, q2, q3, q4, q5⟩ := HCl.out _ (F1.out.trans HFV.out (by simp))
    injection e2 with e2
    injection e2 with e2
    subst e2;simp only [I] at q0 q1 q2 q3;have hown2 := hownV.alloc (.cells #[int i64 oo, int i64 of_, int i64 opl, int i64 obn, int i64 oc, .slice p5 os.length c5'] 143);have HF7 : Hid (Fr [] W1 (V.alloc (.cells #[int i64 oo, int i64 of_, int i64 opl, int i64 obn, int i64 oc, .slice p5 os.length c5'] 143))) := HFV.out.trans (Fr.alloc [] _ _) (by simp);clear hownV
    go_wp2_with (first | (at_builtin; refine wpList_append_own _ rfl (.tmp 42) (.tmp 50) 97 rfl W1.heap.size 143 i114 (.agg #[int i64 0, int i64 0, int i64 0, int i64 0, int i64 0, .slice none 0 0]) 6 64 underlying97 ii114 iz114 is114 ib114 rfl (by decide) _ _ _ rfl hown2 ⟨V.heap.size, 0, none⟩ 1 1 [int i64 oo, int i64 of_, int i64 opl, int i64 obn, int i64 oc, .slice p5 os.length c5'] rfl rfl ?d1 ?d2 ?d3 ?d4 ?d5 ?_) | go_in)
    case d2 => exact ⟨rfl, rfl, rfl, rfl, rfl, rfl⟩
    case d3 => unfold maxLen; omega
    case d4 => omega
    case d5 => have := HFV.out.size; omega
    intro v' w1 hown' hgrow _
    have hrow : w1.ownsRow W1.heap.size 143 6 v' (k + 1) (kAH (R.fE.take (k + 1))) := by
     rw [HSn.out, kBs];exact hown'
    have HG : Hid (Fr [] W1 w1) := by
     refine ⟨hgrow.os.trans HF7.out.os, hgrow.tape.trans HF7.out.tape, hgrow.output.trans HF7.out.output, jAU HF7.out.size hgrow.size, fun i hi hn => ?_⟩;rw [hgrow.block i (jAb hi HF7.out.size) (fun e => ?_)]
     ·exact HF7.out.block i hi hn
     ·have := (hown2.lt i e.symm).1;omega
    have HO3 := kAA hrow;clear hrow hown' hgrow hown2 HF7
    go_wp2
    go_roundw
    case rel => exact ⟨k + 1, by omega, by go_num, by rw [jBK (by omega)]; exact HO3.out, HG⟩
    case measure => simp [intOf]; omega
   ·have hbn : (pb : Int) ≤ obn := by have := fun h => hkc (hold.1 h); omega
    rw [Nat.min_eq_right (by omega)] at hown;simp only [I] at q0 q1 q2 q3;clear hsn
    go_upto_region 9 with (fail)
    go_quiet (fail)
    have FV : Fr [] wr (wr.drewN nq) := Fr.drewN [] _ _;generalize wr.drewN nq = V at *;have hownV := kAE hown fun b hb => FV.block b (hown.lt b hb).2 (by simp)
    have HFV : Hid (Fr [] W1 V) := hfr.out.trans FV (by simp);have HOV := kAA hownV;clear c5 c4 z5 z4 q0 q1 q2 q3 q4 q5 b1 hown FV hownV
    go_wp2_with fail
    go_roundw
    case rel => exact ⟨k + 1, by omega, by go_num, by rw [Nat.min_eq_right (by omega)]; exact HOV.out, HFV⟩
    case measure => simp [intOf]; omega
  ·have hke : k = R.fE.length := by omega
   subst hke;rw [Nat.min_eq_right hcl] at hown;obtain ⟨pv, cv, rfl⟩ := kPT hown;have htl : (R.fE.take c).length = c := by rw [jAk]; omega
   obtain ⟨c5, c4, z5, z4⟩ := HC.out _ HFw.out;have hown0 : wr.ownsRow w.heap.size 143 6 (.slice pv c cv) (R.fE.take c).length (kAH (R.fE.take c)) := by rw [htl]; exact kAV hown (by have := F1.out.size; omega)
   have HK : Hid (∀ V', Eqw ((wr.setCell ⟨r, 5, none⟩ (.slice pv c cv)).setCell ⟨r, 4, none⟩ (I (R.fO + 1))) V' → RRep V' B r (rCut R c (.slice pv c cv)) ∧ Fr [r] w V') := fun V' hV => HR.out.cut HFw.out hown0 hV
   have s5 : (wr.setCell ⟨r, 5, none⟩ (.slice pv c cv)).cell? ⟨r, 4, none⟩ = some (int i64 R.fO) := by
    rw [kAC (kAI (HR.out.fK HFw.out).top 5 _)]; rfl
   have s6 : (wr.setCell ⟨r, 5, none⟩ (.slice pv c cv)).frozen? ⟨r, 4, none⟩ = false := kAD (kAI (HR.out.fK HFw.out).top 5 _) 4;have HFs : Hid (∀ g, (Value.slice pv c cv).ownBlock = some g → w.heap.size ≤ g) := fun g hg => (hown0.lt g hg).1
   clear hown hown0
   go_upto_region 12 with (fail)
   generalize hV7 : wr.setCell ⟨r, 5, none⟩ (.slice pv c cv) = V7 at *;clear hV7 c5 c4 z5 z4
   go_wp2_with fail
   go_ret
   obtain ⟨h1, h2⟩ := HK.out _ ⟨rfl, rfl, rfl, rfl⟩;exact ⟨_, rfl, h1, h2, HFs.out⟩
theorem kBb (l : List RO) : (kAH l).length = l.length * 6 := by
 induction l with
 | nil => rfl
 | cons o t ih =>
  have e : kAH (o :: t) = ro6 o ++ kAH t := by simp [kAH]
  rw [e, jAG, ih]
  simp [ro6]
  omega
theorem kDT (a b : List RO) : kAH (a ++ b) = kAH a ++ kAH b := by simp [kAH]
theorem kEH (l : List RO) (k : Nat) : kAH (l.drop k) = (kAH l).drop (k * 6) := by
 by_cases hk : k ≤ l.length
 ·have e : kAH l = kAH (l.take k) ++ kAH (l.drop k) := by rw [← kDT, jAt]
  rw [e, List.drop_left'];rw [kBb, jAk, jBK hk]
 ·rw [List.drop_eq_nil_of_le (by omega), List.drop_eq_nil_of_le (by rw [kBb]; omega)];rfl
theorem kEM (l : List RO) (k : Nat) : kAH (l.take k) = (kAH l).take (k * 6) := by
 by_cases hk : k ≤ l.length
 ·have e : kAH l = kAH (l.take k) ++ kAH (l.drop k) := by rw [← kDT, jAt]
  rw [e, List.take_left'];rw [kBb, jAk, jBK hk]
 ·rw [jBO (by omega), jBO (by rw [kBb]; omega)]
theorem kHP {x : Value} (h : ∀ o ∈ l, ∃ p n c, o.v = .slice p n c) (hx : x ∈ kAH l) : x.oneCell' = true := by
 unfold kAH at hx;obtain ⟨o, ho, hx⟩ := jAd.1 hx;obtain ⟨p, n, c, e⟩ := h o ho;unfold ro6 at hx;rw [e] at hx;simp only [jAF, List.not_mem_nil, or_false, I] at hx;rcases hx with rfl | rfl | rfl | rfl | rfl | rfl <;> rfl
theorem kJb (k : Nat) (B r : Nat) (R : RS) (w : World) (h : RRep w B r R) (hl : R.fE.length ≤ 1048576) (hk : k < R.fE.length) :
  Calls prog 115 #[R.ov, int i64 k] w fun e w' => ∃ v, e = .returned v ∧ w'.ownsRow w.heap.size 143 6 v (R.fE.take k ++ R.fE.drop (k + 1)).length (kAH (R.fE.take k ++ R.fE.drop (k + 1))) ∧ Fr [] w w' := by
 obtain ⟨i114, ii114, iz114, is114, ib114⟩ := info_parts kHm;obtain ⟨g, c, hov, -⟩ := h.at_ (by omega);have hrow := h.row
 have hcap : R.fE.length ≤ c := by
  rcases hrow.2 with ⟨h2, h3⟩ | ⟨g', cap', cur', h2, h3, h4, h5⟩
  ·rw [hov] at h2; cases h2
  ·rw [hov] at h2
   injection h2 with _ _ e
   subst e;exact h5.1
 have hone : ∀ x ∈ kAH R.fE, x.oneCell' = true := fun x hx => kHP (fun o ho => by
  obtain ⟨p, c, e⟩ := kAv (h.fB o ho);exact ⟨p, _, c, e⟩) hx
 rw [hov] at hrow ⊢;have hcell : ∀ j, j < R.fE.length * 6 → w.cell? ⟨g, j, none⟩ = (kAH R.fE)[j]? := fun j hj => hrow.cellAt j hj
 have hgl : g < w.heap.size := (hrow.lt g rfl).2;have HC := kAA hcell;have HOne := kAA hone;have k1 := ng k;have k2 : (k : Int) ≤ c := by omega
 have k3 : (k : Int) + 1 ≤ (R.fE.length : Int) := by omega
 have k4 : (R.fE.length : Int) ≤ c := by omega
 have kw : IntKind.i64.wrap ((k : Int) + 1) = (k : Int) + 1 := by rw [kBp]; unfold wrap64; omega
 clear h hrow hcell hone;have hown0 : w.ownsRow w.heap.size 143 6 (.slice none 0 0) 0 [] := jAS _ _ _ _;go_enter func115, ntmps115
 go_wp2_with (first | (at_builtin; refine wpList_append_own _ rfl (.tmp 6) (.tmp 9) 97 rfl w.heap.size 143 i114 (.agg #[int i64 0, int i64 0, int i64 0, int i64 0, int i64 0, .slice none 0 0]) 6 64 underlying97 ii114 iz114 is114 ib114 rfl (by decide) _ _ _ rfl hown0 ⟨g, 0, none⟩ k c (kAH (R.fE.take k)) rfl ?a1 ?a2 ?a3 ?a4 ?a5 ?a6 ?_) | fail)
 case a1 => rw [kBb, jAk, jBK (by omega)]
 case a2 =>
  intro j u hu;rw [kEM, jAx] at hu
  split at hu
  ·rw [Addr.add_mid, jAl, HC.out j (by omega)]; exact hu
  ·cases hu
 case a3 => exact fun u hu => HOne.out u (by rw [kEM] at hu; exact jBj hu)
 case a4 => unfold maxLen; omega
 case a5 => omega
 case a6 => exact jAD _
 intro v1 w1 hown1 hgrow1 _;replace hown1 : w1.ownsRow w.heap.size 143 6 v1 k (kAH (R.fE.take k)) := by first | exact hown1 | (have h := hown1; rw [jAl] at h; exact h)
 have hF1 : Fr [] w w1 := Fr.grown hgrow1 (fun b hb => by simp [Value.ownBlock] at hb);have hC1 : ∀ j, j < R.fE.length * 6 → w1.cell? ⟨g, j, none⟩ = (kAH R.fE)[j]? := fun j hj => (hF1.cell (p := ⟨g, j, none⟩) hgl (by simp)).trans (HC.out j hj)
 have HC1 := kAA hC1;obtain ⟨p1, c1, hv1⟩ := kAv hown1;subst hv1;have HF1 := kAA hF1;have hz1 := hF1.size;clear hgrow1 hC1 hF1 HC hown0
 by_cases hck : c = k + 1
 ·have hl0 : R.fE.length = k + 1 := by omega
  have hd0 : R.fE.drop (k + 1) = [] := List.drop_eq_nil_of_le (by omega);rw [hl0, hck] at *
  go_wp2_with (first | (at_builtin; refine wpList_append_own _ rfl (.tmp 11) (.tmp 15) 97 rfl w.heap.size 143 i114 (.agg #[int i64 0, int i64 0, int i64 0, int i64 0, int i64 0, .slice none 0 0]) 6 64 underlying97 ii114 iz114 is114 ib114 rfl (by decide) _ _ _ rfl hown1 _ 0 _ [] rfl rfl (fun j u hu => by simp at hu) (fun u hu => by simp at hu) ?b4 ?b5 ?b6 ?_) | fail)
  case b4 => unfold maxLen; omega
  case b5 => omega
  intro v2 w2 hown2 hgrow2 _
  have hF2 : Fr [] w w2 := by
   refine ⟨hgrow2.os.trans HF1.out.os, hgrow2.tape.trans HF1.out.tape, hgrow2.output.trans HF1.out.output, jAU HF1.out.size hgrow2.size, fun i hi hn => ?_⟩;rw [hgrow2.block i (by omega) (fun e => by have := (hown1.lt i e.symm).1; omega)];exact HF1.out.block i hi hn
  have hown3 : w2.ownsRow w.heap.size 143 6 v2 (R.fE.take k ++ R.fE.drop (k + 1)).length (kAH (R.fE.take k ++ R.fE.drop (k + 1))) := by
   rw [hd0, jAz, jAk, jBK (by omega)];exact hown2
  have HE := kAA (And.intro hown3 hF2);clear hown1 hown2 hgrow2 hF2 hown3 HF1 HC1
  go_wp2_with fail
  go_ret
  exact ⟨v2, rfl, HE.out.1, HE.out.2⟩
 ·have hck2 : (c : Int) ≠ (k : Int) + 1 := by omega
  go_wp2_with (first | (at_builtin; refine wpList_append_own _ rfl (.tmp 11) (.tmp 15) 97 rfl w.heap.size 143 i114 (.agg #[int i64 0, int i64 0, int i64 0, int i64 0, int i64 0, .slice none 0 0]) 6 64 underlying97 ii114 iz114 is114 ib114 rfl (by decide) _ _ _ rfl hown1 ⟨g, (k + 1) * 6, none⟩ (R.fE.length - (k + 1)) (c - (k + 1)) (kAH (R.fE.drop (k + 1))) rfl ?b1 ?b2 ?b3 ?b4 ?b5 ?b6 ?_) | fail)
  case b1 => rw [kBb, jBl]
  case b2 =>
   intro j u hu;have hj : j < (kAH (R.fE.drop (k + 1))).length := (jAc.1 hu).1;rw [kBb, jBl] at hj;rw [kEH, jBp] at hu;rw [Addr.add_mid, HC1.out _ (by omega)];exact hu
  case b3 => exact fun u hu => HOne.out u (by rw [kEH] at hu; exact List.mem_of_mem_drop hu)
  case b4 => unfold maxLen; omega
  case b5 => omega
  intro v2 w2 hown2 hgrow2 _
  have hF2 : Fr [] w w2 := by
   refine ⟨hgrow2.os.trans HF1.out.os, hgrow2.tape.trans HF1.out.tape, hgrow2.output.trans HF1.out.output, jAU HF1.out.size hgrow2.size, fun i hi hn => ?_⟩;rw [hgrow2.block i (by omega) (fun e => by have := (hown1.lt i e.symm).1; omega)];exact HF1.out.block i hi hn
  have hown3 : w2.ownsRow w.heap.size 143 6 v2 (R.fE.take k ++ R.fE.drop (k + 1)).length (kAH (R.fE.take k ++ R.fE.drop (k + 1))) := by
   rw [jAG, jAk, jBl, jBK (by omega), kDT];exact hown2
  have HE := kAA (And.intro hown3 hF2);clear hown1 hown2 hgrow2 hF2 hown3 HF1 HC1
  go_wp2_with fail
  go_ret
  exact ⟨v2, rfl, HE.out.1, HE.out.2⟩
def kMi (R : RS) (k : Nat) (v : Value) : RS := { R with fE := R.fE.take k ++ R.fE.drop (k + 1), ov := v, fO := R.fO + 1 }
theorem RRep.drop (h : RRep w B r R) (hf : Fr [] w V) (hown : V.ownsRow w.heap.size 143 6 v (R.fE.take k ++ R.fE.drop (k + 1)).length (kAH (R.fE.take k ++ R.fE.drop (k + 1)))) (he : Eqw ((V.setCell ⟨r, 5, none⟩ v).setCell ⟨r, 4, none⟩ (I (R.fO + 1))) V') : RRep V' B r (kMi R k v) ∧ Fr [r] w V' := by
 have hr := kAB h.top;have hlo := h.lo;have hV : ∀ i, i ≠ r → V'.heap[i]? = V.heap[i]? := fun i hi => by rw [he.2.2.2, kAK hi, kAK hi]
 have htop : V.heap[r]? = some (.cells (kDh R) 99 (0, 0)) := (hf.block r hr (by simp)).trans h.top;refine ⟨⟨h.lo, ?_, ?_, fun o ho => ?_⟩, ?_⟩
 ·rw [he.2.2.2, kAI (kAI htop 5 _) 4 _];rfl
 ·have h2 := kAE (w' := V') hown fun g hg => hV g (fun e => by have := (hown.lt g hg).1; omega)
  exact kAV h2 (by omega)
 ·have ho2 : o ∈ R.fE := by
   rcases jAC.1 ho with h1 | h1
   ·exact jBj h1
   ·exact List.mem_of_mem_drop h1
  have hs := h.fB o ho2;refine kAE hs fun g hg => ?_
  rw [hV g (h.ne111 hs (by decide) g hg)];exact hf.block g (hs.lt g hg).2 (by simp)
 ·have h1 : Fr [r] w (V.setCell ⟨r, 5, none⟩ v) := (hf.mono (by simp)).trans (Fr.setCell V ⟨r, 5, none⟩ v (S := [r]) (by simp)) (by simp);have h2 := h1.trans (Fr.setCell (V.setCell ⟨r, 5, none⟩ v) ⟨r, 4, none⟩ (I (R.fO + 1)) (S := [r]) (by simp)) (by simp);exact h2.trans (he.fr [r]) (by simp)
theorem kMs (oop : Int) (B r : Nat) (R : RS) (w : World) (h : RRep w B r R) (hl : R.fE.length ≤ 1048576) (hn : RNo R oop) : Calls prog 71 #[.pointer (some ⟨r, 0, none⟩), int i64 oop] w fun e w' => e = .returned (int i64 20) ∧ w' = w := by
 have HF := kAA (kDF oop B r R w h hl hn);clear h;go_enter func71, ntmps71
 go_wp2_with fail
 refine HF.out.mono ?_;rintro e w2 ⟨rfl, hw⟩;rw [hw];clear hw w2
 go_wp2_with fail
 go_ret
 exact ⟨rfl, rfl⟩
theorem kNW (oop : Int) (B r : Nat) (R : RS) (w : World) (h : RRep w B r R) (hl : R.fE.length ≤ 1048576) (hn : ¬ RNo R oop) (ht : R.fO ≤ 1000000000) : Calls prog 71 #[.pointer (some ⟨r, 0, none⟩), int i64 oop] w fun e w' => e = .returned (int i64 0) ∧ ∃ k v, RIs R oop k ∧ RRep w' B r (kMi R k v) ∧ Fr [r] w w' ∧ ∀ g, v.ownBlock = some g → w.heap.size ≤ g := by
 obtain ⟨k, hk, hf⟩ := kCX oop B r R w h hl hn;have HF := kAA hf;have HW := kAA (kJb k B r R w h hl hk.1);obtain ⟨po, co, hov⟩ := h.ovIs;rw [hov] at HW;have c5 : w.cell? ⟨r, 5, none⟩ = some (.slice po R.fE.length co) := by rw [h.c, ← hov]; rfl
 have HR := kAA h;have HI := kAA hk;have k1 := ng k;clear h hf hk;go_enter func71, ntmps71
 go_wp2_with fail
 refine HF.out.mono ?_;rintro e w2 ⟨rfl, hw⟩;rw [hw];clear hw w2
 go_wp2_with fail
 refine HW.out.mono ?_;rintro e w1 ⟨v, rfl, hown, hf1⟩;obtain ⟨pv, cv, hv⟩ := kAv hown;subst hv;have hR1 := HR.out.fK hf1;have z5 : w1.frozen? ⟨r, 5, none⟩ = false := kAD hR1.top 5;have y5 : w1.cell? ⟨r, 5, none⟩ = some (.slice po R.fE.length co) := by rw [hR1.c, ← hov]; rfl
 have y4 : w1.cell? ⟨r, 4, none⟩ = some (int i64 R.fO) := by rw [hR1.c]; rfl
 have z4 : w1.frozen? ⟨r, 4, none⟩ = false := kAD hR1.top 4;generalize hln : (R.fE.take k ++ R.fE.drop (k + 1)).length = ln at *;have HK : Hid (∀ V', Eqw ((w1.setCell ⟨r, 5, none⟩ (.slice pv ln cv)).setCell ⟨r, 4, none⟩ (I (R.fO + 1))) V' → RRep V' B r (kMi R k (.slice pv ln cv)) ∧ Fr [r] w V') := fun V' hV => HR.out.drop hf1 (by rw [hln]; exact hown) hV
 have s5 : (w1.setCell ⟨r, 5, none⟩ (.slice pv ln cv)).cell? ⟨r, 4, none⟩ = some (int i64 R.fO) := by
  rw [kAC (kAI hR1.top 5 _)]; rfl
 have s6 : (w1.setCell ⟨r, 5, none⟩ (.slice pv ln cv)).frozen? ⟨r, 4, none⟩ = false := kAD (kAI hR1.top 5 _) 4;have HFs : Hid (∀ g, (Value.slice pv ln cv).ownBlock = some g → w.heap.size ≤ g) := fun g hg => (hown.lt g hg).1
 clear hown hf1 hR1 HW HF
 go_upto_region 7 with (fail)
 generalize hV7 : w1.setCell ⟨r, 5, none⟩ (.slice pv ln cv) = V7 at *;clear hV7 y5 y4 z5 z4 c5
 go_wp2_with fail
 go_ret
 obtain ⟨h1, h2⟩ := HK.out _ ⟨rfl, rfl, rfl, rfl⟩;exact ⟨rfl, k, _, HI.out, h1, h2, HFs.out⟩
theorem kIt (M : MS) (B r : Nat) (R : RS) (w : World) (h : RRep w B r R) (hl : R.fE.length ≤ 1048576) (hd : Doc M R) (hlen : M.fA.length ≤ 65538) : Calls prog 100 #[.pointer (some ⟨r, 0, none⟩)] w fun e w' => e = .returned (int i64 (kAf M.fA : Int)) ∧ w' = w := by
 have hle := kDH M.fA;obtain ⟨f1, f2⟩ := kDK M.fA;have hp : 1 ≤ kAf M.fA := by unfold kAf; omega
 have HF : Hid (∀ k : Nat, 1 ≤ k → k ≤ kAf M.fA → ∃ z : Int, (0 ≤ z ↔ k < kAf M.fA) ∧ Calls prog 106 #[.pointer (some ⟨r, 0, none⟩), int i64 k] w fun e w' => e = .returned (int i64 z) ∧ w' = w) := by
  intro k k1 k2
  by_cases hk : k < kAf M.fA
  ·have hb : (M.fA.getD (k - 1) noTh).fI = true := f2 (k - 1) (by omega)
   have hy : mhas M (k : Int) = true := by
    have := kDu (M := M) (k - 1) (kAs hb) hb
    rwa [show ((k - 1 : Nat) : Int) + 1 = (k : Int) from by omega] at this
   obtain ⟨j, -, hf⟩ := kCX (k : Int) B r R w h hl (hd.yes hy);exact ⟨j, ⟨fun _ => hk, fun _ => by omega⟩, hf⟩
  ·have hk2 : k = kAf M.fA := by omega
   have hn : RNo R (k : Int) := (hd.no _).2 (by
    refine decide_eq_false (fun hc => ?_);have h3 := hc.2.2;rw [jAj, hk2, f1] at h3
    cases h3)
   exact ⟨-1, ⟨fun hz => by omega, fun hz => absurd hz hk⟩, kDF (k : Int) B r R w h hl hn⟩
 clear h hd f1 f2;generalize kAf M.fA = low at *;go_enter func100, ntmps100
 go_wp2_with fail
 go_loopw [3] (fun q wr => ∃ k : Nat, 1 ≤ k ∧ k ≤ low ∧ q = int i64 k ∧ wr = w) (fun q _ => low - (intOf q).toNat)
 case atStart => exact ⟨1, jAD _, hp, rfl, rfl⟩
 case round =>
  obtain ⟨k, k1, k2, rfl, rfl⟩ := hrel;obtain ⟨z, hz, hf⟩ := HF.out k k1 k2;have HF2 := kAA hf;clear hf
  by_cases hk : k < low
  ·have z0 : (0 : Int) ≤ z := hz.2 hk;have kk : (k : Int) ≤ 65539 := by omega
   go_wp2_with fail
   refine HF2.out.mono ?_;rintro e w2 ⟨rfl, hw⟩;rw [hw];clear hw w2
   go_wp2_with fail
   go_roundw
   case rel => exact ⟨k + 1, by omega, by omega, by go_num, trivial⟩
   case measure => simp [intOf]; omega
  ·have z0 : z < (0 : Int) := by
    have := fun h => hk (hz.1 h)
    omega
   have hke : k = low := by omega
   subst hke
   go_wp2_with fail
   refine HF2.out.mono ?_;rintro e w2 ⟨rfl, hw⟩;rw [hw];clear hw w2
   go_wp2_with fail
   go_ret
   exact ⟨rfl, rfl⟩
theorem kIq (X A B : Int) (B0 r : Nat) (R : RS) (w : World) (h : RRep w B0 r R) (hbad : isW X = false ∨ A < 0 ∨ B < 0 ∨ 1 < B) : Calls prog 48 #[.pointer (some ⟨r, 0, none⟩), int i64 X, int i64 A, int i64 B] w fun e w' => e = .returned (.tuple #[int i64 0, int i64 1]) ∧ w' = w := by
 have HK := kAA (kBY X);have hisW : isW X = (kAJ X != 0) := rfl;generalize kAJ X = kx at *
 have hbad2 : ((kx == 0) = true) ∨ ((kx == 0) = false ∧ B < 0) ∨ ((kx == 0) = false ∧ 0 ≤ B ∧ 1 < B) ∨ ((kx == 0) = false ∧ 0 ≤ B ∧ B ≤ 1 ∧ A < 0) := by
  rw [hisW] at hbad
  by_cases hk0 : kx = 0
  ·left; simp [hk0]
  ·have e1 : (kx == 0) = false := by simpa using hk0
   have e2 : (kx != 0) = true := by simpa using hk0
   right
   rcases hbad with h | h | h | h
   ·rw [e2] at h; cases h
   ·by_cases h1 : B < 0
    ·exact .inl ⟨e1, h1⟩
    ·by_cases h2 : 1 < B
     ·exact .inr (.inl ⟨e1, by omega, h2⟩)
     ·exact .inr (.inr ⟨e1, by omega, by omega, h⟩)
   ·exact .inl ⟨e1, h⟩
   ·by_cases h1 : B < 0
    ·exact .inl ⟨e1, h1⟩
    ·exact .inr (.inl ⟨e1, by omega, h⟩)
 clear hbad hisW h;rcases hbad2 with h | ⟨h, h4⟩ | ⟨h, h4, h5⟩ | ⟨h, h4, h5, h6⟩
 all_goals
  go_enter func48, ntmps48
  go_wp2_with (go_at_call 98; refine Calls.mono (HK.out _) ?_; rintro e w1 ⟨rfl, hw1⟩; rw [hw1]; clear hw1 w1)
  go_ret2
  exact ⟨rfl, rfl⟩
theorem kIF (X : Int) (n f : Nat) (B0 r : Nat) (R : RS) (w : World) (h : RRep w B0 r R) (hW : isW X = true) (hf : f ≤ 1) (hbig : 8192 < (n : Int)) : Calls prog 48 #[.pointer (some ⟨r, 0, none⟩), int i64 X, int i64 n, int i64 f] w fun e w' => e = .returned (.tuple #[int i64 0, int i64 22]) ∧ w' = w := by
 have HK := kAA (kBY X)
 have hkx : (kAJ X == 0) = false := by
  have h2 : (kAJ X != 0) = true := hW;have : kAJ X ≠ 0 := by simpa using h2
  simpa using this
 generalize kAJ X = kx at *;have k1 := ng f;have k2 : (f : Int) ≤ 1 := by omega
 have k3 := ng n;clear hW h;go_enter func48, ntmps48
 go_wp2_with (go_at_call 98; refine Calls.mono (HK.out _) ?_; rintro e w1 ⟨rfl, hw1⟩; rw [hw1]; clear hw1 w1)
 go_ret2
 exact ⟨rfl, rfl⟩
structure AlR (X : Int) (n f : Nat) (B0 r : Nat) (R : RS) (w : World) : Prop where
 rep : RRep w B0 r R
 ok : ROk R
 w_ : isW X = true
 f_ : f ≤ 1
 n_ : (n : Int) ≤ 8192
 fH : (R.fH : Int) ≤ 1048576
 fM : (R.fM : Int) ≤ 65536
 fin : (rEnd R.fE : Int) ≤ 1048576
theorem kIJ (X : Int) (n f : Nat) (B0 r : Nat) (R : RS) (w : World) (h : AlR X n f B0 r R w) (hfull : R.fM ≤ R.fE.length ∨ R.fH < rEnd R.fE + lenN n f) : Calls prog 48 #[.pointer (some ⟨r, 0, none⟩), int i64 X, int i64 n, int i64 f] w fun e w' => e = .returned (.tuple #[int i64 0, int i64 23]) ∧ Fr [] w w' := by
 have HK := kAA (kBY X)
 have hkx : (kAJ X == 0) = false := by
  have h2 : (kAJ X != 0) = true := h.w_;have : kAJ X ≠ 0 := by simpa using h2
  simpa using this
 generalize kAJ X = kx at *;have k1 := ng f;have k2 : (f : Int) ≤ 1 := by have := h.f_; omega
 have k3 := ng n;have k4 := h.n_;have k5 := h.fH;have k6 := h.fM;have k7 := h.fin;have k8 := h.ok.len;obtain ⟨po, co, hov⟩ := h.rep.ovIs;have hL2 : (lenN n f : Int) ≤ 10000 := by unfold lenN; split <;> omega
 have HLen : Hid (∀ V, Calls prog 86 #[int i64 n, int i64 f] V fun e w' => e = .returned (int i64 ((lenN n f : Nat) : Int)) ∧ w' = V) := fun V => kBr n f V (by omega)
 have HEnd : Hid (∀ V, Hid (Fr [] w V) → Calls prog 99 #[.pointer (some ⟨r, 0, none⟩)] V fun e w' => e = .returned (int i64 (rEnd R.fE : Nat)) ∧ Hid (Fr [] w w')) := fun V hV => Calls.mono (kCM B0 r R V (h.rep.fK hV.out) h.ok) (by rintro e w' ⟨rfl, hf⟩; exact ⟨rfl, hV.out.trans hf (by simp)⟩)
 have KS : Hid (∀ V, Hid (Fr [] w V) → V.cell? ⟨r, 5, none⟩ = some (.slice po R.fE.length co) ∧ V.cell? ⟨r, 1, none⟩ = some (int i64 R.fM) ∧ V.cell? ⟨r, 0, none⟩ = some (int i64 R.fH) ∧ Hid (Fr [] w V)) := fun V hV => by
  have h1 := h.rep.fK hV.out;exact ⟨by rw [h1.c, ← hov]; rfl, by rw [h1.c]; rfl, by rw [h1.c]; rfl, hV⟩
 have F1 : Hid (Fr [] w w) := Fr.refl _ _;obtain ⟨c5, c1, c0, -⟩ := KS.out w F1;have hf2 : ((R.fM : Int) ≤ R.fE.length) ∨ ((R.fE.length : Int) < R.fM ∧ (R.fH : Int) < (rEnd R.fE : Int) + (lenN n f : Int)) := by omega
 clear h hfull;generalize rEnd R.fE = EN at *;generalize lenN n f = L at *;have zw : IntKind.i64.wrap ((EN : Int) + (L : Int)) = (EN : Int) + (L : Int) := by rw [kBp]; unfold wrap64; omega
 rcases hf2 with hx | ⟨hx, hx2⟩
 ·have hdec : decide (R.fM ≤ R.fE.length) = true := decide_eq_true (by omega);go_enter func48, ntmps48
  go_wp2_with (go_at_call 98; refine Calls.mono (HK.out _) ?_; rintro e w1 ⟨rfl, hw1⟩; rw [hw1]; clear hw1 w1)
  go_quiet (fail)
  go_wp2_with fail
  go_ret2
  exact ⟨rfl, Fr.drewN [] _ _⟩
 ·have hdec : decide (R.fM ≤ R.fE.length) = false := decide_eq_false (by omega);go_enter func48, ntmps48
  go_wp2_with (go_at_call 98; refine Calls.mono (HK.out _) ?_; rintro e w1 ⟨rfl, hw1⟩; rw [hw1]; clear hw1 w1)
  go_region_held3 (fun w' => w'.cell? ⟨r, 5, none⟩ = some (.slice po R.fE.length co) ∧ w'.cell? ⟨r, 1, none⟩ = some (int i64 R.fM) ∧ w'.cell? ⟨r, 0, none⟩ = some (int i64 R.fH) ∧ Hid (Fr [] w w')) (exact KS.out _ (by first | assumption | exact kAF (by assumption) | (go_split_ands; first | assumption | exact kAF (by assumption))))
   (first | (go_at_call 99; refine (HEnd.out _ (by first | assumption | exact kAF (by assumption) | (go_split_ands; first | assumption | exact kAF (by assumption)))).mono ?_; rintro e w' ⟨rfl, hf'⟩) | (go_at_call 86; refine (HLen.out _).mono ?_; rintro e w' ⟨rfl, rfl⟩))
  have F2 : Hid (Fr [] w w') := by assumption
  go_wp2_with fail
  go_ret2
  exact ⟨rfl, F2.out⟩
def kEu (oo f pl bn : Nat) (cl : Int) (v : Value) : Obj := .cells #[int i64 oo, int i64 f, int i64 pl, int i64 bn, int i64 cl, v] 143 (0, 0)
structure WayR (w wr : World) (B : Nat) (oo f pl bn : Nat) (cl : Int) (k : Nat) : Prop where
 fr : Fr [] w wr
 lt : w.heap.size ≤ B
 at_ : ∃ v, wr.heap[B]? = some (kEu oo f pl bn cl v) ∧ wr.ownsRow (B + 1) 41 1 v k ((List.replicate k (newX f)).map (int i64))
theorem WayR.next {wr w2 : World} {oo f pl bn : Nat} {cl : Int} {v' : Value} {o : Obj} (h : WayR w wr B oo f pl bn cl k) (hv : wr.heap[B]? = some (kEu oo f pl bn cl v)) (hown : wr.ownsRow (B + 1) 41 1 v k ((List.replicate k (newX f)).map (int i64))) 
  (hg : (wr.alloc o).grownBy w2 v.ownBlock) (ho : w2.ownsRow (B + 1) 41 1 v' (k + 1) ((List.replicate k (newX f)).map (int i64) ++ [int i64 (newX f)])) : WayR w (w2.setCell ⟨B, 5, none⟩ v') B oo f pl bn cl (k + 1) := by
 have hBl := kAB hv;have hob : ∀ b, v.ownBlock = some b → B + 1 ≤ b := fun b hb => (hown.lt b hb).1
 have hB2 : w2.heap[B]? = some (kEu oo f pl bn cl v) := by
  rw [hg.block B (by simp; omega) (fun e => by have := hob B e.symm; omega), jAN _ _ _ hBl];exact hv
 have F2 : Fr [B] w w2 := by
  refine ⟨hg.os.trans h.fr.os, hg.tape.trans h.fr.tape, hg.output.trans h.fr.output, jAU h.fr.size (jAU (by simp) hg.size), fun i hi hn => ?_⟩;have hiB : i < wr.heap.size := jAb hi h.fr.size;rw [hg.block i (by simp; omega) (fun e => by have := hob i e.symm; have := h.lt; omega), jAN _ _ _ hiB];exact h.fr.block i hi (by simp)
 refine ⟨(F2.trans (Fr.setCell (S := [B]) w2 ⟨B, 5, none⟩ v' (by simp)) (fun b hb => .inl hb)).mono (fun b hb => ?_), h.lt, v', ?_, ?_⟩
 ·simp at hb; subst hb; exact .inr h.lt
 ·unfold kEu at hB2 ⊢;rw [kAI hB2];rfl
 ·have : (List.replicate (k + 1) (newX f)).map (int i64) = (List.replicate k (newX f)).map (int i64) ++ [int i64 (newX f)] := by
   rw [jBY, jAP]; rfl
  rw [this];exact kAE ho fun b hb => kAK (by have := (ho.lt b hb).1; omega)
theorem kFy (X : Int) (n f : Nat) (B0 r : Nat) (R : RS) (w : World) (h : AlR X n f B0 r R w) (h1 : R.fE.length < R.fM) (h2 : rEnd R.fE + lenN n f ≤ R.fH) (hm : R.mark = 1) : Calls prog 48 #[.pointer (some ⟨r, 0, none⟩), int i64 X, int i64 n, int i64 f] w fun e w' => e = .returned (.tuple #[int i64 0, int i64 24]) ∧ RRep w' B0 r { R with mark := 0 } ∧ Fr [r] w w' := by
 have HK := kAA (kBY X)
 have hkx : (kAJ X == 0) = false := by
  have h2 : (kAJ X != 0) = true := h.w_;have : kAJ X ≠ 0 := by simpa using h2
  simpa using this
 generalize kAJ X = kx at *;have k1 := ng f;have k2 : (f : Int) ≤ 1 := by have := h.f_; omega
 have k3 := ng n;have k4 := h.n_;have k5 := h.fH;have k6 := h.fM;have k7 := h.fin;have k8 := h.ok.len;obtain ⟨po, co, hov⟩ := h.rep.ovIs;have hL2 : (lenN n f : Int) ≤ 10000 := by unfold lenN; split <;> omega
 have HLen : Hid (∀ V, Calls prog 86 #[int i64 n, int i64 f] V fun e w' => e = .returned (int i64 ((lenN n f : Nat) : Int)) ∧ w' = V) := fun V => kBr n f V (by omega)
 have HEnd : Hid (∀ V, Hid (Fr [] w V) → Calls prog 99 #[.pointer (some ⟨r, 0, none⟩)] V fun e w' => e = .returned (int i64 (rEnd R.fE : Nat)) ∧ Hid (Fr [] w w')) := fun V hV => Calls.mono (kCM B0 r R V (h.rep.fK hV.out) h.ok) (by rintro e w' ⟨rfl, hf⟩; exact ⟨rfl, hV.out.trans hf (by simp)⟩)
 have KS : Hid (∀ V, Hid (Fr [] w V) → V.cell? ⟨r, 5, none⟩ = some (.slice po R.fE.length co) ∧ V.cell? ⟨r, 1, none⟩ = some (int i64 R.fM) ∧ V.cell? ⟨r, 0, none⟩ = some (int i64 R.fH) ∧ Hid (Fr [] w V)) := fun V hV => by
  have h1 := h.rep.fK hV.out;exact ⟨by rw [h1.c, ← hov]; rfl, by rw [h1.c]; rfl, by rw [h1.c]; rfl, hV⟩
 have F1 : Hid (Fr [] w w) := Fr.refl _ _;obtain ⟨c5, c1, c0, -⟩ := KS.out w F1;have HR := kAA h.rep;have hx : (R.fE.length : Int) < R.fM := by omega
 have hx2 : (rEnd R.fE : Int) + (lenN n f : Int) ≤ (R.fH : Int) := by omega
 clear h h1 h2;generalize rEnd R.fE = EN at *;generalize lenN n f = L at *;have zw : IntKind.i64.wrap ((EN : Int) + (L : Int)) = (EN : Int) + (L : Int) := by rw [kBp]; unfold wrap64; omega
 have hdec : decide (R.fM ≤ R.fE.length) = false := decide_eq_false (by omega);go_enter func48, ntmps48
 go_wp2_with (go_at_call 98; refine Calls.mono (HK.out _) ?_; rintro e w1 ⟨rfl, hw1⟩; rw [hw1]; clear hw1 w1)
 go_region_held3 (fun w' => w'.cell? ⟨r, 5, none⟩ = some (.slice po R.fE.length co) ∧ w'.cell? ⟨r, 1, none⟩ = some (int i64 R.fM) ∧ w'.cell? ⟨r, 0, none⟩ = some (int i64 R.fH) ∧ Hid (Fr [] w w')) (exact KS.out _ (by first | assumption | exact kAF (by assumption) | (go_split_ands; first | assumption | exact kAF (by assumption))))
  (first | (go_at_call 99; refine (HEnd.out _ (by first | assumption | exact kAF (by assumption) | (go_split_ands; first | assumption | exact kAF (by assumption)))).mono ?_; rintro e w' ⟨rfl, hf'⟩) | (go_at_call 86; refine (HLen.out _).mono ?_; rintro e w' ⟨rfl, rfl⟩))
 have F2 : Hid (Fr [] w w') := by assumption
 generalize w' = W1 at *;have hR1 := HR.out.fK F2.out;have c2 : W1.cell? ⟨r, 2, none⟩ = some (int i64 1) := by rw [hR1.c]; show some (int i64 R.mark) = _; rw [hm]; rfl
 have f2 := kAD hR1.top 2;have HE : Hid (RRep (W1.setCell ⟨r, 2, none⟩ (int i64 0)) B0 r { R with mark := 0 } ∧ Fr [r] w (W1.setCell ⟨r, 2, none⟩ (int i64 0))) := ⟨hR1.setTop 2 0 _ rfl rfl rfl, (F2.out.mono (by simp)).trans (Fr.setCell (S := [r]) _ _ _ (by simp)) (by simp)⟩;clear hR1
 go_wp2_with fail
 go_ret2
 exact ⟨rfl, HE.out.1, HE.out.2⟩
def upTo (A : List Nat) (k : Nat) : List Nat := A.filter fun q => decide (q < k)
theorem kMm (A : List Nat) (k : Nat) : (upTo A k).length ≤ A.length := jBH _ _
theorem kJu (A : List Nat) (k : Nat) (h : (upTo A k).length = A.length) : upTo A k = A := by
 unfold upTo at h ⊢;rw [List.filter_eq_self];exact List.length_filter_eq_length_iff.1 h
theorem kNF (A : List Nat) (k : Nat) (h : ∀ q ∈ A, q < k) : upTo A k = A := by
 unfold upTo;rw [List.filter_eq_self]
 intro q hq
 simpa using h q hq
theorem kKo (A : List Nat) (hp : A.Pairwise (· < ·)) (k : Nat) : upTo A (k + 1) = upTo A k ++ (if k ∈ A then [k] else []) := by
 unfold upTo
 induction A with
 | nil => simp
 | cons x A ih =>
  obtain ⟨h1, h2⟩ := jBI.1 hp;have ih := ih h2;rw [List.filter_cons, List.filter_cons]
  by_cases hx : x < k
  ·rw [jp (by simpa using (by omega : x < k + 1)), jp (by simpa using hx), ih]
   have e : (k ∈ x :: A) ↔ k ∈ A := by
    rw [jAF];exact ⟨fun h => by rcases h with h | h; exact absurd h (by omega); exact h, fun h => .inr h⟩
   by_cases hk : k ∈ A
   ·rw [jp hk, jp (e.2 hk)]; rfl
   ·rw [jn hk, jn (fun h => hk (e.1 h))]; rfl
  ·have h3 : A.filter (fun q => decide (q < k)) = [] := by
    rw [List.filter_eq_nil_iff]
    intro q hq;have := h1 q hq
    simp; omega
   have h4 : A.filter (fun q => decide (q < k + 1)) = [] := by
    rw [List.filter_eq_nil_iff]
    intro q hq;have := h1 q hq
    simp; omega
   rw [h3, h4, show decide (x < k) = false from decide_eq_false hx]
   by_cases hk : x = k
   ·subst hk;rw [show decide (x < x + 1) = true from decide_eq_true (by omega)]
    simp
   ·have hn : k ∉ x :: A := fun h => by
     rcases jAF.1 h with h | h
     ·exact hk h.symm
     ·have := h1 k h; omega
    rw [jn hn, show decide (x < k + 1) = false from decide_eq_false (by omega)]; rfl
structure RAs (R : RS) (A : List Nat) : Prop where
 rise : A.Pairwise (· < ·)
 mem : ∀ q : Nat, q ∈ A ↔ ¬ RNo R (q : Int)
 len : A.length = R.fE.length
 bound : ∀ q ∈ A, 1 ≤ q ∧ q ≤ 100000
theorem kOy (A : List Nat) (B r : Nat) (R : RS) (w : World) (h : RRep w B r R) (hA : RAs R A) :
  Calls prog 128 #[.pointer (some ⟨r, 0, none⟩)] w fun e w' => ∃ v, e = .returned v ∧ w'.ownsRow w.heap.size 3 1 v A.length (A.map I) ∧ Fr [] w w' := by
 obtain ⟨j0, ji, jz0, jz1, jz2⟩ := info_parts kGs
 have hlen : A.length ≤ 100001 := by
  exact kGg 100001 A (hA.rise.imp fun h => Nat.ne_of_lt h) fun q hq => by have := hA.bound q hq; omega
 have hol := hA.len;obtain ⟨p, c, hov⟩ := h.ovIs;have HR := kAA h;have HA := kAA hA;have HC : Hid (∀ V, Fr [] w V → V.cell? ⟨r, 5, none⟩ = some (.slice p R.fE.length c)) := fun V hV => by rw [(HR.out.fK hV).c, ← hov]; rfl
 clear h hA;go_enter func128, ntmps128
 go_wp2_with fail
 rw [← hol] at HC
 go_loopw [3, 4] (fun v q wr => ∃ (k : Nat) (pv : Option Addr) (cv : Nat), 1 ≤ k ∧ v = .slice pv (upTo A k).length cv ∧ q = int i64 k ∧ (k ≤ 100001) ∧ wr.ownsRow w.heap.size 3 1 (.slice pv (upTo A k).length cv) (upTo A k).length ((upTo A k).map I) ∧ Hid (Fr [] w wr)) (fun _ q _ => 100001 - (intOf q).toNat)
 case atStart => exact ⟨1, none, 0, jAD _, by
  have e : upTo A 1 = [] := by
   unfold upTo;rw [List.filter_eq_nil_iff]
   intro q hq;have := (HA.out.bound q hq).1
   simp; omega
  rw [e]; rfl, rfl, by omega, by
  have e : upTo A 1 = [] := by
   unfold upTo;rw [List.filter_eq_nil_iff]
   intro q hq;have := (HA.out.bound q hq).1
   simp; omega
  rw [e]; exact jAS _ _ _ _, Fr.refl _ _⟩
 case round =>
  obtain ⟨k, pv, cv, hk1, rfl, rfl, hkn, hown, hfr⟩ := hrel;have c5 := HC.out wr hfr.out;have hul := kMm A k;have hz := hfr.out.size
  by_cases hlt : (upTo A k).length < A.length
  ·have hkl : k < 100001 := by
    refine Classical.byContradiction fun hn => ?_
    rw [kNF A k (fun q hq => by have := (HA.out.bound q hq).2; omega)] at hlt;omega
   have k2 : ((upTo A k).length : Int) < (A.length : Int) := by omega
   have HSU := kAA (kKo A HA.out.rise k);have HF := kAA (kBN (k : Int) B r R wr (HR.out.fK hfr.out) (by omega));have HM := kAA (HA.out.mem k);generalize hX : upTo A k = X at *;clear hX
   go_wp2_with fail
   refine HF.out.mono ?_;rintro e w2 ⟨z, rfl, hz, hw⟩;rw [hw];clear hw w2 HF;rcases hz with ⟨j, hj, rfl, ho, -⟩ | ⟨rfl, hno⟩
   ·have hin : k ∈ A := HM.out.2 (fun hno => hno j hj ho);have HS2 := HSU.out;rw [jp hin] at HS2;have HS3 := kAA HS2;have j1 := ng j;clear HS2 HSU hin ho HM;have hown2 := hown.alloc (.cells #[int i64 k] 3);have HFA : Hid (Fr [] w (wr.alloc (.cells #[int i64 k] 3))) := hfr.out.trans (Fr.alloc [] _ _) (by simp);clear hown
    go_wp2_with (first | (at_builtin; refine wpList_append_own _ rfl (.tmp 22) (.tmp 24) 88 rfl w.heap.size 3 j0 (int i64 0) 1 8 underlying88 ji jz0 jz1 jz2 rfl (by decide) _ _ _ rfl hown2 ⟨wr.heap.size, 0, none⟩ 1 1 [int i64 k] rfl rfl ?c1 ?c2 ?c3 ?c4 ?c5 ?_) | go_in)
    case c1 =>
     have := World.news_of_block (heap_alloc_new wr (.cells #[int i64 k] 3))
     simpa using this
    case c2 => first | rfl | (intro u hu; simp at hu; subst hu; rfl)
    case c3 => unfold maxLen; omega
    case c4 => omega
    case c5 => first | omega | (simp; omega)
    intro v' w1 hown' hgrow _
    have HG : Hid (Fr [] w w1) := by
     refine ⟨hgrow.os.trans HFA.out.os, hgrow.tape.trans HFA.out.tape, hgrow.output.trans HFA.out.output, jAU HFA.out.size hgrow.size, fun i hi hn => ?_⟩;rw [hgrow.block i (jAb hi HFA.out.size) (fun e => ?_)]
     ·exact HFA.out.block i hi hn
     ·have := (hown2.lt i e.symm).1;omega
    have hown3 : w1.ownsRow w.heap.size 3 1 v' (upTo A (k + 1)).length ((upTo A (k + 1)).map I) := by rw [HS3.out]; simpa [I] using hown'
    obtain ⟨p3, c3', rfl⟩ := kAv hown3;have HO := kAA hown3;have HLe : Hid ((upTo A (k + 1)).length = X.length + 1) := by rw [HS3.out]; simp [Hid]
    clear hown' hown3 hgrow hown2 HFA
    go_wp2
    go_roundw
    case rel => exact ⟨k + 1, p3, c3', by omega, rfl, by go_num, by omega, HO.out, HG⟩
    case measure => simp [intOf]; omega
   ·have hin : k ∉ A := fun hin => HM.out.1 hin hno
    have HS2 := HSU.out;rw [jn hin, jAz] at HS2;have HS3 := kAA HS2;have HO := kAA hown;clear HS2 HSU hin hown HM hno
    go_wp2_with fail
    go_roundw
    case rel => exact ⟨k + 1, pv, cv, by omega, by rw [HS3.out], by go_num, by omega, by rw [HS3.out]; exact HO.out, hfr⟩
    case measure => simp [intOf]; omega
  ·have hle : (upTo A k).length = A.length := by omega
   have k2 : (A.length : Int) ≤ ((upTo A k).length : Int) := by omega
   rw [kJu A k hle] at hown ⊢;have HO := kAA hown;clear hown
   go_wp2_with fail
   go_ret
   exact ⟨_, rfl, HO.out, hfr.out⟩
theorem kFU (c : Int) : ∀ (l : List RO) (k : Nat), k < l.length → kAH (l.set k ((l.getD k noRO).turnd c (l.getD k noRO).fB)) = (kAH l).set (k * 6 + 4) (int i64 c)
 | [], k, h => by simp at h
 | o :: t, 0, _ => rfl
 | o :: t, k + 1, h => by
  have ih := kFU c t k (by simpa using h);have e : (o :: t).set (k + 1) (((o :: t).getD (k + 1) noRO).turnd c ((o :: t).getD (k + 1) noRO).fB) = o :: t.set k ((t.getD k noRO).turnd c (t.getD k noRO).fB) := by simp
  rw [e];show ro6 o ++ kAH (t.set k ((t.getD k noRO).turnd c (t.getD k noRO).fB)) = (ro6 o ++ kAH t).set ((k + 1) * 6 + 4) (int i64 c);rw [ih, jAy _ _ (by simp [ro6]; omega)]
  congr 2
  simp [ro6]; omega
theorem kEG (ss : List Int) : ∀ (l : List RO) (k : Nat), k < l.length → kAH (l.set k ((l.getD k noRO).turnd (l.getD k noRO).cls ss)) = kAH l
 | [], k, h => by simp at h
 | o :: t, 0, _ => rfl
 | o :: t, k + 1, h => by
  have ih := kEG ss t k (by simpa using h);have e : (o :: t).set (k + 1) (((o :: t).getD (k + 1) noRO).turnd ((o :: t).getD (k + 1) noRO).cls ss) = o :: t.set k ((t.getD k noRO).turnd (t.getD k noRO).cls ss) := by simp
  rw [e];show ro6 o ++ kAH (t.set k ((t.getD k noRO).turnd (t.getD k noRO).cls ss)) = ro6 o ++ kAH t;rw [ih]
theorem RRep.setSlot (h : RRep w B r R) (hln : Lone R) (k : Nat) (hk : k < R.fE.length) {g : Nat} (hv : (R.fE.getD k noRO).v = .slice (some ⟨g, 0, none⟩) (R.fE.getD k noRO).fB.length c) (i : Nat) (z : Int) :
  RRep (w.setCell ⟨g, i, none⟩ (int i64 z)) B r (R.upd k (R.fE.getD k noRO).cls ((R.fE.getD k noRO).fB.set i z)) := by
 have hko : R.fE.getD k noRO ∈ R.fE := kEc hk;have hb : (R.fE.getD k noRO).v.ownBlock = some g := by rw [hv]; rfl
 obtain ⟨cur, hcur⟩ := kAw (h.fB _ hko) hb;have hgr : r ≠ g := fun e => by rw [← e, h.top] at hcur; injection hcur with hc; injection hc with _ ht _; exact absurd ht (by decide)
 refine ⟨h.lo, ?_, ?_, fun o ho => ?_⟩
 ·rw [jAw _ _ _ _ hgr];exact h.top
 ·show (w.setCell ⟨g, i, none⟩ (int i64 z)).ownsRow B 143 6 R.ov (R.fE.set k _).length (kAH (R.fE.set k _));rw [kEG _ _ k hk, jAL];refine kAE h.row fun b hb2 => jAw _ _ _ _ (fun e => ?_)
  obtain ⟨cur2, hc2⟩ := kAw h.row hb2;rw [e, hcur] at hc2
  injection hc2 with hc; injection hc with _ ht _; exact absurd ht (by decide)
 ·obtain ⟨m, hm, hmo⟩ := jBP ho;have hm0 : m < (R.fE.set k ((R.fE.getD k noRO).turnd (R.fE.getD k noRO).cls ((R.fE.getD k noRO).fB.set i z))).length := hm;have hm2 : m < R.fE.length := by rw [jAL] at hm0; exact hm0
  have e1 : o = if k = m ∧ m < R.fE.length then (R.fE.getD k noRO).turnd (R.fE.getD k noRO).cls ((R.fE.getD k noRO).fB.set i z) else R.fE.getD m noRO := by
   rw [← kPx, jAA, jAB hm0, ← hmo];rfl
  by_cases e : k = m
  ·rw [jp ⟨e, hm2⟩] at e1;rw [e1];show (w.setCell ⟨g, i, none⟩ (int i64 z)).ownsRow B 41 1 (R.fE.getD k noRO).v ((R.fE.getD k noRO).fB.set i z).length (((R.fE.getD k noRO).fB.set i z).map (int i64));have h2 := h.fB _ hko;rw [jAL, List.map_set];rw [hv] at h2 ⊢;exact (h2.stored i (int i64 z)).1
  ·rw [jn (fun h => e h.1)] at e1;rw [e1];refine kAE (h.fB _ (kEc hm2)) fun b hb2 => jAw _ _ _ _ (fun e2 => ?_)
   rw [e2] at hb2;exact hln.ne hk hm2 e hb hb2
theorem kQG (q : Int) (i : Nat) (z : Int) (B r : Nat) (R : RS) (w : World) (h : RRep w B r R) (hln : Lone R) (hl : R.fE.length ≤ 1048576) (hn : ¬ RNo R q) (hy : ∀ m, RIs R q m → i < (R.fE.getD m noRO).fB.length ∧ mayB z (R.fE.getD m noRO).fmt = true) :
  Calls prog 52 #[.pointer (some ⟨r, 0, none⟩), int i64 q, int i64 i, int i64 z] w fun e w' =>
   e = .returned (int i64 0) ∧ ∃ m g, RIs R q m ∧ (R.fE.getD m noRO).v.ownBlock = some g ∧ RRep w' B r (R.upd m (R.fE.getD m noRO).cls ((R.fE.getD m noRO).fB.set i z)) ∧ Fr [g] w w' := by
 obtain ⟨p, c, hov⟩ := h.ovIs;have c5 : w.cell? ⟨r, 5, none⟩ = some (.slice p R.fE.length c) := by rw [h.c, ← hov]; rfl
 have HF := kAA (kBN q B r R w h hl);have HM : Hid (∀ V f, Calls prog 107 #[int i64 z, int i64 f] V fun e w' => e = .returned (.bool (mayB z f)) ∧ w' = V) := fun V f => kDm z f V
 have HR := kAA h;have HL := kAA hln;have HY := kAA hy;have HN := kAA hn;clear h hy hn hln;go_enter func52, ntmps52
 go_wp2_with fail
 refine HF.out.mono ?_;rintro e w2 ⟨y, rfl, hz, hw⟩;rw [hw];clear hw w2 HF;rcases hz with ⟨m, hm, rfl, ho, -⟩ | ⟨-, hno⟩
 rotate_left
 ·exact absurd hno HN.out
 obtain ⟨g, c', hv, hc⟩ := HR.out.at_ (by omega);have hv0 := hv;rw [hov] at hv
 injection hv with e1 e2 e3
 subst e1;obtain ⟨-, q1, -, -, -, q5⟩ := hc m hm;obtain ⟨hi, hmay⟩ := HY.out m ⟨hm, ho⟩;have hmm : R.fE.getD m noRO ∈ R.fE := kEc hm;obtain ⟨p5, c5', hv5, hs5⟩ := kCZ (HR.out.fB _ hmm);obtain ⟨g5, rfl, hc5⟩ := hs5 (by omega);have q6 := hc5 i hi;have hb5 : (R.fE.getD m noRO).v.ownBlock = some g5 := by rw [hv5]; rfl
 obtain ⟨cur5, hcur5⟩ := kAw (HR.out.fB _ hmm) hb5;have z5 := kAD hcur5 i;have HRz : Hid (RRep (w.setCell ⟨g5, i, none⟩ (int i64 z)) B r (R.upd m (R.fE.getD m noRO).cls ((R.fE.getD m noRO).fB.set i z))) := HR.out.setSlot HL.out m hm hv5 i z;rw [hv5] at q5;have k1 := ng m;have k2 : (m : Int) < R.fE.length := by omega
 have HIs : Hid (RIs R q m) := ⟨hm, ho⟩;have HB := kAA hb5;obtain ⟨cz, hcz⟩ := jex ((R.fE.getD m noRO).fB.length);obtain ⟨fz, hfz⟩ := jex ((R.fE.getD m noRO).fB.getD i 0);obtain ⟨ff, hff⟩ := jex ((R.fE.getD m noRO).fmt);rw [← hcz] at q5 hi;rw [← hfz] at q6;rw [← hff] at q1 hmay;simp only [I] at q1;have i1 := ng i;have i2 : (i : Int) < cz := by omega
 have HM2 : Hid (∀ V, Calls prog 107 #[int i64 z, int i64 ff] V fun e w' => e = .returned (.bool true) ∧ w' = V) := fun V => by
  have := HM.out V (ff : Int);rw [hmay] at this;exact this
 clear hcz hfz hff hc hc5 ho e2 e3 hv5 HY hov hv0 hb5 hcur5 hmay HM hmm
 go_wp2_with fail
 refine Calls.mono (HM2.out _) ?_;rintro e w' ⟨rfl, hw'⟩;rw [hw'];clear hw' w'
 go_wp2_with fail
 go_ret
 exact ⟨rfl, m, g5, HIs.out, HB.out, HRz.out, Fr.setCell (S := [g5]) w ⟨g5, i, none⟩ _ (by simp)⟩
theorem kOu : (prog.info? 99).isSome = true := by kernel_rfl
theorem kLX (B r : Nat) (R : RS) (w : World) (h : RRep w B r R) :
  Calls prog 63 #[.pointer (some ⟨r, 0, none⟩)] w fun e w' => e = .returned (.agg #[.pointer (some ⟨r, 0, none⟩), int i64 R.fL, int i64 R.fO]) ∧ Fr [] w w' := by
 have hal : r < w.heap.size := kAB h.top;have c3 : w.cell? ⟨r, 3, none⟩ = some (int i64 R.fL) := by rw [h.c]; rfl
 have c4 : w.cell? ⟨r, 4, none⟩ = some (int i64 R.fO) := by rw [h.c]; rfl
 have d3 := (jAE w (.cells #[.pointer none, int i64 0, int i64 0] 54) ⟨r, 3, none⟩ hal).trans c3;have d4 := (jAE w (.cells #[.pointer none, int i64 0, int i64 0] 54) ⟨r, 4, none⟩ hal).trans c4;clear h;go_enter func63, ntmps63
 go_wp2_with fail
 go_region
 all_goals go_wp2_with fail
 all_goals
  refine bodyPost_ret (v := .agg #[.pointer (some ⟨r, 0, none⟩), int i64 R.fL, int i64 R.fO]) (by simp [results, results63, go_sem]) rfl ⟨rfl, (Fr.alloc [] _ _).trans (Fr.drew [] _) (by simp)⟩
theorem kNU (bn tn : Int) (B r : Nat) (R : RS) (w : World) (h : RRep w B r R) (hne : (tn != (R.fO : Int)) = true) :
  Calls prog 68 #[.pointer (some ⟨r, 0, none⟩), .agg #[.pointer (some ⟨r, 0, none⟩), int i64 bn, int i64 tn]] w fun e w' => e = .returned (int i64 25) ∧ Fr [] w w' := by
 have hal : r < w.heap.size := kAB h.top;have c4 : w.cell? ⟨r, 4, none⟩ = some (int i64 R.fO) := by rw [h.c]; rfl
 have d4 := (jAE w (.cells #[.pointer (some ⟨r, 0, none⟩), int i64 bn, int i64 tn] 54) ⟨r, 4, none⟩ hal).trans c4;have HE : Hid (∀ n, Fr [] w ((w.alloc (.cells #[.pointer (some ⟨r, 0, none⟩), int i64 bn, int i64 tn] 54)).drewN n)) := fun n => (Fr.alloc [] _ _).trans (Fr.drewN [] _ _) (by simp)
 obtain ⟨j, hj⟩ := jAv.1 kOu;have hq := fun V => kBa V ⟨r, 0, none⟩ underlying50 hj
 clear h hj;go_enter func68, ntmps68
 go_wp2_with fail
 go_region
 all_goals go_wp2_with fail
 all_goals
  go_ret
  exact ⟨rfl, HE.out _⟩
end Go.Proofs.YtflgicdbbogllaaGreatDoor
