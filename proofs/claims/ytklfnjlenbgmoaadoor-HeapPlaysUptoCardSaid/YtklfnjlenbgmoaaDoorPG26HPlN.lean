import Derived.Test.YtklfnjlenbgmoaaDoorPG25RKeep
set_option linter.unusedVariables false
namespace Go.Proofs.YtklfnjlenbgmoaaDoor
open Go.RowKit
attribute [local go_sem ↓] Go.wp_at_zero Go.wp_at_succ
theorem rExchM (A B : Int) (r : Nat) (R : RS) (M : MS) (w : World) (h : RRep w 0 r R) (hd : Doc M R) (hb : RBd M R) (ht : R.turn ≤ 1000000000) : Calls Tryd.prog 86 #[.pointer (some ⟨r, 0, none⟩), .int .i64 A, .int .i64 B] w fun e w' => e = .returned (.int .i64 (if mhas M A = true ∧ mhas M B = true then 0 else 20)) ∧ RN (mhas M A && mhas M B) r R (exchN M A B) w w' := by
 have hl := hb.len
 unfold exchN
 by_cases hAB : mhas M A = true ∧ mhas M B = true
 ·rw [if_pos hAB, if_pos hAB]
  obtain ⟨hA, hB⟩ := hAB
  have hA0 := hA
  have hB0 := hB
  have hnA := hd.yes hA
  have hnB := hd.yes hB
  obtain ⟨x, rfl, hx, bx⟩ := mhas_yes hA
  obtain ⟨y, rfl, hy, by_⟩ := mhas_yes hB
  have ex : ((x + 1 : Nat) : Int) = (x : Int) + 1 := by omega
  have ey : ((y + 1 : Nat) : Int) = (y : Int) + 1 := by omega
  have hf := rExch_ok (x + 1) (y + 1) 0 r R w h (by omega) ht (by rw [ex]; exact hnA) (by rw [ey]; exact hnB)
  rw [ex, ey] at hf
  rw [sub1, sub1]
  refine Calls.mono hf ?_
  rintro e w' ⟨rfl, i, j, g, hi, hj, hg, hr, hfr⟩
  have hborn : (rExchR R i j (x + 1) (y + 1)).objs.map RO.born = R.objs.map RO.born ∧ ∀ o ∈ (rExchR R i j (x + 1) (y + 1)).objs, ∀ g, o.v.ownBlock = some g → ∃ z ∈ R.objs, z.v.ownBlock = some g := by
   have hset : ∀ (l : List RO) (k n : Nat), k < l.length → (l.set k ((l.getD k noRO).named n)).map (fun o => (o.born, o.v)) = l.map (fun o => (o.born, o.v)) := fun l k n hk => by
    refine List.ext_getElem? (fun m => ?_)
    rw [List.getElem?_map, List.getElem?_map, List.getElem?_set]
    by_cases e : k = m
    ·subst e
     rw [if_pos rfl, if_pos hk, List.getElem?_eq_getElem hk, roD_in hk]
     rfl
    ·rw [if_neg e]
   have e1 := hset R.objs i (y + 1) hi.1
   have e2 := hset (R.objs.set i ((R.objs.getD i noRO).named (y + 1))) j (x + 1) (by rw [List.length_set]; exact hj.1)
   have e3 : (rExchR R i j (x + 1) (y + 1)).objs.map (fun o => (o.born, o.v)) = R.objs.map (fun o => (o.born, o.v)) := e2.trans e1
   refine ⟨?_, fun o ho g2 hg2 => ?_⟩
   ·have := congrArg (List.map (fun t : Nat × Value => t.1)) e3
    rw [List.map_map, List.map_map] at this
    exact this
   ·have hm : (o.born, o.v) ∈ (rExchR R i j (x + 1) (y + 1)).objs.map (fun o => (o.born, o.v)) := List.mem_map_of_mem ho
    rw [e3] at hm
    obtain ⟨z, z1, z2⟩ := List.mem_map.1 hm
    have : z.v = o.v := congrArg Prod.snd z2
    exact ⟨z, z1, by rw [this]; exact hg2⟩
  refine ⟨rfl, _, hr, hd.exch hi hj, hfr.mono (fun b hb2 => .inl ?_), rfoot_sub (rExchR R i j (x + 1) (y + 1)) rfl rfl hborn.2 (fun g2 hg2 => .inl (rfoot_row hg2)), .inr ⟨by rw [hA0, hB0]; rfl, rfl⟩, Nat.le_refl _, Nat.le_succ _⟩
  simp at hb2
  rcases hb2 with h1 | h1
  ·rw [h1]; exact rfoot_row hg
  ·rw [h1]; simp [rfoot]
 ·rw [if_neg hAB, if_neg hAB]
  have hn : RNo R A ∨ RNo R B := by
   cases hA : mhas M A with
   | false => exact .inl ((hd.no A).2 hA)
   | true =>
    cases hB : mhas M B with
    | false => exact .inr ((hd.no B).2 hB)
    | true => exact absurd ⟨hA, hB⟩ hAB
  have hfl : (mhas M A && mhas M B) = false := by
   rw [Bool.eq_false_iff]
   intro hc
   exact hAB (by simpa using hc)
  rw [hfl]
  refine Calls.mono (rExch_no A B 0 r R w h (by omega) hn) ?_
  rintro e w' ⟨rfl, rfl⟩
  exact ⟨rfl, RN.same h hd (Fr.refl _ _)⟩
theorem mem_allM {M : MS} {q : Nat} : q ∈ allM M ↔ 1 ≤ q ∧ (M.things.getD (q - 1) noTh).there = true := by
 unfold allM
 rw [List.mem_filter, List.mem_range]
 simp only [Bool.and_eq_true, decide_eq_true_eq]
 constructor
 ·exact fun h => h.2
 ·intro h
  have := th_in h.2
  exact ⟨by omega, h⟩
theorem rAllM (r : Nat) (R : RS) (M : MS) (w : World) (h : RRep w 0 r R) (hd : Doc M R) (hb : RBd M R) : Calls Tryd.prog 92 #[.pointer (some ⟨r, 0, none⟩)] w fun e w' => ∃ v, e = .returned v ∧ w'.ownsRow w.heap.size 3 1 v (allM M).length ((allM M).map I) ∧ Fr [] w w' := by
 refine rAll_ok (allM M) 0 r R w h ⟨?_, fun q => ?_, ?_, fun q hq => ?_⟩
 ·unfold allM
  exact List.Pairwise.filter _ List.pairwise_lt_range
 ·rw [mem_allM]
  constructor
  ·rintro ⟨h1, h2⟩
   have := mhas_of (M := M) (q - 1) (th_in h2) h2
   rw [show ((q - 1 : Nat) : Int) + 1 = (q : Int) from by omega] at this
   exact hd.yes this
  ·intro hn
   cases hx : mhas M (q : Int) with
   | false => exact absurd ((hd.no _).2 hx) hn
   | true =>
    obtain ⟨k, e, hk, hbk⟩ := mhas_yes hx
    have e2 : q = k + 1 := by omega
    rw [e2, Nat.add_sub_cancel]
    exact ⟨by omega, hbk⟩
 ·obtain ⟨L, hs, -⟩ := hd.ex
  rw [hd.len, ← hs.len]
  have hnd : (allM M).Nodup := by
   unfold allM
   exact List.Nodup.sublist List.filter_sublist List.nodup_range
  exact List.Perm.length_eq ((List.perm_ext_iff_of_nodup hnd hs.nodup).2 (fun x => by rw [mem_allM, hs.mem]))
 ·obtain ⟨h1, h2⟩ := mem_allM.1 hq
  have := th_in h2
  have := hb.things
  exact ⟨h1, by omega⟩
theorem rBackM {H : HS} (n pb : Nat) (X : List Th) (r : Nat) (R : RS) (M : MS) (w : World) (h : RRep w 0 r R) (hi : Inv H M) (hd : Doc M R) (hb : RBd M R) (ht : R.turn ≤ 1000000000) (hcut : ∀ k, k < R.objs.length → ((R.objs.getD k noRO).born < pb ↔ k < cutO H n)) (hpb : pb ≤ 1000000000000000) (hbn : R.born ≤ 1000000000000000) (hX1 : ∀ i, i + 1 ∈ (liveO H).take (cutO H n) → X.getD i noTh = M.things.getD i noTh) (hX2 : ∀ i, (X.getD i noTh).there = true → i + 1 ∈ (liveO H).take (cutO H n)) :
  Calls Tryd.prog 88 #[.pointer (some ⟨r, 0, none⟩), .agg #[.pointer (some ⟨r, 0, none⟩), .int .i64 (pb : Int), .int .i64 (R.turn : Int)]] w fun e w' => e = .returned (.int .i64 0) ∧ RN true r R { M with things := X } w w' := by
 have hcl : cutO H n ≤ R.objs.length := by
  obtain ⟨-, ho⟩ := hd.oopsL hi.toInvV.srt
  have h1 : R.objs.length = (liveO H).length := by have := congrArg List.length ho; simpa using this
  rw [h1]
  unfold cutO liveO
  have e : H.order.filter (fun o => o != 0) = (H.order.take n).filter (fun o => o != 0) ++ (H.order.drop n).filter (fun o => o != 0) := by rw [← List.filter_append, List.take_append_drop]
  rw [e, List.length_append]
  omega
 refine Calls.mono (rBack_cut pb (cutO H n) 0 r R w h hb.ok ht hcl hcut hpb (fun o ho => by have := hd.old o.born (List.mem_map_of_mem ho); omega)) ?_
 rintro e w' ⟨v, rfl, hr, hf, hv⟩
 exact ⟨rfl, _, hr, Doc.backN hi hd n X hX1 hX2 v (R.turn + 1), fr_r hf, rfoot_sub (rCut R (cutO H n) v) rfl rfl (fun o ho g hg => ⟨o, List.mem_of_mem_take ho, hg⟩) (fun g hg => .inr (hv g hg)), .inr ⟨rfl, rfl⟩, Nat.le_refl _, Nat.le_succ _⟩
set_option maxRecDepth 20000 in
set_option maxHeartbeats 1000000 in
theorem rKeep_no (ss : List Int) (p : Option Addr) (c j0 : Nat) (B r : Nat) (R : RS) (w : World) (h : RRep w B r R) (hl : R.objs.length ≤ 1048576) (hj : Rd w (.slice p ss.length c) ss) (hj0 : j0 < ss.length) (hpre : ∀ j, j < j0 → ¬ RNo R (ss.getD j 0)) (hbad : RNo R (ss.getD j0 0)) :
  Calls Tryd.prog 111 #[.pointer (some ⟨r, 0, none⟩), .slice p ss.length c] w fun e w' => e = .returned (.tuple #[.int .i64 0, .int .i64 0, .int .i64 20]) ∧ w' = w := by
 obtain ⟨p', c', e1, hrow⟩ := hj.at_
 injection e1 with e1 _ e2
 subst e1
 obtain ⟨g, off, hp, hgl, hcell⟩ := hrow (by omega)
 subst hp
 have hsh := hj.short
 have HC := mkHid hcell
 have HF : Hid (∀ k, k ≤ j0 → ∃ z : Int, (z < 0 ↔ k = j0) ∧ (0 ≤ z ↔ k < j0) ∧ Calls Tryd.prog 55 #[.pointer (some ⟨r, 0, none⟩), .int .i64 (ss.getD k 0)] w fun e w' => e = .returned (.int .i64 z) ∧ w' = w) := by
  intro k hk
  by_cases e : k = j0
  ·subst e
   exact ⟨-1, by omega, by omega, rfind_no _ B r R w h hl hbad⟩
  ·obtain ⟨i, -, hf⟩ := rfind_yes _ B r R w h hl (hpre k (by omega))
   exact ⟨i, by omega, by omega, hf⟩
 clear h hj hrow hcell hpre hbad e2
 go_enter Tryd.func111, Tryd.ntmps111
 go_wp2_with fail
 go_loopw [7] (fun q wr => ∃ k : Nat, k ≤ j0 ∧ q = .int .i64 k ∧ wr = w) (fun q _ => ss.length - (intOf q).toNat)
 case atStart => exact ⟨0, Nat.zero_le _, rfl, rfl⟩
 case round =>
  obtain ⟨k, hk, rfl, rfl⟩ := hrel
  have k1 : (0 : Int) ≤ (k : Int) := by omega
  have k2 : (k : Int) < (ss.length : Int) := by omega
  have x1 := HC.out k (by omega)
  obtain ⟨z, hz1, hz2, hf⟩ := HF.out k hk
  have HF2 := mkHid hf
  clear hf
  generalize ss.getD k 0 = zv at *
  by_cases e : k = j0
  ·have z0 := hz1.2 e
   clear hz1 hz2
   subst e
   go_wp2_with fail
   refine Calls.mono HF2.out ?_
   rintro e w2 ⟨rfl, hw⟩
   rw [hw]
   clear hw w2
   go_wp2_with fail
   refine bodyPost_ret (results_tmp3 rfl _ _ _) rfl ?_
   exact ⟨rfl, rfl⟩
  ·have z0 := hz2.2 (by omega)
   go_wp2_with fail
   refine Calls.mono HF2.out ?_
   rintro e w2 ⟨rfl, hw⟩
   rw [hw]
   clear hw w2
   go_wp2_with fail
   go_roundw
   case rel => exact ⟨k + 1, by omega, by go_num, trivial⟩
   case measure => simp [intOf]; omega
def keepA (M : MS) (zs : List Int) : Int × Int × Int := if zs.all (mhas M) = true then ((thereTo M.things M.things.length : Int) - (thereTo (keepN M zs).things (keepN M zs).things.length : Int), (endTo M.things M.things.length : Int) - (endTo (keepN M zs).things (keepN M zs).things.length : Int), 0) else (0, 0, 20)
theorem rKeepM {H : HS} (ss : List Int) (p : Option Addr) (c r : Nat) (R : RS) (M : MS) (w : World) (h : RRep w 0 r R) (hi : Inv H M) (hd : Doc M R) (hb : RBd M R) (ht : R.turn ≤ 1000000000) (hj : Rd w (.slice p ss.length c) ss) (hjl : ss.length ≤ 1048576) :
  Calls Tryd.prog 111 #[.pointer (some ⟨r, 0, none⟩), .slice p ss.length c] w fun e w' => e = .returned (.tuple #[.int .i64 (keepA M ss).1, .int .i64 (keepA M ss).2.1, .int .i64 (keepA M ss).2.2]) ∧ RN (ss.all (mhas M)) r R (keepN M ss) w w' := by
 have hl := hb.len
 cases hall : ss.all (mhas M) with
 | false =>
  have e1 : keepA M ss = (0, 0, 20) := if_neg (by rw [hall]; simp)
  have e2 : keepN M ss = M := if_neg (by rw [hall]; simp)
  rw [e1, e2]
  obtain ⟨j0, h1, h2, h3⟩ := all_badK _ ss hall
  refine Calls.mono (rKeep_no ss p c j0 0 r R w h (by omega) hj h1 (fun j hj2 => hd.yes (h2 j hj2)) ((hd.no _).2 h3)) ?_
  rintro e w' ⟨rfl, rfl⟩
  exact ⟨rfl, RN.same h hd (Fr.refl _ _)⟩
 | true =>
  obtain ⟨js, hk1, hk2⟩ := all_nat M ss hall
  have e2 : keepN M ss = { M with things := keptTh M.things js } := by unfold keepN; rw [if_pos hall, hk1, map_nat_back]
  have hz : ss = zs js := hk1
  have hdk := fun v tn => hd.kept js v tn
  have hes : endK (R.objs.map roKey) ≤ 1048576 := by
   rw [hd.keys hi.toInvV.srt, endK_sum]
   have h1 := sum_le M.things (liveO H) H.mem.length hi.toInvV.lives (fun x hx => by obtain ⟨i, -, -, -, -, -, h6⟩ := hi.toInvV.liveIn x hx; exact h6)
   have h2 := hi.safe.small.mem
   have h3 := hi.safe.small.words
   omega
  have hf := rKeep_ok js p c 0 r R w h hb.ok (by rw [← hz]; rw [show js.length = ss.length from by rw [hk1, List.length_map]]; exact hj) (fun j hj2 => hd.yes (hk2 j hj2)) ht hes hb.fin (by rw [show js.length = ss.length from by rw [hk1, List.length_map]]; exact hjl)
  rw [show js.length = ss.length from by rw [hk1, List.length_map]] at hf
  refine Calls.mono hf ?_
  rintro e w' ⟨v, rfl, hr, hfr, hv⟩
  have hd2 := hdk v (R.turn + 1)
  have l1 := hd2.len
  have l2 := hd2.fin
  have l3 : rEnd (kst js R.objs).1 = (kst js R.objs).2 := kst_end js R.objs
  have e1 : keepA M ss = ((R.objs.length : Int) - (kst js R.objs).1.length, (rEnd R.objs : Int) - (kst js R.objs).2, 0) := by
   unfold keepA
   rw [if_pos hall, e2, ← hd.len, ← hd.fin, ← l3]
   show (_, _, _) = _
   rw [← l1, ← l2]
  rw [e1, e2]
  refine ⟨rfl, _, hr, hd2, fr_r hfr, rfoot_sub (rKept R js v) rfl rfl (fun o ho g hg => ?_) (fun g hg => .inr (hv g hg)), .inr ⟨rfl, rfl⟩, Nat.le_refl _, Nat.le_succ _⟩
  obtain ⟨x, x1, -, -, -, -, x5, -⟩ := kst_from js R.objs o ho
  exact ⟨x, x1, by rw [← x5]; exact hg⟩
def NoH (w : World) (v : Value) : Prop := ∀ V, Fr [] w V → Calls Tryd.prog 44 #[v] V fun e w' => e = .returned (.bool false) ∧ w' = V
theorem NoH.idle {w w' : World} {v : Value} (h : NoH w v) (hf : Fr [] w w') : NoH w' v := fun V hV => h V (hf.trans hV (by simp))
theorem noH_nil (w : World) : NoH w (.pointer none) := fun V _ => made_nil V
theorem nSeatOf (v : Value) (A : Int) (w : World) (h : NoH w v) : Calls Tryd.prog 70 #[v, .int .i64 A] w fun e w' => e = .returned (.tuple #[.agg #[.int .i64 0, .int .i64 0, .int .i64 0], .int .i64 2]) ∧ Fr [] w w' := by
 have HM := mkHid h
 clear h
 go_enter Tryd.func70, Tryd.ntmps70
 go_wp2_with (go_at_call 44; refine Calls.mono (HM.out _ (by first | exact Fr.refl _ _ | exact Fr.alloc [] _ _)) ?_; rintro e w' ⟨rfl, hw'⟩; rw [hw']; clear hw' w')
 refine bodyPost_ret (v := .tuple #[.agg #[.int .i64 0, .int .i64 0, .int .i64 0], .int .i64 2]) (by simp [results, Tryd.results70, go_sem]) rfl ⟨rfl, Fr.alloc _ _ _⟩
theorem nAlloc (v : Value) (X A B : Int) (w : World) (h : NoH w v) : Calls Tryd.prog 14 #[v, .int .i64 X, .int .i64 A, .int .i64 B] w fun e w' => e = .returned (.tuple #[.int .i64 0, .int .i64 2]) ∧ Fr [] w w' := by
 have HM := mkHid h
 clear h
 go_enter Tryd.func14, Tryd.ntmps14
 go_wp2_with (go_at_call 44; refine Calls.mono (HM.out _ (by first | exact Fr.refl _ _ | exact Fr.alloc [] _ _)) ?_; rintro e w' ⟨rfl, hw'⟩; rw [hw']; clear hw' w')
 go_ret2
 first | exact ⟨rfl, Fr.refl _ _⟩ | exact ⟨rfl, Fr.alloc [] _ _⟩ | exact ⟨rfl, hf5⟩ | exact ⟨rfl, hf5.trans (Fr.alloc [] _ _) (by simp)⟩
theorem nMark (v : Value) (A : Int) (w : World) (h : NoH w v) : Calls Tryd.prog 12 #[v, .int .i64 A] w fun e w' => e = .returned (.int .i64 2) ∧ Fr [] w w' := by
 have HM := mkHid h
 clear h
 go_enter Tryd.func12, Tryd.ntmps12
 go_wp2_with (go_at_call 44; refine Calls.mono (HM.out _ (by first | exact Fr.refl _ _ | exact Fr.alloc [] _ _)) ?_; rintro e w' ⟨rfl, hw'⟩; rw [hw']; clear hw' w')
 go_ret
 first | exact ⟨rfl, Fr.refl _ _⟩ | exact ⟨rfl, Fr.alloc [] _ _⟩ | exact ⟨rfl, hf5⟩ | exact ⟨rfl, hf5.trans (Fr.alloc [] _ _) (by simp)⟩
theorem nFree (v : Value) (A : Int) (w : World) (h : NoH w v) : Calls Tryd.prog 64 #[v, .int .i64 A] w fun e w' => e = .returned (.int .i64 2) ∧ Fr [] w w' := by
 have HM := mkHid h
 clear h
 go_enter Tryd.func64, Tryd.ntmps64
 go_wp2_with (first | (go_at_call 44; refine Calls.mono (HM.out _ (Fr.refl _ _)) ?_; rintro e w' ⟨rfl, hw'⟩; rw [hw']; clear hw' w') | (go_at_call 70; refine Calls.mono (nSeatOf v _ w HM.out) ?_; rintro e w5 ⟨rfl, hf5⟩))
 go_ret
 first | exact ⟨rfl, Fr.refl _ _⟩ | exact ⟨rfl, Fr.alloc [] _ _⟩ | exact ⟨rfl, hf5⟩ | exact ⟨rfl, hf5.trans (Fr.alloc [] _ _) (by simp)⟩
theorem nClass (v : Value) (A : Int) (w : World) (h : NoH w v) : Calls Tryd.prog 68 #[v, .int .i64 A] w fun e w' => e = .returned (.tuple #[.int .i64 0, .int .i64 2]) ∧ Fr [] w w' := by
 have HM := mkHid h
 clear h
 go_enter Tryd.func68, Tryd.ntmps68
 go_wp2_with (first | (go_at_call 44; refine Calls.mono (HM.out _ (Fr.refl _ _)) ?_; rintro e w' ⟨rfl, hw'⟩; rw [hw']; clear hw' w') | (go_at_call 70; refine Calls.mono (nSeatOf v _ w HM.out) ?_; rintro e w5 ⟨rfl, hf5⟩))
 go_ret2
 first | exact ⟨rfl, Fr.refl _ _⟩ | exact ⟨rfl, Fr.alloc [] _ _⟩ | exact ⟨rfl, hf5⟩ | exact ⟨rfl, hf5.trans (Fr.alloc [] _ _) (by simp)⟩
theorem nSetClass (v : Value) (A X : Int) (w : World) (h : NoH w v) : Calls Tryd.prog 30 #[v, .int .i64 A, .int .i64 X] w fun e w' => e = .returned (.int .i64 2) ∧ Fr [] w w' := by
 have HM := mkHid h
 clear h
 go_enter Tryd.func30, Tryd.ntmps30
 go_wp2_with (first | (go_at_call 44; refine Calls.mono (HM.out _ (Fr.refl _ _)) ?_; rintro e w' ⟨rfl, hw'⟩; rw [hw']; clear hw' w') | (go_at_call 70; refine Calls.mono (nSeatOf v _ w HM.out) ?_; rintro e w5 ⟨rfl, hf5⟩))
 go_ret
 first | exact ⟨rfl, Fr.refl _ _⟩ | exact ⟨rfl, Fr.alloc [] _ _⟩ | exact ⟨rfl, hf5⟩ | exact ⟨rfl, hf5.trans (Fr.alloc [] _ _) (by simp)⟩
theorem nSize (v : Value) (A : Int) (w : World) (h : NoH w v) : Calls Tryd.prog 81 #[v, .int .i64 A] w fun e w' => e = .returned (.tuple #[.int .i64 0, .int .i64 0, .int .i64 2]) ∧ Fr [] w w' := by
 have HM := mkHid h
 clear h
 go_enter Tryd.func81, Tryd.ntmps81
 go_wp2_with (first | (go_at_call 44; refine Calls.mono (HM.out _ (Fr.refl _ _)) ?_; rintro e w' ⟨rfl, hw'⟩; rw [hw']; clear hw' w') | (go_at_call 70; refine Calls.mono (nSeatOf v _ w HM.out) ?_; rintro e w5 ⟨rfl, hf5⟩))
 refine bodyPost_ret (results_tmp3 rfl _ _ _) rfl ?_
 first | exact ⟨rfl, Fr.refl _ _⟩ | exact ⟨rfl, Fr.alloc [] _ _⟩ | exact ⟨rfl, hf5⟩ | exact ⟨rfl, hf5.trans (Fr.alloc [] _ _) (by simp)⟩
theorem nAt (v : Value) (A B : Int) (w : World) (h : NoH w v) : Calls Tryd.prog 47 #[v, .int .i64 A, .int .i64 B] w fun e w' => e = .returned (.tuple #[.int .i64 0, .int .i64 2]) ∧ Fr [] w w' := by
 have HM := mkHid h
 clear h
 go_enter Tryd.func47, Tryd.ntmps47
 go_wp2_with (first | (go_at_call 44; refine Calls.mono (HM.out _ (Fr.refl _ _)) ?_; rintro e w' ⟨rfl, hw'⟩; rw [hw']; clear hw' w') | (go_at_call 70; refine Calls.mono (nSeatOf v _ w HM.out) ?_; rintro e w5 ⟨rfl, hf5⟩))
 go_ret2
 first | exact ⟨rfl, Fr.refl _ _⟩ | exact ⟨rfl, Fr.alloc [] _ _⟩ | exact ⟨rfl, hf5⟩ | exact ⟨rfl, hf5.trans (Fr.alloc [] _ _) (by simp)⟩
theorem nPut (v : Value) (A B X : Int) (w : World) (h : NoH w v) : Calls Tryd.prog 29 #[v, .int .i64 A, .int .i64 B, .int .i64 X] w fun e w' => e = .returned (.int .i64 2) ∧ Fr [] w w' := by
 have HM := mkHid h
 clear h
 go_enter Tryd.func29, Tryd.ntmps29
 go_wp2_with (first | (go_at_call 44; refine Calls.mono (HM.out _ (Fr.refl _ _)) ?_; rintro e w' ⟨rfl, hw'⟩; rw [hw']; clear hw' w') | (go_at_call 70; refine Calls.mono (nSeatOf v _ w HM.out) ?_; rintro e w5 ⟨rfl, hf5⟩))
 go_ret
 first | exact ⟨rfl, Fr.refl _ _⟩ | exact ⟨rfl, Fr.alloc [] _ _⟩ | exact ⟨rfl, hf5⟩ | exact ⟨rfl, hf5.trans (Fr.alloc [] _ _) (by simp)⟩
theorem nExch (v : Value) (A B : Int) (w : World) (h : NoH w v) : Calls Tryd.prog 46 #[v, .int .i64 A, .int .i64 B] w fun e w' => e = .returned (.int .i64 2) ∧ Fr [] w w' := by
 have HM := mkHid h
 clear h
 go_enter Tryd.func46, Tryd.ntmps46
 go_wp2_with (first | (go_at_call 44; refine Calls.mono (HM.out _ (Fr.refl _ _)) ?_; rintro e w' ⟨rfl, hw'⟩; rw [hw']; clear hw' w') | (go_at_call 70; refine Calls.mono (nSeatOf v _ w HM.out) ?_; rintro e w5 ⟨rfl, hf5⟩))
 go_ret
 first | exact ⟨rfl, Fr.refl _ _⟩ | exact ⟨rfl, Fr.alloc [] _ _⟩ | exact ⟨rfl, hf5⟩ | exact ⟨rfl, hf5.trans (Fr.alloc [] _ _) (by simp)⟩
theorem nRoom (v : Value) (w : World) (h : NoH w v) : Calls Tryd.prog 20 #[v] w fun e w' => e = .returned (.tuple #[.int .i64 0, .int .i64 0]) ∧ Fr [] w w' := by
 have HM := mkHid h
 clear h
 go_enter Tryd.func20, Tryd.ntmps20
 go_wp2_with (go_at_call 44; refine Calls.mono (HM.out _ (by first | exact Fr.refl _ _ | exact Fr.alloc [] _ _)) ?_; rintro e w' ⟨rfl, hw'⟩; rw [hw']; clear hw' w')
 go_ret2
 first | exact ⟨rfl, Fr.refl _ _⟩ | exact ⟨rfl, Fr.alloc [] _ _⟩ | exact ⟨rfl, hf5⟩ | exact ⟨rfl, hf5.trans (Fr.alloc [] _ _) (by simp)⟩
theorem nMarked (v : Value) (w : World) (h : NoH w v) : Calls Tryd.prog 15 #[v] w fun e w' => e = .returned (.int .i64 0) ∧ Fr [] w w' := by
 have HM := mkHid h
 clear h
 go_enter Tryd.func15, Tryd.ntmps15
 go_wp2_with (go_at_call 44; refine Calls.mono (HM.out _ (by first | exact Fr.refl _ _ | exact Fr.alloc [] _ _)) ?_; rintro e w' ⟨rfl, hw'⟩; rw [hw']; clear hw' w')
 go_ret
 first | exact ⟨rfl, Fr.refl _ _⟩ | exact ⟨rfl, Fr.alloc [] _ _⟩ | exact ⟨rfl, hf5⟩ | exact ⟨rfl, hf5.trans (Fr.alloc [] _ _) (by simp)⟩
theorem nAll (v : Value) (w : World) (h : NoH w v) : Calls Tryd.prog 35 #[v] w fun e w' => e = .returned (.slice none 0 0) ∧ Fr [] w w' := by
 have HM := mkHid h
 clear h
 go_enter Tryd.func35, Tryd.ntmps35
 go_wp2_with (go_at_call 44; refine Calls.mono (HM.out _ (by first | exact Fr.refl _ _ | exact Fr.alloc [] _ _)) ?_; rintro e w' ⟨rfl, hw'⟩; rw [hw']; clear hw' w')
 go_ret
 first | exact ⟨rfl, Fr.refl _ _⟩ | exact ⟨rfl, Fr.alloc [] _ _⟩ | exact ⟨rfl, hf5⟩ | exact ⟨rfl, hf5.trans (Fr.alloc [] _ _) (by simp)⟩
theorem nKeep (v : Value) (u : Value) (w : World) (h : NoH w v) : Calls Tryd.prog 34 #[v, u] w fun e w' => e = .returned (.tuple #[.int .i64 0, .int .i64 0, .int .i64 2]) ∧ Fr [] w w' := by
 have HM := mkHid h
 clear h
 go_enter Tryd.func34, Tryd.ntmps34
 go_wp2_with (go_at_call 44; refine Calls.mono (HM.out _ (by first | exact Fr.refl _ _ | exact Fr.alloc [] _ _)) ?_; rintro e w' ⟨rfl, hw'⟩; rw [hw']; clear hw' w')
 refine bodyPost_ret (results_tmp3 rfl _ _ _) rfl ?_
 first | exact ⟨rfl, Fr.refl _ _⟩ | exact ⟨rfl, Fr.alloc [] _ _⟩ | exact ⟨rfl, hf5⟩ | exact ⟨rfl, hf5.trans (Fr.alloc [] _ _) (by simp)⟩
theorem nBack (v : Value) (x y z : Value) (w : World) (h : NoH w v) : Calls Tryd.prog 31 #[v, .agg #[x, y, z]] w fun e w' => e = .returned (.int .i64 2) ∧ Fr [] w w' := by
 have HM := mkHid h
 clear h
 go_enter Tryd.func31, Tryd.ntmps31
 go_wp2_with (go_at_call 44; refine Calls.mono (HM.out _ (by first | exact Fr.refl _ _ | exact Fr.alloc [] _ _)) ?_; rintro e w' ⟨rfl, hw'⟩; rw [hw']; clear hw' w')
 go_ret
 exact ⟨rfl, Fr.alloc [] _ _⟩
end Go.Proofs.YtklfnjlenbgmoaaDoor
