import Derived.Test.YtklfnjlenbgmoaaDoorPG21HPlQ
import Derived.Test.YtklfnjlenbgmoaaDoorPG24HRefO
import Derived.Test.YtklfnjlenbgmoaaDoorPG15HLoadW
import Derived.Test.YtklfnjlenbgmoaaDoorPG17HRefP
import Derived.Test.YtklfnjlenbgmoaaDoorPG18RKeepP
import Derived.Test.YtklfnjlenbgmoaaDoorPG23HDcD
import Derived.BigQuiet
set_option linter.unusedVariables false
namespace Go.Proofs.YtklfnjlenbgmoaaDoor
open Go.RowKit
def rfoot (r : Nat) (R : RS) : List Nat := r :: (R.ov.ownBlock.toList ++ R.objs.flatMap (fun o => o.v.ownBlock.toList))
theorem rfoot_row {r : Nat} {R : RS} {g : Nat} (h : R.ov.ownBlock = some g) : g ∈ rfoot r R := by unfold rfoot; rw [h]; simp
theorem rfoot_slot {r : Nat} {R : RS} {g : Nat} {o : RO} (ho : o ∈ R.objs) (h : o.v.ownBlock = some g) : g ∈ rfoot r R := by
 unfold rfoot
 refine List.mem_cons_of_mem _ (List.mem_append_right _ (List.mem_flatMap.2 ⟨o, ho, ?_⟩))
 rw [h]; simp
theorem RRep.keepF {w w' : World} {r : Nat} {R : RS} {S : List Nat} (h : RRep w 0 r R) (hf : Fr S w w') (hd : ∀ g ∈ rfoot r R, g ∉ S) : RRep w' 0 r R :=
 ⟨h.lo, (hf.block r (lt_of_heap h.top) (hd r (by simp [rfoot]))).trans h.top, own_congr h.row fun g hg => hf.block g (h.row.lt g hg).2 (hd g (rfoot_row hg)), fun o ho => own_congr (h.slots o ho) fun g hg => hf.block g ((h.slots o ho).lt g hg).2 (hd g (rfoot_slot ho hg))⟩
theorem RRep.ltF {w : World} {r : Nat} {R : RS} (h : RRep w 0 r R) : ∀ g ∈ rfoot r R, g < w.heap.size := by
 intro g hg
 unfold rfoot at hg
 rcases List.mem_cons.1 hg with h1 | h1
 ·rw [h1]; exact lt_of_heap h.top
 ·rcases List.mem_append.1 h1 with h2 | h2
  ·exact (h.row.lt g (by simpa using h2)).2
  ·obtain ⟨o, o1, o2⟩ := List.mem_flatMap.1 h2
   exact ((h.slots o o1).lt g (by simpa using o2)).2
def OldR (b : Bool) (R R' : RS) : Prop := ((b = false ∧ R'.turn = R.turn ∧ ∃ t, R'.objs.map RO.born = R.objs.map RO.born ++ t ∧ ∀ b ∈ t, R.born ≤ b) ∨ (b = true ∧ R'.turn = R.turn + 1)) ∧ R.born ≤ R'.born ∧ R'.born ≤ R.born + 1
theorem OldR.same {R R' : RS} (h1 : R'.turn = R.turn) (h2 : R'.objs.map RO.born = R.objs.map RO.born) (h3 : R'.born = R.born) : OldR false R R' := ⟨.inl ⟨rfl, h1, [], by rw [h2]; simp, by simp⟩, by omega, by omega⟩
def RN (b : Bool) (r : Nat) (R : RS) (M' : MS) (w w' : World) : Prop := ∃ R', RRep w' 0 r R' ∧ Doc M' R' ∧ Fr (rfoot r R) w w' ∧ (∀ g ∈ rfoot r R', g ∈ rfoot r R ∨ w.heap.size ≤ g) ∧ OldR b R R'
theorem RN.same {r : Nat} {R : RS} {M : MS} {w w' : World} (h : RRep w 0 r R) (hd : Doc M R) (hf : Fr [] w w') : RN false r R M w w' := ⟨R, h.idle hf, hd, hf.mono (by simp), fun g hg => .inl hg, OldR.same rfl rfl rfl⟩
structure RBd (M : MS) (R : RS) : Prop where
 ok : ROk R
 words : (R.words : Int) ≤ 1048576
 oops : (R.oops : Int) ≤ 65536
 fin : (rEnd R.objs : Int) ≤ 1048576
 len : R.objs.length ≤ 65538
 things : M.things.length ≤ 65538
 mark : (R.mark : Int) ≤ 1073741824
 full : (R.oops ≤ R.objs.length ↔ M.oops = thereTo M.things M.things.length)
theorem Doc.bd {H : HS} {M : MS} {R : RS} (h : Inv H M) (hd : Doc M R) : RBd M R := by
 have h1 := hd.len
 have h2 := hd.fin
 have h3 := h.safe.small
 have h4 := h.words
 have h5 := h.oops
 have h6 := h.count
 have h7 := h.fin
 have h8 := h.model.len
 have h9 := hd.words
 have h10 := hd.oops
 have h11 := hd.mark
 have h12 := h.mark
 have hc := h3.count
 have hm := h3.mem
 have hw := h3.words
 have ho := h3.oops
 have hk := h3.mark
 refine ⟨⟨by omega, fun o o1 => ?_⟩, by omega, by omega, by omega, by omega, by omega, by omega, by omega⟩
 obtain ⟨e1, e2, e3⟩ := hd.each o o1
 obtain ⟨-, p2, p3, -, p5⟩ := rv_parts e1
 have hi := th_in e3
 have hs := h.model.slots _ hi
 have hp := h.model.place _ hi
 rw [p3, p5]
 exact ⟨by omega, by omega⟩
theorem rMarksM (A : Int) (r : Nat) (R : RS) (M : MS) (w : World) (h : RRep w 0 r R) (hd : Doc M R) : Calls Tryd.prog 78 #[.pointer (some ⟨r, 0, none⟩), .int .i64 A] w fun e w' => e = .returned (.int .i64 (if isM A = true then 0 else 1)) ∧ RN false r R (markN M A) w w' := by
 unfold markN
 cases hA : isM A with
 | false =>
  rw [if_neg (by simp), if_neg (by simp)]
  refine Calls.mono (rMarks_no A 0 r R w h hA) ?_
  rintro e w' ⟨rfl, rfl⟩
  exact ⟨rfl, RN.same h hd (Fr.refl _ _)⟩
 | true =>
  rw [if_pos rfl, if_pos rfl]
  have := of_decide_eq_true hA
  obtain ⟨n, rfl⟩ : ∃ n : Nat, A = (n : Int) := ⟨A.toNat, by omega⟩
  refine Calls.mono (rMarks_in n 0 r R w h (by omega)) ?_
  rintro e w' ⟨rfl, hr, hf⟩
  exact ⟨rfl, _, hr, hd.setMark n, hf.mono (fun b hb => .inl (by simp at hb; rw [hb]; simp [rfoot])), fun g hg => .inl hg, OldR.same rfl rfl rfl⟩
theorem rfoot_sub {r : Nat} {R : RS} {os : List RO} {ov : Value} {N : Nat} (R' : RS) (h1 : R'.objs = os) (h2 : R'.ov = ov) (hsub : ∀ o ∈ os, ∀ g, o.v.ownBlock = some g → ∃ x ∈ R.objs, x.v.ownBlock = some g) (hov : ∀ g, ov.ownBlock = some g → g ∈ rfoot r R ∨ N ≤ g) : ∀ g ∈ rfoot r R', g ∈ rfoot r R ∨ N ≤ g := by
 intro g hg
 unfold rfoot at hg
 rw [h1, h2] at hg
 rcases List.mem_cons.1 hg with h3 | h3
 ·left; rw [h3]; simp [rfoot]
 ·rcases List.mem_append.1 h3 with h4 | h4
  ·exact hov g (by simpa using h4)
  ·obtain ⟨o, o1, o2⟩ := List.mem_flatMap.1 h4
   obtain ⟨x, x1, x2⟩ := hsub o o1 g (by simpa using o2)
   exact .inl (rfoot_slot x1 x2)
theorem fr_r {r : Nat} {R : RS} {w w' : World} (hf : Fr [r] w w') : Fr (rfoot r R) w w' := hf.mono (fun b hb => .inl (by simp at hb; rw [hb]; simp [rfoot]))
theorem rFreeM (A : Int) (r : Nat) (R : RS) (M : MS) (w : World) (h : RRep w 0 r R) (hd : Doc M R) (hb : RBd M R) (ht : R.turn ≤ 1000000000) : Calls Tryd.prog 79 #[.pointer (some ⟨r, 0, none⟩), .int .i64 A] w fun e w' => e = .returned (.int .i64 (if mhas M A = true then 0 else 20)) ∧ RN (mhas M A) r R (freeN M A) w w' := by
 have hl := hb.len
 unfold freeN
 cases hA : mhas M A with
 | false =>
  rw [if_neg (by simp), if_neg (by simp)]
  refine Calls.mono (rFree_no A 0 r R w h (by omega) ((hd.no A).2 hA)) ?_
  rintro e w' ⟨rfl, rfl⟩
  exact ⟨rfl, RN.same h hd (Fr.refl _ _)⟩
 | true =>
  rw [if_pos rfl, if_pos rfl]
  refine Calls.mono (rFree_ok A 0 r R w h (by omega) (hd.yes hA) ht) ?_
  rintro e w' ⟨rfl, k, v, hk, hr, hf, hv⟩
  obtain ⟨q, rfl, hq, hbq⟩ := mhas_yes hA
  rw [sub1]
  refine ⟨rfl, _, hr, hd.freed hk v (R.turn + 1), fr_r hf, rfoot_sub (rDrop R k v) rfl rfl (fun o ho g hg => ⟨o, ?_, hg⟩) (fun g hg => .inr (hv g hg)), .inr ⟨rfl, rfl⟩, Nat.le_refl _, Nat.le_succ _⟩
  rcases List.mem_append.1 ho with h1 | h1
  ·exact List.mem_of_mem_take h1
  ·exact List.mem_of_mem_drop h1
theorem rClassM (A : Int) (r : Nat) (R : RS) (M : MS) (w : World) (h : RRep w 0 r R) (hd : Doc M R) (hb : RBd M R) : Calls Tryd.prog 80 #[.pointer (some ⟨r, 0, none⟩), .int .i64 A] w fun e w' => e = .returned (.tuple #[.int .i64 (if mhas M A = true then (M.things.getD (A.toNat - 1) noTh).cls else 0), .int .i64 (if mhas M A = true then 0 else 20)]) ∧ Fr [] w w' := by
 have hl := hb.len
 refine Calls.mono (rClass_any A 0 r R w h (by omega)) ?_
 rintro e w' ⟨⟨k, hk, rfl⟩ | ⟨hn, rfl⟩, hf⟩
 ·obtain ⟨h1, h2, h3⟩ := hd.is hk
  have hA : mhas M A = true := by
   cases hx : mhas M A with
   | true => rfl
   | false => exact absurd hk.2 ((hd.no A).2 hx k hk.1)
  rw [if_pos hA, if_pos hA, (rv_parts h3).2.2.2.1]
  exact ⟨rfl, hf⟩
 ·have hA := (hd.no A).1 hn
  rw [if_neg (by rw [hA]; simp), if_neg (by rw [hA]; simp)]
  exact ⟨rfl, hf⟩
theorem rSizeM (A : Int) (r : Nat) (R : RS) (M : MS) (w : World) (h : RRep w 0 r R) (hd : Doc M R) (hb : RBd M R) : Calls Tryd.prog 82 #[.pointer (some ⟨r, 0, none⟩), .int .i64 A] w fun e w' => e = .returned (.tuple #[.int .i64 (if mhas M A = true then ((M.things.getD (A.toNat - 1) noTh).slots.length : Int) else 0), .int .i64 (if mhas M A = true then ((M.things.getD (A.toNat - 1) noTh).fmt : Int) else 0), .int .i64 (if mhas M A = true then 0 else 20)]) ∧ Fr [] w w' := by
 have hl := hb.len
 cases hA : mhas M A with
 | false =>
  rw [if_neg (by simp), if_neg (by simp), if_neg (by simp)]
  refine Calls.mono (rSize_no A 0 r R w h (by omega) ((hd.no A).2 hA)) ?_
  rintro e w' ⟨rfl, rfl⟩
  exact ⟨rfl, Fr.refl _ _⟩
 | true =>
  rw [if_pos rfl, if_pos rfl, if_pos rfl]
  refine Calls.mono (rSize_yes A 0 r R w h (by omega) (hd.yes hA)) ?_
  rintro e w' ⟨⟨k, hk, rfl⟩, hf⟩
  obtain ⟨h1, h2, h3⟩ := hd.is hk
  obtain ⟨-, p2, -, -, p5⟩ := rv_parts h3
  rw [p2, p5]
  exact ⟨rfl, hf⟩
theorem rAtM (A B : Int) (r : Nat) (R : RS) (M : MS) (w : World) (h : RRep w 0 r R) (hd : Doc M R) (hb : RBd M R) : Calls Tryd.prog 84 #[.pointer (some ⟨r, 0, none⟩), .int .i64 A, .int .i64 B] w fun e w' => e = .returned (.tuple #[.int .i64 (atA M A B).1, .int .i64 (atA M A B).2]) ∧ Fr [] w w' := by
 have hl := hb.len
 unfold atA
 cases hA : mhas M A with
 | false =>
  rw [if_neg (by simp)]
  refine Calls.mono (rAt_no A B 0 r R w h (by omega) ((hd.no A).2 hA)) ?_
  rintro e w' ⟨rfl, rfl⟩
  exact ⟨rfl, Fr.refl _ _⟩
 | true =>
  rw [if_pos rfl]
  by_cases hB : 0 ≤ B ∧ B < ((M.things.getD (A.toNat - 1) noTh).slots.length : Int)
  ·rw [if_pos hB]
   obtain ⟨i, rfl⟩ : ∃ i : Nat, B = (i : Int) := ⟨B.toNat, by omega⟩
   refine Calls.mono (rAt_yes A 0 r R i w h (by omega) (fun k hk => ?_) (hd.yes hA)) ?_
   ·rw [(rv_parts (hd.is hk).2.2).2.2.2.2]; omega
   ·rintro e w' ⟨⟨k, hk, rfl⟩, hf⟩
    rw [(rv_parts (hd.is hk).2.2).2.2.2.2]
    exact ⟨rfl, hf⟩
  ·rw [if_neg hB]
   refine Calls.mono (rAt_slot A B 0 r R w h (by omega) (hd.yes hA) (fun k hk => ?_)) ?_
   ·rw [(rv_parts (hd.is hk).2.2).2.2.2.2]; omega
   ·rintro e w' ⟨rfl, rfl⟩
    exact ⟨rfl, Fr.refl _ _⟩
theorem rSetClassM (A X : Int) (r : Nat) (R : RS) (M : MS) (w : World) (h : RRep w 0 r R) (hd : Doc M R) (hb : RBd M R) : Calls Tryd.prog 83 #[.pointer (some ⟨r, 0, none⟩), .int .i64 A, .int .i64 X] w fun e w' => e = .returned (.int .i64 (if mhas M A = true then (if isW X = true then 0 else 10) else 20)) ∧ RN false r R (clsN M A X) w w' := by
 have hl := hb.len
 unfold clsN
 cases hA : mhas M A with
 | false =>
  rw [if_neg (by simp), if_neg (by simp)]
  refine Calls.mono (rSetClass_no A X 0 r R w h (by omega) ((hd.no A).2 hA)) ?_
  rintro e w' ⟨rfl, rfl⟩
  exact ⟨rfl, RN.same h hd (Fr.refl _ _)⟩
 | true =>
  rw [if_pos rfl]
  cases hX : isW X with
  | false =>
   rw [if_neg (by simp), if_neg (by simp)]
   refine Calls.mono (rSetClass_word A X 0 r R w h (by omega) (hd.yes hA) hX) ?_
   rintro e w' ⟨rfl, rfl⟩
   exact ⟨rfl, RN.same h hd (Fr.refl _ _)⟩
  | true =>
   rw [if_pos rfl, if_pos ⟨rfl, rfl⟩]
   refine Calls.mono (rSetClass_ok A X 0 r R w h (by omega) (hd.yes hA) hX) ?_
   rintro e w' ⟨rfl, m, g, hm, hg, hr, hf⟩
   obtain ⟨q, rfl, hq, hbq⟩ := mhas_yes hA
   rw [sub1]
   obtain ⟨-, -, h3⟩ := hd.is hm
   rw [show ((q : Int) + 1).toNat = q + 1 from by omega] at h3
   have p5 := (rv_parts h3).2.2.2.2
   rw [Nat.add_sub_cancel] at p5
   have hd2 := hd.upd hm X (R.objs.getD m noRO).slots (by rw [p5])
   rw [p5] at hd2 hr
   refine ⟨rfl, _, hr, hd2, hf.mono (fun b hb2 => .inl (by simp at hb2; rw [hb2]; exact rfoot_row hg)), ?_, OldR.same rfl (Alk.upd R m X _ (by rw [p5])).borns rfl⟩
   refine rfoot_sub (R.upd m X (M.things.getD q noTh).slots) rfl rfl (fun o ho g2 hg2 => ?_) (fun g2 hg2 => .inl (rfoot_row hg2))
   rcases List.mem_or_eq_of_mem_set ho with h1 | h1
   ·exact ⟨o, h1, hg2⟩
   ·exact ⟨R.objs.getD m noRO, roD_mem hm.1, by rw [h1] at hg2; exact hg2⟩
theorem rPutM (A B X : Int) (r : Nat) (R : RS) (M : MS) (w : World) (h : RRep w 0 r R) (hd : Doc M R) (hb : RBd M R) : Calls Tryd.prog 85 #[.pointer (some ⟨r, 0, none⟩), .int .i64 A, .int .i64 B, .int .i64 X] w fun e w' => e = .returned (.int .i64 (putA M A B X)) ∧ RN false r R (putN M A B X) w w' := by
 have hl := hb.len
 unfold putA putN
 cases hA : mhas M A with
 | false =>
  rw [if_neg (by simp), if_neg (by simp)]
  refine Calls.mono (rPut_no A B X 0 r R w h (by omega) ((hd.no A).2 hA)) ?_
  rintro e w' ⟨rfl, rfl⟩
  exact ⟨rfl, RN.same h hd (Fr.refl _ _)⟩
 | true =>
  rw [if_pos rfl]
  by_cases hB : 0 ≤ B ∧ B < ((M.things.getD (A.toNat - 1) noTh).slots.length : Int)
  ·rw [if_pos hB]
   obtain ⟨i, rfl⟩ : ∃ i : Nat, B = (i : Int) := ⟨B.toNat, by omega⟩
   cases hX : mayB X ((M.things.getD (A.toNat - 1) noTh).fmt : Int) with
   | false =>
    rw [if_neg (by simp), if_neg (by simp)]
    refine Calls.mono (rPut_word A i X 0 r R w h (by omega) (hd.yes hA) (fun k hk => ?_)) ?_
    ·obtain ⟨-, p2, -, -, p5⟩ := rv_parts (hd.is hk).2.2
     rw [p2, p5]
     exact ⟨by omega, hX⟩
    ·rintro e w' ⟨rfl, rfl⟩
     exact ⟨rfl, RN.same h hd (Fr.refl _ _)⟩
   | true =>
    rw [if_pos rfl, if_pos ⟨rfl, by omega, by omega, rfl⟩]
    refine Calls.mono (rPut_ok A i X 0 r R w h hd.lone (by omega) (hd.yes hA) (fun k hk => ?_)) ?_
    ·obtain ⟨-, p2, -, -, p5⟩ := rv_parts (hd.is hk).2.2
     rw [p2, p5]
     exact ⟨by omega, hX⟩
    ·rintro e w' ⟨rfl, m, g, hm, hg, hr, hf⟩
     obtain ⟨q, rfl, hq, hbq⟩ := mhas_yes hA
     rw [sub1, Int.toNat_natCast]
     obtain ⟨-, -, h3⟩ := hd.is hm
     rw [show ((q : Int) + 1).toNat = q + 1 from by omega] at h3
     obtain ⟨-, -, -, p4, p5⟩ := rv_parts h3
     rw [Nat.add_sub_cancel] at p4 p5
     have hd2 := hd.upd hm (R.objs.getD m noRO).cls ((R.objs.getD m noRO).slots.set i X) (by rw [p5, List.length_set])
     rw [p4, p5] at hd2 hr
     refine ⟨rfl, _, hr, hd2, hf.mono (fun b hb2 => .inl (by simp at hb2; rw [hb2]; exact rfoot_slot (roD_mem hm.1) hg)), ?_, OldR.same rfl (Alk.upd R m _ _ (by rw [p5, List.length_set])).borns rfl⟩
     refine rfoot_sub (R.upd m (M.things.getD q noTh).cls ((M.things.getD q noTh).slots.set i X)) rfl rfl (fun o ho g2 hg2 => ?_) (fun g2 hg2 => .inl (rfoot_row hg2))
     rcases List.mem_or_eq_of_mem_set ho with h1 | h1
     ·exact ⟨o, h1, hg2⟩
     ·exact ⟨R.objs.getD m noRO, roD_mem hm.1, by rw [h1] at hg2; exact hg2⟩
  ·rw [if_neg hB, if_neg (by omega)]
   refine Calls.mono (rPut_slot A B X 0 r R w h (by omega) (hd.yes hA) (fun k hk => ?_)) ?_
   ·rw [(rv_parts (hd.is hk).2.2).2.2.2.2]; omega
   ·rintro e w' ⟨rfl, rfl⟩
    exact ⟨rfl, RN.same h hd (Fr.refl _ _)⟩
theorem rRoomM (r : Nat) (R : RS) (M : MS) (w : World) (h : RRep w 0 r R) (hd : Doc M R) (hb : RBd M R) : Calls Tryd.prog 21 #[.pointer (some ⟨r, 0, none⟩)] w fun e w' => e = .returned (.tuple #[.int .i64 ((M.words : Int) - (endTo M.things M.things.length : Nat)), .int .i64 ((M.oops : Int) - (thereTo M.things M.things.length : Nat))]) ∧ Fr [] w w' := by
 have hr := rRoom_ok 0 r R w h hb.ok hb.words hb.oops hb.fin
 rw [hd.fin, hd.len, hd.words, hd.oops] at hr
 exact hr
theorem rMarkedM (r : Nat) (R : RS) (M : MS) (w : World) (h : RRep w 0 r R) (hd : Doc M R) : Calls Tryd.prog 90 #[.pointer (some ⟨r, 0, none⟩)] w fun e w' => e = .returned (.int .i64 (M.mark : Int)) ∧ w' = w := by
 have hr := rMarked_ok 0 r R w h
 rw [hd.mark] at hr
 exact hr
end Go.Proofs.YtklfnjlenbgmoaaDoor
namespace Go.Proofs.YtklfnjlenbgmoaaDoor
open Go.RowKit
attribute [local go_sem ↓] Go.wp_at_zero Go.wp_at_succ
set_option maxRecDepth 20000 in
set_option maxHeartbeats 1000000 in
theorem rIn2_ok (ss : List Int) (z : Int) (va : Value) (w : World) (ha : Rd w va ss) :
  Calls Tryd.prog 116 #[va, .int .i64 z] w fun e w' => e = .returned (.bool (decide (z ∈ ss))) ∧ w' = w := by
 obtain ⟨pa, ca, rfl, hpa⟩ := ha.at_
 have hl := ha.short
 clear ha
 have HA := mkHid hpa
 clear hpa
 go_enter Tryd.func116, Tryd.ntmps116
 go_wp2_with fail
 go_loopw [5] (fun q wr => ∃ k : Nat, k ≤ ss.length ∧ q = .int .i64 k ∧ wr = w ∧ Hid (z ∉ ss.take k)) (fun q _ => ss.length - (intOf q).toNat)
 case atStart => exact ⟨0, Nat.zero_le _, rfl, rfl, mkHid (by simp)⟩
 case round =>
  obtain ⟨k, hkn, rfl, rfl, HZ⟩ := hrel
  by_cases hlt : k < ss.length
  ·obtain ⟨ga, oa, rfl, -, hca⟩ := HA.out (by omega)
   have x1 := hca k hlt
   have k1 : (0 : Int) ≤ (k : Int) := by omega
   have k2 : (k : Int) < (ss.length : Int) := by omega
   have HT : Hid (ss.take (k + 1) = ss.take k ++ [ss.getD k 0]) := by
    show ss.take (k + 1) = ss.take k ++ [ss.getD k 0]
    rw [List.take_succ_eq_append_getElem hlt, List.getD_eq_getElem?_getD, List.getElem?_eq_getElem hlt]; rfl
   have HM : Hid (ss.getD k 0 ∈ ss) := by
    show ss.getD k 0 ∈ ss
    rw [List.getD_eq_getElem?_getD, List.getElem?_eq_getElem hlt]; exact List.getElem_mem _
   generalize ss.getD k 0 = y at *
   clear hca HA
   by_cases he : y = z
   ·subst he
    have HD : Hid (decide (y ∈ ss) = true) := decide_eq_true HM.out
    clear HM HT HZ
    go_wp2_with fail
    go_ret
    exact ⟨by rw [HD.out]; rfl, rfl⟩
   ·have hb : (y == z) = false := by simpa using he
    have HN : Hid (z ∉ ss.take (k + 1)) := by
     show z ∉ ss.take (k + 1)
     rw [HT.out, List.mem_append]
     rintro (h1 | h1)
     ·exact HZ.out h1
     ·simp at h1; exact he h1.symm
    clear HT HM HZ he
    go_wp2_with fail
    go_roundw
    case rel => exact ⟨k + 1, by omega, by go_num, trivial, HN⟩
    case measure => simp [intOf]; omega
  ·have hke : k = ss.length := by omega
   subst hke
   have HD : Hid (decide (z ∈ ss) = false) := decide_eq_false (by have := HZ.out; rwa [List.take_length] at this)
   go_wp2_with fail
   go_ret
   exact ⟨by rw [HD.out]; rfl, rfl⟩
end Go.Proofs.YtklfnjlenbgmoaaDoor
namespace Go.Proofs.YtklfnjlenbgmoaaDoor
open Go.RowKit
structure HG where
 oop : Int
 cls : Int
 fmt : Int
 slots : List Int
 g : Nat
 cap : Nat
theorem own_type {w : World} {b1 b2 : Nat} {t1 t2 : TypeId} {s1 s2 : Nat} {v1 v2 : Value} {n1 n2 : Nat} {x1 x2 : List Value} (h1 : w.ownsRow b1 t1 s1 v1 n1 x1) (h2 : w.ownsRow b2 t2 s2 v2 n2 x2) (ht : t1 ≠ t2) {g : Nat} (e1 : v1.ownBlock = some g) (e2 : v2.ownBlock = some g) : False := by
 rcases h1.2 with ⟨q1, _⟩ | ⟨g1, cap1, cur1, q1, q2, q3, _⟩
 ·rw [q1] at e1; simp [Value.ownBlock] at e1
 ·rcases h2.2 with ⟨r1, _⟩ | ⟨g2, cap2, cur2, r1, r2, r3, _⟩
  ·rw [r1] at e2; simp [Value.ownBlock] at e2
  ·rw [q1] at e1
   rw [r1] at e2
   have a1 : g1 = g := by simpa [Value.ownBlock] using e1
   have a2 : g2 = g := by simpa [Value.ownBlock] using e2
   subst a1
   subst a2
   rw [q3] at r3
   simp at r3
   exact ht r3.2
theorem step_append_run {P : Program} {ops : Array Oper} {o : Oper} {a : Act} {w : World} {K : Act → World → Prop} {Q : Exit → Act → World → Prop} {E : Prop}
  (hg : o.guard = none) (s x : Operand) (t tn : TypeId) (ho : o.op = .call { callee := .builtin .append, args := #[s, x], argTypes := #[t, tn] }) (vs vx : Value) (hs : a.eval s = vs) (hx : a.eval x = vx)
  (v' : Value) (w' : World) (hr : (Builtin.append_ #[t, tn] o.type #[vs, vx]).run P w = .ok v' w') (h : K (a.put o.dst v') w') : if Region.wanted o (yielded ops a.tmps) = true then Oper.wp P o a w K Q else E := by
 have hw : Region.wanted o (yielded ops a.tmps) = true := by simp [Region.wanted, hg]
 rw [if_pos hw]
 exact Lib.wp_append_run w s x t tn ho vs vx hs hx v' w' hr h
theorem RRep.next {V5 w6 w7 V : World} {B r : Nat} {R : RS} {o : RO} {v7 : Value} (h : RRep V5 B r R) (hf6 : Fr [] V5 w6) (ho6 : w6.ownsRow V5.heap.size 33 1 o.v o.slots.length (o.slots.map (Value.int .i64))) (hB : B ≤ V5.heap.size) (hrB : ∀ b, R.ov.ownBlock = some b → b ≠ r)
  (hg : (w6.alloc (.cells (ro6 o).toArray 114)).grownBy w7 R.ov.ownBlock) (hown : w7.ownsRow B 114 6 v7 (R.objs.length + 1) (roCells R.objs ++ ro6 o))
  (hv7 : ∀ b, v7.ownBlock = some b → b ≠ r) (he : Eqw ((w7.setCell ⟨r, 5, none⟩ v7).setCell ⟨r, 3, none⟩ (I (R.born + 1))) V) : RRep V B r { R with objs := R.objs ++ [o], born := R.born + 1, ov := v7 } := by
 have hr5 := lt_of_heap h.top
 have h6 := hf6.size
 have hlo := h.lo
 have hV : ∀ i, i ≠ r → V.heap[i]? = w7.heap[i]? := fun i hi => by rw [he.2.2.2, set_else hi, set_else hi]
 have h7 : ∀ i, i < w6.heap.size → some i ≠ R.ov.ownBlock → w7.heap[i]? = w6.heap[i]? := fun i hi hn => by
  rw [hg.block i (by simp; omega) hn]
  exact Below.heap_alloc _ _ _ hi
 have htop7 : w7.heap[r]? = some (.cells (rcells R) 111 (0, 0)) := by
  rw [h7 r (by omega) (fun e => hrB r e.symm rfl), hf6.block r hr5 (by simp)]
  exact h.top
 have hsl : ∀ x : RO, w6.ownsRow B 33 1 x.v x.slots.length (x.slots.map (Value.int .i64)) → V.ownsRow B 33 1 x.v x.slots.length (x.slots.map (Value.int .i64)) := fun x hx => by
  have hrow6 : w6.ownsRow B 114 6 R.ov R.objs.length (roCells R.objs) := own_congr h.row fun g hg => hf6.block g (h.row.lt g hg).2 (by simp)
  refine own_congr hx fun g hgg => ?_
  have hl := hx.lt g hgg
  have hgr : g ≠ r := fun e => by
   subst e
   have h2 := h.top
   rcases hx.2 with ⟨q1, _⟩ | ⟨g1, cap1, cur1, q1, q2, q3, _⟩
   ·rw [q1] at hgg; simp [Value.ownBlock] at hgg
   ·rw [q1] at hgg
    have a1 : g1 = g := by simpa [Value.ownBlock] using hgg
    subst a1
    rw [hf6.block g1 hr5 (by simp), h2] at q3
    simp at q3
  rw [hV g hgr]
  exact h7 g hl.2 (fun e => own_type hx hrow6 (by decide) hgg e.symm)
 refine ⟨h.lo, ?_, ?_, fun x hx => ?_⟩
 ·rw [he.2.2.2, set_in (set_in htop7 5 _) 3 _]
  rfl
 ·show V.ownsRow B 114 6 v7 (R.objs ++ [o]).length (roCells (R.objs ++ [o]))
  rw [List.length_append, roCells_append]
  exact own_congr hown fun g hgg => hV g (hv7 g hgg)
 ·rcases List.mem_append.1 hx with h1 | h1
  ·exact hsl x (own_congr (h.slots x h1) fun g hg => hf6.block g ((h.slots x h1).lt g hg).2 (by simp))
  ·have e : x = o := by simpa using h1
   rw [e]
   exact hsl o (own_base ho6 hB)
theorem RRep.ovNe {w : World} {B r : Nat} {R : RS} (h : RRep w B r R) : ∀ b, R.ov.ownBlock = some b → b ≠ r := fun b hb e => by
 subst e
 have h2 := h.top
 rcases h.row.2 with ⟨q1, _⟩ | ⟨g1, cap1, cur1, q1, q2, q3, _⟩
 ·rw [q1] at hb; simp [Value.ownBlock] at hb
 ·rw [q1] at hb
  have a1 : g1 = b := by simpa [Value.ownBlock] using hb
  subst a1
  rw [h2] at q3
  simp at q3
end Go.Proofs.YtklfnjlenbgmoaaDoor
namespace Go.Proofs.YtklfnjlenbgmoaaDoor
open Go.RowKit
attribute [local go_sem ↓] Go.wp_at_zero Go.wp_at_succ
def zs (l : List Nat) : List Int := l.map fun x : Nat => (x : Int)
theorem mem_zs' {l : List Nat} {q : Nat} : ((q : Int)) ∈ zs l ↔ q ∈ l := by
 unfold zs
 rw [List.mem_map]
 constructor
 ·rintro ⟨x, h1, h2⟩
  rw [show q = x from by omega]
  exact h1
 ·intro h
  exact ⟨q, h, rfl⟩
theorem infoRO : (Tryd.prog.info? 114).map (fun i => (i.zero, i.size, i.bytes)) = some (some (.agg #[.int .i64 0, .int .i64 0, .int .i64 0, .int .i64 0, .int .i64 0, .slice none 0 0]), 6, 64) := by kernel_rfl
def rKept (R : RS) (js : List Nat) (v : Value) : RS := { R with objs := (kst js R.objs).1, ov := v, turn := R.turn + 1 }
theorem RRep.kept {w V V' : World} {B r : Nat} {R : RS} {js : List Nat} {v : Value} (h : RRep w B r R) (hf : Fr [] w V) (hown : V.ownsRow w.heap.size 114 6 v (kst js R.objs).1.length (roCells (kst js R.objs).1)) (he : Eqw ((V.setCell ⟨r, 5, none⟩ v).setCell ⟨r, 4, none⟩ (I (R.turn + 1))) V') : RRep V' B r (rKept R js v) ∧ Fr [r] w V' := by
 have hr := lt_of_heap h.top
 have hlo := h.lo
 have hV : ∀ i, i ≠ r → V'.heap[i]? = V.heap[i]? := fun i hi => by rw [he.2.2.2, set_else hi, set_else hi]
 have htop : V.heap[r]? = some (.cells (rcells R) 111 (0, 0)) := (hf.block r hr (by simp)).trans h.top
 refine ⟨⟨h.lo, ?_, ?_, fun o ho => ?_⟩, ?_⟩
 ·rw [he.2.2.2, set_in (set_in htop 5 _) 4 _]
  rfl
 ·have h2 : V'.ownsRow w.heap.size 114 6 v (kst js R.objs).1.length (roCells (kst js R.objs).1) := own_congr hown fun g hg => hV g (fun e => by have := (hown.lt g hg).1; omega)
  exact own_base h2 (by omega)
 ·obtain ⟨x, x1, x2, x3, x4, x5, x6, x7, x8⟩ := kst_from js R.objs o ho
  rw [x5, x6]
  have hs := h.slots x x1
  refine own_congr hs fun g hg => ?_
  rw [hV g (fun e => ?_)]
  ·exact hf.block g (hs.lt g hg).2 (by simp)
  ·subst e
   have h2 := h.top
   rcases hs.2 with ⟨q1, _⟩ | ⟨g1, cap1, cur1, q1, q2, q3, _⟩
   ·rw [q1] at hg; simp [Value.ownBlock] at hg
   ·rw [q1] at hg
    have a1 : g1 = g := by simpa [Value.ownBlock] using hg
    subst a1
    rw [h2] at q3
    simp at q3
 ·have h1 : Fr [r] w (V.setCell ⟨r, 5, none⟩ v) := (hf.mono (by simp)).trans (Fr.setCell V ⟨r, 5, none⟩ v (S := [r]) (by simp)) (by simp)
  have h2 := h1.trans (Fr.setCell (V.setCell ⟨r, 5, none⟩ v) ⟨r, 4, none⟩ (I (R.turn + 1)) (S := [r]) (by simp)) (by simp)
  exact h2.trans (he.fr [r]) (by simp)
theorem kst_take_le (js : List Nat) (l : List RO) (k : Nat) : (kst js (l.take k)).1.length ≤ l.length := by
 have := kst_len js (l.take k)
 simp at this
 omega
theorem endK_nn : ∀ ks : List Key, 0 ≤ endK ks
 | [] => by simp [endK]
 | k :: t => by
  have h1 := endK_nn t
  simp only [endK]
  have : 0 ≤ lenOf (k.2.2.2.length : Int) k.2.2.1 := by unfold lenOf; split <;> omega
  omega
theorem kst_take_end (js : List Nat) (l : List RO) (k : Nat) : ((kst js (l.take k)).2 : Int) ≤ endK (l.map roKey) := by
 have h1 := kst_le js (l.take k)
 have h2 : l.map roKey = (l.take k).map roKey ++ (l.drop k).map roKey := by rw [← List.map_append, List.take_append_drop]
 rw [h2, endK_append]
 have := endK_nn ((l.drop k).map roKey)
 omega
set_option maxRecDepth 20000 in
set_option maxHeartbeats 4000000 in
theorem rKeep_ok (js : List Nat) (p : Option Addr) (c : Nat) (B r : Nat) (R : RS) (w : World) (h : RRep w B r R) (ho : ROk R) (hj : Rd w (.slice p js.length c) (zs js)) (hin : ∀ j ∈ js, ¬ RNo R (j : Int)) (ht : R.turn ≤ 1000000000) (he : endK (R.objs.map roKey) ≤ 1048576) (hre : (rEnd R.objs : Int) ≤ 1048576) (hjl : js.length ≤ 1048576) :
  Calls Tryd.prog 111 #[.pointer (some ⟨r, 0, none⟩), .slice p js.length c] w fun e w' => ∃ v, e = .returned (.tuple #[.int .i64 ((R.objs.length : Int) - (kst js R.objs).1.length), .int .i64 ((rEnd R.objs : Int) - (kst js R.objs).2), .int .i64 0]) ∧ RRep w' B r (rKept R js v) ∧ Fr [r] w w' ∧ ∀ g, v.ownBlock = some g → w.heap.size ≤ g := by
 obtain ⟨i114, ii114, iz114, is114, ib114⟩ := info_parts infoRO
 have hrl := lt_of_heap h.top
 obtain ⟨po, co, hov⟩ := h.ovIs
 have hl := ho.len
 have HR := mkHid h
 have HO := mkHid ho
 have HJ := mkHid hj
 have HIn := mkHid hin
 have HC : Hid (∀ V, Fr [] w V → V.cell? ⟨r, 5, none⟩ = some (.slice po R.objs.length co) ∧ V.cell? ⟨r, 4, none⟩ = some (.int .i64 (R.turn : Int)) ∧ V.frozen? ⟨r, 5, none⟩ = false ∧ V.frozen? ⟨r, 4, none⟩ = false) := fun V hV => by
  have h1 := HR.out.idle hV
  exact ⟨by rw [h1.c, ← hov]; rfl, by rw [h1.c]; rfl, frozen_in h1.top 5, frozen_in h1.top 4⟩
 clear h ho hj hin
 go_enter Tryd.func111, Tryd.ntmps111
 go_wp2_with fail
 have hzl : (zs js).length = js.length := by simp [zs]
 go_loopw [7] (fun q wr => ∃ k : Nat, k ≤ js.length ∧ q = .int .i64 k ∧ Hid (wr = w)) (fun q _ => js.length - (intOf q).toNat)
 case atStart => exact ⟨0, Nat.zero_le _, rfl, mkHid rfl⟩
 case round =>
  obtain ⟨k, hkn, rfl, hw0⟩ := hrel
  rw [hw0.out]
  clear hw0
  by_cases hlt : k < js.length
  ·obtain ⟨p', c', ep, hat⟩ := HJ.out.at_
   rw [hzl] at ep hat
   injection ep with ep1 _ ep2
   subst ep1 ep2
   obtain ⟨g, off, rfl, hg, hc⟩ := hat (by omega)
   have x1 := hc k hlt
   have e1 : (zs js).getD k 0 = ((js.getD k 0 : Nat) : Int) := by
    unfold zs
    rw [List.getD_eq_getElem?_getD, List.getD_eq_getElem?_getD, List.getElem?_map, List.getElem?_eq_getElem hlt]; rfl
   rw [e1] at x1
   have hm : js.getD k 0 ∈ js := by rw [List.getD_eq_getElem?_getD, List.getElem?_eq_getElem hlt]; exact List.getElem_mem hlt
   have HN := mkHid (HIn.out _ hm)
   have HF := mkHid (find_any ((js.getD k 0 : Nat) : Int) B r R w HR.out (by omega))
   generalize js.getD k 0 = z at *
   have k1 : (0 : Int) ≤ (k : Int) := by omega
   have k2 : (k : Int) < (js.length : Int) := by omega
   clear hat hc e1 hm
   go_wp2_with fail
   refine Calls.mono HF.out ?_
   rintro e w2 ⟨zz, rfl, hz, hw⟩
   rw [hw]
   clear hw w2 HF
   rcases hz with ⟨j, hj, rfl, hjo, -⟩ | ⟨rfl, hno⟩
   ·have j1 : (0 : Int) ≤ (j : Int) := by omega
    clear hjo
    go_wp2_with fail
    go_roundw
    case rel => exact ⟨k + 1, by omega, by go_num, by first | exact mkHid rfl | exact mkHid trivial⟩
    case measure => simp [intOf]; omega
   ·exact absurd hno HN.out
  ·have hke : k = js.length := by omega
   subst hke
   obtain ⟨c5, c4, z5, z4⟩ := HC.out w (Fr.refl _ _)
   have HE := mkHid (rend_any B r R w HR.out HO.out)
   obtain ⟨E, hEE⟩ : ∃ E, E = rEnd R.objs := ⟨_, rfl⟩
   have HEE := mkHid hEE
   rw [← hEE] at HE hre
   clear hEE
   go_wp2_with fail
   refine Calls.mono HE.out ?_
   rintro e w3 ⟨rfl, hf3⟩
   have HF3 := mkHid hf3
   clear hf3 c5 c4 z5 z4 HE
   go_wp2_with fail
   have hkl0 := kst_take_le js R.objs
   have hke0 := kst_take_end js R.objs
   have HKL := mkHid hkl0
   have HKE := mkHid hke0
   clear hkl0 hke0
   go_loopw [10, 11, 12] (fun av v q wr => ∃ k : Nat, k ≤ R.objs.length ∧ q = .int .i64 k ∧ av = .int .i64 ((kst js (R.objs.take k)).2 : Nat) ∧ wr.ownsRow w.heap.size 114 6 v (kst js (R.objs.take k)).1.length (roCells (kst js (R.objs.take k)).1) ∧ Hid (Fr [] w wr)) (fun _ _ q _ => R.objs.length - (intOf q).toNat)
   case atStart => exact ⟨0, Nat.zero_le _, rfl, rfl, World.ownsRow_nil _ _ _ _, HF3⟩
   case round =>
    obtain ⟨k, hkn, rfl, rfl, hown, hfr⟩ := hrel
    obtain ⟨c5, c4, z5, z4⟩ := HC.out _ hfr.out
    have k1 : (0 : Int) ≤ (k : Int) := by omega
    by_cases hlt : k < R.objs.length
    ·have k2 : (k : Int) < (R.objs.length : Int) := by omega
     have hRr := HR.out.idle hfr.out
     obtain ⟨g, c', hv1, hc⟩ := hRr.at_ (by omega)
     rw [hov] at hv1
     injection hv1 with e1 e2 e3
     subst e1
     subst e3
     clear e2
     obtain ⟨q0, q1, q2, q3, q4, q5⟩ := hc k hlt
     obtain ⟨p5, c5', hv5⟩ := hRr.vIs k hlt
     rw [hv5] at q5
     obtain ⟨o1, o2⟩ := HO.out.getD k hlt
     have hsn := kst_snoc js (R.objs.take k) (R.objs.getD k noRO)
     rw [← take_get R.objs noRO k hlt] at hsn
     have hle := HKL.out k
     have hen := HKE.out k
     simp only [I] at q0 q1 q2 q3
     generalize hoo : R.objs.getD k noRO = o at *
     clear hoo
     obtain ⟨oo, of_, opl, obn, oc, os, oov⟩ := o
     dsimp only at *
     subst hv5
     have HSn := mkHid hsn
     have HIn2 : Hid (∀ V, Fr [] w V → Calls Tryd.prog 116 #[.slice p js.length c, .int .i64 (oo : Int)] V fun e w' => e = .returned (.bool (decide (oo ∈ js))) ∧ w' = V) := fun V hV => by
      have := rIn2_ok (zs js) (oo : Int) (.slice p js.length c) V (HJ.out.idle hV)
      rw [show decide ((oo : Int) ∈ zs js) = decide (oo ∈ js) by rw [Bool.eq_iff_iff, decide_eq_true_eq, decide_eq_true_eq, mem_zs']] at this
      exact this
     generalize hKS : kst js (R.objs.take k) = KS at *
     clear hKS
     obtain ⟨kl, ke⟩ := KS
     dsimp only at *
     have hV5s : Hid (Fr [] _ (World.alloc _ (.cells #[.int .i64 (oo : Int), .int .i64 (of_ : Int), .int .i64 (opl : Int), .int .i64 (obn : Int), .int .i64 oc, .slice p5 os.length c5'] 114))) := Fr.alloc [] wr _
     have hbX5 : (wr.alloc (.cells #[.int .i64 (oo : Int), .int .i64 (of_ : Int), .int .i64 (opl : Int), .int .i64 (obn : Int), .int .i64 oc, .slice p5 os.length c5'] 114)).heap[wr.heap.size]? = some (.cells #[.int .i64 (oo : Int), .int .i64 (of_ : Int), .int .i64 (opl : Int), .int .i64 (obn : Int), .int .i64 oc, .slice p5 os.length c5'] 114 (0, 0)) := heap_alloc_new _ _
     clear hc hRr hsn
     go_wp2_with fail
     generalize wr.alloc (.cells #[.int .i64 (oo : Int), .int .i64 (of_ : Int), .int .i64 (opl : Int), .int .i64 (obn : Int), .int .i64 oc, .slice p5 os.length c5'] 114) = V5 at *
     generalize hX : wr.heap.size = X at *
     refine Calls.mono (HIn2.out V5 (hfr.out.trans hV5s.out (by simp))) ?_
     rintro e w' ⟨rfl, hw'⟩
     rw [hw']
     clear hw' w' q0 q1 q2 q3 q4 q5 c5 c4 z5 z4
     have hXl : X ≤ wr.heap.size := by omega
     have hXg : wr.heap.size ≤ X := by omega
     clear hX
     by_cases hy : oo ∈ js
     ·have HSn2 := HSn.out
      rw [if_pos hy] at HSn2
      rw [decide_eq_true hy]
      have HS3 := mkHid HSn2
      have z6 : V5.frozen? ⟨X, 2, none⟩ = false := frozen_in hbX5 2
      have HB6 : Hid ((V5.setCell ⟨X, 2, none⟩ (.int .i64 (ke : Int))).heap[X]? = some (.cells #[.int .i64 (oo : Int), .int .i64 (of_ : Int), .int .i64 (ke : Int), .int .i64 (obn : Int), .int .i64 oc, .slice p5 os.length c5'] 114 (0, 0))) := set_in hbX5 2 _
      have HF6 : Hid (Fr [] wr (V5.setCell ⟨X, 2, none⟩ (.int .i64 (ke : Int)))) := hV5s.out.trans (Fr.setCell V5 ⟨X, 2, none⟩ _ (S := [X]) (by simp)) (by simp; omega)
      have y2 : V5.cell? ⟨X, 2, none⟩ = some (.int .i64 (opl : Int)) := by rw [cell_in hbX5]; rfl
      clear HSn2 HSn hy HIn2
      go_upto_region 18 with (fail)
      generalize V5.setCell ⟨X, 2, none⟩ (.int .i64 (ke : Int)) = V6 at *
      have x0 : V6.cell? ⟨X, 0, none⟩ = some (.int .i64 (oo : Int)) := by rw [cell_in HB6.out]; rfl
      have x1 : V6.cell? ⟨X, 1, none⟩ = some (.int .i64 (of_ : Int)) := by rw [cell_in HB6.out]; rfl
      have x2 : V6.cell? ⟨X, 2, none⟩ = some (.int .i64 (ke : Int)) := by rw [cell_in HB6.out]; rfl
      have x3 : V6.cell? ⟨X, 3, none⟩ = some (.int .i64 (obn : Int)) := by rw [cell_in HB6.out]; rfl
      have x4 : V6.cell? ⟨X, 4, none⟩ = some (.int .i64 oc) := by rw [cell_in HB6.out]; rfl
      have x5 : V6.cell? ⟨X, 5, none⟩ = some (.slice p5 os.length c5') := by rw [cell_in HB6.out]; rfl
      have hown6 : V6.ownsRow w.heap.size 114 6 _ kl.length (roCells kl) := own_congr hown fun g hg => HF6.out.block g (hown.lt g hg).2 (by simp)
      have hll := lenN_le os.length of_
      have HL := mkHid fun V => refLen_any os.length of_ V (by omega)
      clear y2 z6 hV5s hbX5 hown
      have hX2 : X ≤ V6.heap.size := by have := HF6.out.size; omega
      have hwX : w.heap.size ≤ X := by have := hfr.out.size; omega
      have hown2 := hown6.alloc (.cells #[.int .i64 (oo : Int), .int .i64 (of_ : Int), .int .i64 (ke : Int), .int .i64 (obn : Int), .int .i64 oc, .slice p5 os.length c5'] 114)
      have HF7 : Hid (Fr [] w (V6.alloc (.cells #[.int .i64 (oo : Int), .int .i64 (of_ : Int), .int .i64 (ke : Int), .int .i64 (obn : Int), .int .i64 oc, .slice p5 os.length c5'] 114))) := (hfr.out.trans HF6.out (by simp)).trans (Fr.alloc [] _ _) (by simp)
      clear hown6
      go_wp2_with (first
       | (at_builtin; refine wpList_append_own _ rfl (.tmp 66) (.tmp 68) 109 rfl w.heap.size 114 i114 (.agg #[.int .i64 0, .int .i64 0, .int .i64 0, .int .i64 0, .int .i64 0, .slice none 0 0]) 6 64 Tryd.underlying109 ii114 iz114 is114 ib114 rfl (by decide) _ _ _ rfl hown2 ⟨V6.heap.size, 0, none⟩ 1 1 [.int .i64 (oo : Int), .int .i64 (of_ : Int), .int .i64 (ke : Int), .int .i64 (obn : Int), .int .i64 oc, .slice p5 os.length c5'] rfl rfl ?d1 ?d2 ?d3 ?d4 ?d5 ?_)
       | (go_at_call 59; refine Calls.mono (HL.out _) ?_; rintro e w' ⟨rfl, hw'⟩; rw [hw']; clear hw' w')
       | go_in)
      case d1 =>
       have := World.news_of_block (heap_alloc_new V6 (.cells #[.int .i64 (oo : Int), .int .i64 (of_ : Int), .int .i64 (ke : Int), .int .i64 (obn : Int), .int .i64 oc, .slice p5 os.length c5'] 114))
       simpa using this
      case d2 => first | rfl | (intro u hu; simp at hu; rcases hu with rfl | rfl | rfl | rfl | rfl | rfl <;> rfl)
      case d3 => unfold maxLen; omega
      case d4 => omega
      case d5 => first | omega | (simp; omega)
      intro v' w1 hown' hgrow _
      have hrow : w1.ownsRow w.heap.size 114 6 v' (kst js (R.objs.take (k + 1))).1.length (roCells (kst js (R.objs.take (k + 1))).1) := by
       rw [HS3.out, List.length_append, roCells_append]
       exact hown'
      have hz2 : (kst js (R.objs.take (k + 1))).2 = ke + lenN os.length of_ := by rw [HS3.out]
      have HG : Hid (Fr [] w w1) := by
       refine ⟨hgrow.os.trans HF7.out.os, hgrow.tape.trans HF7.out.tape, hgrow.output.trans HF7.out.output, Nat.le_trans HF7.out.size hgrow.size, fun i hi hn => ?_⟩
       rw [hgrow.block i (Nat.lt_of_lt_of_le hi HF7.out.size) (fun e => ?_)]
       ·exact HF7.out.block i hi hn
       ·have := (hown2.lt i e.symm).1
        omega
      have HO3 := mkHid hrow
      have HZ2 := mkHid hz2
      clear hrow hz2 hown' hgrow hown2 HF7
      go_wp2
      go_roundw
      case rel => exact ⟨k + 1, by omega, by go_num, by rw [HZ2.out]; push_cast; first | rfl | (congr 1), HO3.out, HG⟩
      case measure => simp [intOf]; omega
     ·have HSn2 := HSn.out
      rw [if_neg hy] at HSn2
      rw [decide_eq_false hy]
      have HS3 := mkHid HSn2
      have HO3 := mkHid (own_congr hown fun g hg => hV5s.out.block g (hown.lt g hg).2 (by simp))
      have HG : Hid (Fr [] w V5) := hfr.out.trans hV5s.out (by simp)
      clear HSn2 HSn hy HIn2 hown hV5s hbX5
      go_wp2_with fail
      go_roundw
      case rel => exact ⟨k + 1, by omega, by go_num, by rw [HS3.out], by rw [HS3.out]; exact HO3.out, HG⟩
      case measure => simp [intOf]; omega
    ·have hke : k = R.objs.length := by omega
     subst hke
     rw [List.take_length] at hown ⊢
     have hle := kst_len js R.objs
     have hen := kst_le js R.objs
     obtain ⟨pv, cv, rfl⟩ := row_is hown
     have HK : Hid (∀ V', Eqw ((wr.setCell ⟨r, 5, none⟩ (.slice pv (kst js R.objs).1.length cv)).setCell ⟨r, 4, none⟩ (I (R.turn + 1))) V' → RRep V' B r (rKept R js (.slice pv (kst js R.objs).1.length cv)) ∧ Fr [r] w V') := fun V' hV => HR.out.kept hfr.out hown hV
     have s5 : (wr.setCell ⟨r, 5, none⟩ (.slice pv (kst js R.objs).1.length cv)).cell? ⟨r, 4, none⟩ = some (.int .i64 (R.turn : Int)) := by
      rw [cell_in (set_in (HR.out.idle hfr.out).top 5 _)]; rfl
     have s6 : (wr.setCell ⟨r, 5, none⟩ (.slice pv (kst js R.objs).1.length cv)).frozen? ⟨r, 4, none⟩ = false := frozen_in (set_in (HR.out.idle hfr.out).top 5 _) 4
     have HFs : Hid (∀ n g, (Value.slice pv n cv).ownBlock = some g → w.heap.size ≤ g) := fun n g hg => (hown.lt g (by cases pv with | none => simp [Value.ownBlock] at hg | some a => exact hg)).1
     obtain ⟨KS, hKS⟩ : ∃ KS, KS = kst js R.objs := ⟨_, rfl⟩
     have HKS := mkHid hKS
     rw [← hKS] at hle hen HK s5 s6 ⊢
     clear hKS hown
     obtain ⟨kl, ke⟩ := KS
     dsimp only at *
     go_upto_region 21 with (fail)
     generalize hV7 : wr.setCell ⟨r, 5, none⟩ (.slice pv kl.length cv) = V7 at *
     clear hV7 c5 c4 z5 z4
     go_wp2_with fail
     refine bodyPost_ret (results_tmp3 rfl _ _ _) rfl ?_
     obtain ⟨h1, h2⟩ := HK.out _ ⟨rfl, rfl, rfl, rfl⟩
     refine ⟨_, ?_, h1, h2, HFs.out _⟩
     rw [← HKS.out, ← HEE.out]
     rfl
end Go.Proofs.YtklfnjlenbgmoaaDoor
