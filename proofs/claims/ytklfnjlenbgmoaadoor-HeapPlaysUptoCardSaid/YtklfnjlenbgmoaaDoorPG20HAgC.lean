import Derived.Test.YtklfnjlenbgmoaaDoorPG19HDoc3
import Derived.Test.YtklfnjlenbgmoaaDoorPG14HObj
import Derived.Test.YtklfnjlenbgmoaaDoorPG13HAg1
import Derived.Test.YtklfnjlenbgmoaaDoorPG17HRefP
import Derived.Test.YtklfnjlenbgmoaaDoorPG18RKeepP
import Derived.Test.YtklfnjlenbgmoaaDoorPG15HLoadW
import Derived.Test.YtklfnjlenbgmoaaDoorPG10HInvA
set_option linter.unusedVariables false
namespace Go.Proofs.YtklfnjlenbgmoaaDoor
open Go.RowKit
theorem Inv.backsN {H : HS} {M : MS} (h : Inv H M) (n : Nat) (young : ∀ j, n ≤ j → j < H.order.length → H.order.getD j 0 ≠ 0) : ∀ j, n + j ≤ H.order.length → ∃ X : List Th, InvV (backTo H n j) { M with things := X } ∧ X.length = M.things.length ∧
  (∀ k, X.getD k noTh = if (M.things.getD k noTh).there = true ∧ n ≤ (H.seats.getD (k + 1) (0, 0, 0)).2.2 ∧ (H.seats.getD (k + 1) (0, 0, 0)).2.2 < n + j then gone (M.things.getD k noTh) else M.things.getD k noTh) ∧
  (backTo H n j).order.length = H.order.length ∧ (∀ r, r < n ∨ n + j ≤ r → (backTo H n j).order.getD r 0 = H.order.getD r 0) ∧
  (∀ r, n ≤ r → r < n + j → (backTo H n j).order.getD r 0 = 0) ∧
  (backTo H n j).words = H.words ∧ (backTo H n j).oops = H.oops ∧ (backTo H n j).mark = H.mark := by
 intro j
 induction j with
 | zero => intro _; exact ⟨M.things, h.toInvV, rfl, fun k => by rw [if_neg (by omega)], rfl, fun _ _ => rfl, fun r h1 h2 => by omega, rfl, rfl, rfl⟩
 | succ j ih =>
  intro hj
  obtain ⟨X, h1, h2, h3, h4, h5, h6, h7, h8, h9⟩ := ih (by omega)
  have hne := young (n + j) (by omega) (by omega)
  have ho := h5 (n + j) (.inr (Nat.le_refl _))
  obtain ⟨u1, u2, u3⟩ := h.order (n + j) (by omega) hne
  obtain ⟨o1, o2, o3⟩ := h1.order (n + j) (by omega) (by rw [ho]; exact hne)
  rw [ho] at o1 o2 o3
  obtain ⟨i0, hi0⟩ : ∃ i0, H.order.getD (n + j) 0 = i0 + 1 := ⟨H.order.getD (n + j) 0 - 1, by omega⟩
  rw [hi0] at u1 u2 u3 o1 o2 o3
  rw [Nat.add_sub_cancel] at u2 o2
  have hlt : i0 < X.length := o1
  have hvac := h1.vac i0 hlt o2
  have hg := fun i => getD_set X i0 i (gone (X.getD i0 noTh)) hlt
  have e : backTo H n (j + 1) = vacH (backTo H n j) (i0 + 1) := by
   show vacH (backTo H n j) (H.order.getD (n + j) 0) = _
   rw [hi0]
  rw [e]
  have hord : ∀ r, (vacH (backTo H n j) (i0 + 1)).order.getD r 0 = if r = n + j then 0 else (backTo H n j).order.getD r 0 := fun r => by
   show ((backTo H n j).order.set ((backTo H n j).seats.getD (i0 + 1) (0, 0, 0)).2.2 0).getD r 0 = _
   rw [o3, getD_nat _ _ _ _ (by omega)]
  refine ⟨X.set i0 (gone (X.getD i0 noTh)), hvac, by rw [List.length_set]; exact h2, fun k => ?_, ?_, fun r hr => ?_, fun r r1 r2 => ?_, h7, h8, h9⟩
  ·have hXi : X.getD i0 noTh = M.things.getD i0 noTh := by rw [h3 i0, if_neg (fun hh => by omega)]
   have hat : ∀ k, (M.things.getD k noTh).there = true → (H.seats.getD (k + 1) (0, 0, 0)).2.2 = n + j → k = i0 := fun k hb e => by
    have := (h.turn k (th_in hb) hb).2
    rw [e, hi0] at this
    omega
   rw [hg]
   by_cases e2 : k = i0
   ·rw [if_pos e2, hXi, e2, if_pos ⟨u2, by omega, by omega⟩]
   ·rw [if_neg e2, h3 k]
    have hiff : ((M.things.getD k noTh).there = true ∧ n ≤ (H.seats.getD (k + 1) (0, 0, 0)).2.2 ∧ (H.seats.getD (k + 1) (0, 0, 0)).2.2 < n + j) ↔ ((M.things.getD k noTh).there = true ∧ n ≤ (H.seats.getD (k + 1) (0, 0, 0)).2.2 ∧ (H.seats.getD (k + 1) (0, 0, 0)).2.2 < n + (j + 1)) := by
     refine ⟨fun q => ⟨q.1, q.2.1, by omega⟩, fun q => ⟨q.1, q.2.1, ?_⟩⟩
     by_cases e3 : (H.seats.getD (k + 1) (0, 0, 0)).2.2 = n + j
     ·exact absurd (hat k q.1 e3) e2
     ·have := q.2.2; omega
    simp only [hiff]
  ·show ((backTo H n j).order.set _ 0).length = _; rw [List.length_set]; exact h4
  ·rw [hord, if_neg (by omega)]; exact h5 r (by omega)
  ·rw [hord]
   by_cases e3 : r = n + j
   ·rw [if_pos e3]
   ·rw [if_neg e3]; exact h6 r r1 (by omega)
theorem Inv.backOkN {H : HS} {M : MS} (h : Inv H M) (n : Nat) (hn : n ≤ H.order.length) (young : ∀ j, n ≤ j → j < H.order.length → H.order.getD j 0 ≠ 0) (hage : (H.age : Int) ≤ 1000000000) : BackOk H n where
 t := hn
 vac := fun j hj => by
  obtain ⟨X, h1, h2, h3, h4, h5, h6, h7, h8, h9⟩ := h.backsN n young j (by omega)
  have hne := young (n + j) (by omega) hj
  have ho := h5 (n + j) (.inr (Nat.le_refl _))
  obtain ⟨o1, o2, o3⟩ := h1.order (n + j) (by omega) (by rw [ho]; exact hne)
  rw [ho] at o1 o2 o3
  obtain ⟨i0, hi0⟩ : ∃ i0, H.order.getD (n + j) 0 = i0 + 1 := ⟨H.order.getD (n + j) 0 - 1, by omega⟩
  rw [hi0] at o1 o2 ho ⊢
  rw [Nat.add_sub_cancel] at o2
  exact ⟨h1.vacOk i0 o1 o2, ho, h4⟩
 r1 := by have := h.safe.order; omega
 a1 := hage
def cutO (H : HS) (n : Nat) : Nat := ((H.order.take n).filter (fun o => o != 0)).length
theorem cut_take (H : HS) (n : Nat) : (liveO H).take (cutO H n) = (H.order.take n).filter (fun o => o != 0) := by
 unfold liveO cutO
 have e : H.order.filter (fun o => o != 0) = (H.order.take n).filter (fun o => o != 0) ++ (H.order.drop n).filter (fun o => o != 0) := by rw [← List.filter_append, List.take_append_drop]
 rw [e, List.take_left']
 rfl
theorem InvV.cut_mem {H : HS} {M : MS} (h : InvV H M) (n i : Nat) : i + 1 ∈ (liveO H).take (cutO H n) ↔ (M.things.getD i noTh).there = true ∧ (H.seats.getD (i + 1) (0, 0, 0)).2.2 < n := by
 rw [cut_take, List.mem_filter]
 constructor
 ·rintro ⟨h1, h2⟩
  obtain ⟨j, hj, e⟩ := List.mem_iff_getElem.1 h1
  rw [List.length_take] at hj
  rw [List.getElem_take] at e
  have e2 : H.order.getD j 0 = i + 1 := by rw [List.getD_eq_getElem?_getD, List.getElem?_eq_getElem (by omega)]; exact e
  have := h.order j (by omega) (by rw [e2]; omega)
  rw [e2, Nat.add_sub_cancel] at this
  exact ⟨this.2.1, by omega⟩
 ·rintro ⟨h1, h2⟩
  obtain ⟨t1, t2⟩ := h.turn i (th_in h1) h1
  refine ⟨?_, by simp⟩
  rw [List.getD_eq_getElem?_getD, List.getElem?_eq_getElem t1] at t2
  have t3 : H.order[(H.seats.getD (i + 1) (0, 0, 0)).2.2] = i + 1 := t2
  rw [← t3]
  refine List.mem_iff_getElem.2 ⟨(H.seats.getD (i + 1) (0, 0, 0)).2.2, by rw [List.length_take]; omega, ?_⟩
  rw [List.getElem_take]
theorem Inv.backN {H : HS} {M : MS} (h : Inv H M) (n : Nat) (hn : n ≤ H.order.length) (young : ∀ j, n ≤ j → j < H.order.length → H.order.getD j 0 ≠ 0) : ∃ t e0 X, DrawOk (backTo H n (H.order.length - n)) t e0 ∧ Inv { drawH (backTo H n (H.order.length - n)) t e0 with age := H.age + 1 } { M with things := X } ∧ (∀ i, i + 1 ∈ (liveO H).take (cutO H n) → X.getD i noTh = M.things.getD i noTh) ∧ (∀ i, (X.getD i noTh).there = true → i + 1 ∈ (liveO H).take (cutO H n)) := by
 obtain ⟨X, h1, h2, h3, h4, h5, h6, h7, h8, h9⟩ := h.backsN n young (H.order.length - n) (by omega)
 obtain ⟨t, e0, hd, hinv⟩ := h1.draw
 refine ⟨t, e0, X, hd, hinv.aged _, fun i hi => ?_, fun i hi => ?_⟩
 ·obtain ⟨m1, m2⟩ := (h.toInvV.cut_mem n i).1 hi
  rw [h3 i, if_neg (by omega)]
 ·rw [h.toInvV.cut_mem n i]
  rw [h3 i] at hi
  split at hi
  ·simp [gone] at hi
  ·rename_i hc
   refine ⟨hi, ?_⟩
   have hu := (h.turn i (th_in hi) hi).1
   by_cases e : n ≤ (H.seats.getD (i + 1) (0, 0, 0)).2.2
   ·exact absurd ⟨hi, e, by omega⟩ hc
   ·omega
theorem Doc.backN {H : HS} {M : MS} {R : RS} (h : Inv H M) (hd : Doc M R) (n : Nat) (X : List Th) (hX1 : ∀ i, i + 1 ∈ (liveO H).take (cutO H n) → X.getD i noTh = M.things.getD i noTh) (hX2 : ∀ i, (X.getD i noTh).there = true → i + 1 ∈ (liveO H).take (cutO H n)) (ov : Value) (tn : Nat) : Doc { M with things := X } { R with objs := R.objs.take (cutO H n), ov := ov, turn := tn } :=
 hd.taken h.toInvV.srt (cutO H n) X hX1 hX2 ov tn
def Old (b : Bool) (H H' : HS) : Prop := (b = false ∧ H'.age = H.age ∧ ∃ t, H'.order = H.order ++ t ∧ ∀ x ∈ t, x ≠ 0) ∨ (b = true ∧ H'.age = H.age + 1)
theorem Old.refl (H : HS) : Old false H H := .inl ⟨rfl, rfl, [], by simp, by simp⟩
theorem Old.same {H H' : HS} (h1 : H'.age = H.age) (h2 : H'.order = H.order) : Old false H H' := .inl ⟨rfl, h1, [], by rw [h2]; simp, by simp⟩
def PN (b : Bool) (a : Nat) (l : Lay) (H : HS) (M' : MS) (w w' : World) : Prop := ∃ l' H', Rep w' a l' H' ∧ Inv H' M' ∧ Nx a l l' w w' ∧ Old b H H'
theorem PN.same {a : Nat} {l : Lay} {H : HS} {M : MS} {w w' : World} (h : Rep w a l H) (hi : Inv H M) (hf : Fr [] w w') : PN false a l H M w w' := ⟨l, H, h.keep hf (by simp), hi, Nx.frw (hf.mono (by simp)), Old.refl H⟩
def allocA (M : MS) (X A B : Int) : Int × Int :=
 if isW X = false ∨ A < 0 ∨ B < 0 ∨ 1 < B then (0, 1)
 else if 8192 < A then (0, 22)
 else if M.oops = thereTo M.things M.things.length ∨ M.words < endTo M.things M.things.length + lenN A.toNat B.toNat then (0, 23)
 else if M.mark = 1 then (0, 24)
 else ((lowTo M.things : Int), 0)
theorem pAlloc (X A B : Int) (a : Nat) (l : Lay) (H : HS) (M : MS) (w : World) (h : Rep w a l H) (hi : Inv H M) (hT : Tab w) (hT2 : Tab64 w) (ha : 2 ≤ a) :
  Calls Tryd.prog 14 #[.pointer (some ⟨a, 0, none⟩), .int .i64 X, .int .i64 A, .int .i64 B] w fun e w' => e = .returned (.tuple #[.int .i64 (allocA M X A B).1, .int .i64 (allocA M X A B).2]) ∧ PN false a l H (allocN M X A B) w w' := by
 have hsm := hi.safe.small
 have hfin := hi.fin
 have hcnt := hi.count
 have hww := hi.words
 have hoo := hi.oops
 unfold allocA
 by_cases hbad : isW X = false ∨ A < 0 ∨ B < 0 ∨ 1 < B
 ·rw [if_pos hbad, allocN_bad hbad]
  refine Calls.mono (Alloc_arg X A B a l H w h hT (by
   rcases hbad with h | h | h | h
   ·exact .inl h
   ·exact .inr (.inr h)
   ·right; left; unfold isF; simp; omega
   ·right; left; unfold isF; simp; omega)) ?_
  rintro e w' ⟨rfl, rfl⟩
  exact ⟨rfl, PN.same h hi (Fr.refl _ _)⟩
 ·rw [if_neg hbad]
  have hW : isW X = true := by
   cases hx : isW X with
   | true => rfl
   | false => exact absurd (.inl hx) hbad
  obtain ⟨n, rfl⟩ : ∃ n : Nat, A = (n : Int) := ⟨A.toNat, by omega⟩
  obtain ⟨f, rfl⟩ : ∃ f : Nat, B = (f : Int) := ⟨B.toNat, by omega⟩
  by_cases hbig : 8192 < (n : Int)
  ·rw [if_pos hbig, allocN_big hbad hbig]
   refine Calls.mono (Alloc_size X n f a l H w h hT hW (by unfold isF; simp; omega) hbig) ?_
   rintro e w' ⟨rfl, rfl⟩
   exact ⟨rfl, PN.same h hi (Fr.refl _ _)⟩
  ·rw [if_neg hbig]
   by_cases hfull : M.oops = thereTo M.things M.things.length ∨ M.words < endTo M.things M.things.length + lenN (n : Int).toNat (f : Int).toNat
   ·rw [if_pos hfull, allocN_full hbad hbig hfull]
    rw [Int.toNat_natCast, Int.toNat_natCast] at hfull
    refine Calls.mono (Alloc_full X n f a l H w h hsm hT hW (by omega) (by omega) (by omega)) ?_
    rintro e w' ⟨rfl, k, rfl⟩
    exact ⟨rfl, PN.same h hi (Fr.drewN _ _ _)⟩
   ·rw [if_neg hfull]
    have hfull2 := hfull
    rw [Int.toNat_natCast, Int.toNat_natCast] at hfull2
    have hr1 : H.count < H.oops := by have := hsm.count; omega
    have hr2 : H.mem.length + lenN n f ≤ H.words := by omega
    have hmk := hi.mark
    by_cases hm : M.mark = 1
    ·rw [if_pos hm, allocN_mark hbad hbig hfull hm]
     refine Calls.mono (Alloc_marked X n f a l H w h hsm hT hW (by omega) (by omega) hr1 hr2 (by omega)) ?_
     rintro e w' ⟨rfl, hr, hx⟩
     exact ⟨rfl, l, _, hr, hi.setMark 0 (by omega), hx, Old.same rfl rfl⟩
    ·rw [if_neg hm, allocN_made hbad hbig hfull hm]
     refine Calls.mono (Alloc_ok X n f a l H w h hi.safe hT hT2 ha hW (by omega) (by omega) hr1 hr2 (by omega)) ?_
     rintro e w' ⟨k, hk1, hk2, rfl, l', hr', hx'⟩
     have hlow := hi.lowest k hk1 hk2
     rw [hlow] at hr' ⊢
     have hp : 1 ≤ lowTo M.things := by unfold lowTo; omega
     exact ⟨rfl, l', _, hr', hi.lay k hk1 X n f none M.pt 0 M.ct (by omega) (by omega) hr1 hr2, hx', .inl ⟨rfl, rfl, [lowTo M.things], rfl, by simp; omega⟩⟩
theorem pMark (A : Int) (a : Nat) (l : Lay) (H : HS) (M : MS) (w : World) (h : Rep w a l H) (hi : Inv H M) :
  Calls Tryd.prog 12 #[.pointer (some ⟨a, 0, none⟩), .int .i64 A] w fun e w' => e = .returned (.int .i64 (if isM A = true then 0 else 1)) ∧ PN false a l H (markN M A) w w' := by
 unfold markN
 cases hA : isM A with
 | false =>
  rw [if_neg (by simp), if_neg (by simp)]
  refine Calls.mono (Mark_no A a l H w h hA) ?_
  rintro e w' ⟨rfl, rfl⟩
  exact ⟨rfl, PN.same h hi (Fr.refl _ _)⟩
 | true =>
  rw [if_pos rfl, if_pos rfl]
  have := of_decide_eq_true hA
  obtain ⟨n, rfl⟩ : ∃ n : Nat, A = (n : Int) := ⟨A.toNat, by omega⟩
  refine Calls.mono (Mark_in n a l H w h (by omega)) ?_
  rintro e w' ⟨rfl, hr, hf, -⟩
  exact ⟨rfl, l, _, hr, hi.setMark n (by omega), Nx.fr hf, Old.same rfl rfl⟩
theorem pFree (A : Int) (a : Nat) (l : Lay) (H : HS) (M : MS) (w : World) (h : Rep w a l H) (hi : Inv H M) (hage : (H.age : Int) ≤ 1000000000) :
  Calls Tryd.prog 64 #[.pointer (some ⟨a, 0, none⟩), .int .i64 A] w fun e w' => e = .returned (.int .i64 (if mhas M A = true then 0 else 20)) ∧ PN (mhas M A) a l H (freeN M A) w w' := by
 unfold freeN
 cases hA : mhas M A with
 | false =>
  rw [if_neg (by simp), if_neg (by simp)]
  refine Calls.mono (Free_no A a l H w h (by rw [hi.hasM]; exact hA)) ?_
  rintro e w' ⟨rfl, hf⟩
  exact ⟨rfl, PN.same h hi hf⟩
 | true =>
  rw [if_pos rfl, if_pos rfl]
  obtain ⟨k, rfl, hk, hb⟩ := mhas_yes hA
  rw [sub1]
  have hv := hi.toInvV.vac k hk hb
  obtain ⟨t, e0, hd, hinv⟩ := hv.draw
  have hf := Free_ok (k + 1) t e0 a l H w h (by rw [show ((k + 1 : Nat) : Int) = (k : Int) + 1 from by omega, hi.hasM]; exact hA) (hi.toInvV.vacOk k hk hb) hd hage
  rw [show ((k + 1 : Nat) : Int) = (k : Int) + 1 from by omega] at hf
  refine Calls.mono hf ?_
  rintro e w' ⟨rfl, hr, hx⟩
  exact ⟨rfl, l, _, hr, hinv.aged (H.age + 1), hx, .inr ⟨rfl, rfl⟩⟩
theorem pSetClass (A X : Int) (a : Nat) (l : Lay) (H : HS) (M : MS) (w : World) (h : Rep w a l H) (hi : Inv H M) (hT : Tab w) :
  Calls Tryd.prog 30 #[.pointer (some ⟨a, 0, none⟩), .int .i64 A, .int .i64 X] w fun e w' => e = .returned (.int .i64 (if mhas M A = true then (if isW X = true then 0 else 10) else 20)) ∧ PN false a l H (clsN M A X) w w' := by
 unfold clsN
 cases hA : mhas M A with
 | false =>
  rw [if_neg (by simp), if_neg (by simp)]
  refine Calls.mono (SetClass_no A X a l H w h (by rw [hi.hasM]; exact hA)) ?_
  rintro e w' ⟨rfl, hf⟩
  exact ⟨rfl, PN.same h hi hf⟩
 | true =>
  rw [if_pos rfl]
  obtain ⟨k, rfl, hk, hb⟩ := mhas_yes hA
  have hI := hi.is k hk hb
  have h22 := lenN_two (M.things.getD k noTh).slots.length (M.things.getD k noTh).fmt
  have hroom := hI.room
  have hmem : (H.mem.length : Int) ≤ 1048576 := by have := hi.safe.small.mem; have := hi.safe.small.words; omega
  cases hX : isW X with
  | false =>
   rw [if_neg (by simp), if_neg (by simp)]
   have hf := SetClass_word (k + 1) X a l H w h hI.has hX hT
   rw [show ((k + 1 : Nat) : Int) = (k : Int) + 1 from by omega] at hf
   refine Calls.mono hf ?_
   rintro e w' ⟨rfl, hf⟩
   exact ⟨rfl, PN.same h hi hf⟩
  | true =>
   rw [if_pos rfl, if_pos ⟨rfl, rfl⟩, sub1]
   have hf := SetClass_ok (k + 1) X a l H w h hI.has hX hT (by omega) hmem
   rw [show ((k + 1 : Nat) : Int) = (k : Int) + 1 from by omega] at hf
   refine Calls.mono hf ?_
   rintro e w' ⟨rfl, hr, hx⟩
   exact ⟨rfl, l, _, hr, hi.setCls k hk hb X, hx, Old.same rfl rfl⟩
end Go.Proofs.YtklfnjlenbgmoaaDoor
namespace Go.Proofs.YtklfnjlenbgmoaaDoor
open Go.RowKit
attribute [local go_sem ↓] Go.wp_at_zero Go.wp_at_succ
structure LdW (w W1 : World) (A : Nat) (H0 : HS) (M0 : MS) (la : List OI) (k : Nat) (wr : World) (l : Lay) (H : HS) (M : MS) : Prop where
 rep : Rep wr A l H
 fr : Fr [] W1 wr
 new : ∀ b ∈ foot A l, W1.heap.size ≤ b
 lds : Lds H0 M0 ((la.take k).map oiKey) H M
set_option maxRecDepth 20000 in
set_option maxHeartbeats 1000000 in
theorem Load_any (words oops mark : Nat) (ov : Value) (la : List OI) (w : World) (ha : SAt w ov la) (hT : Tab w) (hT0 : 0 < w.heap.size) (h1 : (words : Int) ≤ 1048576) (h2 : (oops : Int) ≤ 65536) (hm : (mark : Int) ≤ 1073741824) :
  Calls Tryd.prog 17 #[.agg #[.int .i64 (words : Int), .int .i64 (oops : Int), .int .i64 (mark : Int), ov]] w fun e w' =>
   (∃ l H M, e = .returned (.tuple #[.pointer (some ⟨w.heap.size + 1, 0, none⟩), .int .i64 0]) ∧ LdW w w (w.heap.size + 1) { emptyH words oops with mark := mark } { emptyM words oops with mark := mark } la la.length w' l H M) ∨
   (∃ k o H M, e = .returned (.tuple #[.pointer none, .int .i64 27]) ∧ Fr [] w w' ∧ la[k]? = some o ∧ Lds { emptyH words oops with mark := mark } { emptyM words oops with mark := mark } ((la.take k).map oiKey) H M ∧ takesB H o.oop o.cls o.fmt o.slots = false) := by
 have HA := mkHid ha
 obtain ⟨p, c, rfl, -⟩ := ha.at_
 have hl := ha.short
 obtain ⟨W1, hW1⟩ : ∃ W1, W1 = w.alloc (.cells #[.int .i64 (words : Int), .int .i64 (oops : Int), .int .i64 (mark : Int), .slice p la.length c] 38) := ⟨_, rfl⟩
 have F1 : Hid (Fr [] w W1) := by rw [hW1]; exact Fr.alloc [] _ _
 have hS1 : W1.heap.size = w.heap.size + 1 := by rw [hW1]; simp
 have HB1 : Hid (W1.heap[w.heap.size]? = some (.cells #[.int .i64 (words : Int), .int .i64 (oops : Int), .int .i64 (mark : Int), .slice p la.length c] 38 (0, 0))) := by rw [Hid, hW1]; exact heap_alloc_new _ _
 have hN := New_in words oops W1 (by omega) h2
 rw [hS1] at hN
 have HN := mkHid hN
 have HI0 : Hid (Inv { emptyH words oops with mark := mark } { emptyM words oops with mark := mark }) := (inv_empty words oops h1 h2).setMark mark hm
 have HTb : Hid (∀ V, Hid (Fr [] w V) → Tab V) := fun V hV => hT.fr hV.out hT0
 have HS1 := mkHid hS1
 have hmk := fun V => isMark_any (mark : Int) V
 rw [show isM (mark : Int) = true from by simp [isM]; omega] at hmk
 have HMk := mkHid hmk
 clear ha hT hN hS1 hmk
 go_enter Tryd.func17, Tryd.ntmps17
 go_wp2_with fail
 rw [← hW1]
 clear hW1
 refine Calls.mono HN.out ?_
 rintro e w2 ⟨rfl, hr2, hf2, hs2⟩
 have f3 := hr2.frozen 3
 have c3 := hr2.c3
 have hb2 := (hf2.block _ (lt_of_heap HB1.out) (by simp)).trans HB1.out
 have e2 : w2.cell? ⟨w.heap.size, 2, none⟩ = some (.int .i64 (mark : Int)) := by rw [cell_in hb2]; rfl
 have e3 : w2.cell? ⟨w.heap.size, 3, none⟩ = some (.slice p la.length c) := by rw [cell_in hb2]; rfl
 have HR2 : Hid (∀ V, Eqw (w2.setCell ⟨w.heap.size + 1, 3, none⟩ (.int .i64 (mark : Int))) V → Rep V (w.heap.size + 1) nilLay { emptyH words oops with mark := mark } ∧ Fr [] W1 V) := fun V he => by
  refine ⟨(hr2.set (H' := { emptyH words oops with mark := mark }) 3 _ rfl rfl rfl rfl rfl).eqw he, ?_⟩
  have := HS1.out
  exact (hf2.trans (Fr.setCell (S := [w.heap.size + 1]) w2 ⟨w.heap.size + 1, 3, none⟩ _ (by simp)) (by simp; omega)).trans (he.fr []) (by simp)
 clear HN
 go_wp2_with (go_at_call 45; refine Calls.mono (HMk.out _) ?_; rintro e w' ⟨rfl, hw'⟩; rw [hw']; clear hw' w')
 generalize w2.setCell ⟨w.heap.size + 1, 3, none⟩ (.int .i64 (mark : Int)) = W3 at *
 go_loopw [32] (fun qq wr => ∃ k : Nat, k ≤ la.length ∧ qq = .int .i64 k ∧ Hid (∃ l H M, LdW w W1 (w.heap.size + 1) { emptyH words oops with mark := mark } { emptyM words oops with mark := mark } la k wr l H M)) (fun qq _ => la.length - (intOf qq).toNat)
 case atStart =>
  obtain ⟨r3, f3'⟩ := HR2.out W3 ⟨rfl, rfl, rfl, rfl⟩
  refine ⟨0, Nat.zero_le _, rfl, nilLay, _, { emptyM words oops with mark := mark }, ⟨r3, f3', fun b hb => ?_, ?_⟩⟩
  ·have hs := HS1.out
   have hb' : b = w.heap.size + 1 := by simpa [foot, show nilLay.blocks = [] from rfl] using hb
   omega
  ·exact Lds.nil
 case round =>
  obtain ⟨k, hkn, rfl, hqq⟩ := hrel
  obtain ⟨l, H, M, hw⟩ := hqq.out
  by_cases hlt : k < la.length
  ·have Fk := F1.out.trans hw.fr (by simp)
   have hAk := HA.out.idle Fk
   obtain ⟨p', c', ee, hpa⟩ := hAk.at_
   injection ee with ee eeb eec
   subst ee
   subst eec
   clear eeb
   obtain ⟨g, off, rfl, hca⟩ := hpa (by omega)
   obtain ⟨o, h0, x0, x1, x2, x3⟩ := hca k hlt
   have x4 := hAk.slots o (List.mem_of_getElem? h0)
   obtain ⟨oo, oc, of_, os, ov⟩ := o
   dsimp only at *
   have k1 : (0 : Int) ≤ (k : Int) := by omega
   have k2 : (k : Int) < (la.length : Int) := by omega
   obtain ⟨p1, c1, rfl⟩ : ∃ p c, ov = .slice p os.length c := by
    obtain ⟨p, c, h, _⟩ := x4.at_
    exact ⟨p, c, h⟩
   have hI := hw.lds.inv HI0.out
   obtain ⟨W4, hW4⟩ : ∃ W4, W4 = wr.alloc (.cells #[.int .i64 oo, .int .i64 oc, .int .i64 of_, .slice p1 os.length c1] 106) := ⟨_, rfl⟩
   have F4 : Fr [] wr W4 := by rw [hW4]; exact Fr.alloc [] _ _
   have x5 := x4.idle F4
   have hB4 : W4.heap[wr.heap.size]? = some (.cells #[.int .i64 oo, .int .i64 oc, .int .i64 of_, .slice p1 os.length c1] 106 (0, 0)) := by rw [hW4]; exact heap_alloc_new _ _
   have HB4 := mkHid hB4
   have HF4 := mkHid F4
   have HTk := mkHid (takes_any oo oc of_ os (.slice p1 os.length c1) (w.heap.size + 1) l H W4 (hw.rep.keep F4 (by simp)) hI.safe.small (HTb.out W4 (Fk.trans F4 (by simp))) (by have := Fk.size; have := F4.size; omega) x5)
   have HX5 := mkHid x5
   have HW := mkHid hw
   have HI := mkHid hI
   have HFk := mkHid Fk
   have H0 := mkHid h0
   clear hqq hw hAk hpa hca x4 x5 Fk hI F4 hB4 h0
   by_cases ht : takesB H oo oc of_ os = true
   ·obtain ⟨q, hq⟩ : ∃ q : Nat, oo = (q : Int) + 1 := ⟨(oo - 1).toNat, by have := (takesB_yes ht).2.1; omega⟩
    obtain ⟨fm, hfm⟩ : ∃ fm : Nat, of_ = (fm : Int) := ⟨of_.toNat, by have h5 := (takesB_yes ht).2.2.2.2.1; simp [isF] at h5; omega⟩
    have HLd : Hid (∀ V, Fr [] W4 V → Calls Tryd.prog 54 #[.pointer (some ⟨w.heap.size + 1, 0, none⟩), .agg #[.int .i64 oo, .int .i64 oc, .int .i64 of_, .slice p1 os.length c1]] V fun e w' => e = .returned (.tuple #[]) ∧ Hid (∃ l' H' M', LdW w W1 (w.heap.size + 1) { emptyH words oops with mark := mark } { emptyM words oops with mark := mark } la (k + 1) w' l' H' M')) := by
     intro V hV
     have hFV := HF4.out.trans hV (by simp)
     rw [hq, hfm] at ht ⊢
     have hmem := List.mem_of_getElem? H0.out
     have hsl := HA.out.slots _ hmem
     refine Calls.mono (load_taken q oc fm os (.slice p1 os.length c1) (w.heap.size + 1) l H M V (HW.out.rep.keep hFV (by simp)) HI.out ht (HX5.out.idle hV) (fun hp g hg hb => by
      have q1 := hsl.lt hp g hg
      have q2 := HW.out.new g hb
      have q3 := HS1.out
      omega)) ?_
     rintro e w' ⟨rfl, l', H', M', hr', hx', hl'⟩
     have hFV2 : Fr [] W1 V := HW.out.fr.trans hFV (by simp)
     refine ⟨rfl, l', H', M', hr', hFV2.trans hx'.1 (fun b hb => .inr (HW.out.new b hb)), fun b hb => ?_, ?_⟩
     ·rcases hx'.2 b hb with h | h
      ·exact HW.out.new b h
      ·have := hFV2.size
       omega
     ·have e : (la.take (k + 1)).map oiKey = (la.take k).map oiKey ++ [((q : Int) + 1, oc, (fm : Int), os)] := by
       have h0 := H0.out
       rw [List.getElem?_eq_getElem hlt] at h0
       have h0' := Option.some.inj h0
       rw [List.take_succ_eq_append_getElem hlt, List.map_append, h0', hq, hfm]
       rfl
      rw [e]
      exact Lds.snoc q oc fm os HW.out.lds ht hl'
    clear hq hfm
    rw [ht] at HTk
    have HT := mkHid ht
    clear ht
    generalize os.length = sn at *
    go_wp2_with fail
    rw [← hW4]
    clear hW4
    refine Calls.mono HTk.out ?_
    rintro e w5 ⟨rfl, hf5⟩
    have b5 := (hf5.block _ (lt_of_heap HB4.out) (by simp)).trans HB4.out
    have y0 : w5.cell? ⟨wr.heap.size, 0, none⟩ = some (.int .i64 oo) := by rw [cell_in b5]; rfl
    have y1 : w5.cell? ⟨wr.heap.size, 1, none⟩ = some (.int .i64 oc) := by rw [cell_in b5]; rfl
    have y2 : w5.cell? ⟨wr.heap.size, 2, none⟩ = some (.int .i64 of_) := by rw [cell_in b5]; rfl
    have y3 : w5.cell? ⟨wr.heap.size, 3, none⟩ = some (.slice p1 sn c1) := by rw [cell_in b5]; rfl
    have HL5 := mkHid (HLd.out w5 hf5)
    clear b5 x0 x1 x2 x3 HTk HLd HT HX5 HW HI HFk H0 HB4 hf5
    go_wp2_with (go_at_call 54; refine Calls.mono HL5.out ?_; rintro e w6 ⟨rfl, h6⟩)
    go_roundw
    case rel => exact ⟨k + 1, by omega, by go_num, h6⟩
    case measure => simp [intOf]; omega
   ·have ht : takesB H oo oc of_ os = false := by simpa using ht
    rw [ht] at HTk
    have HT := mkHid ht
    clear ht
    generalize os.length = sn at *
    go_wp2_with fail
    rw [← hW4]
    clear hW4
    refine Calls.mono HTk.out ?_
    rintro e w5 ⟨rfl, hf5⟩
    have F5 : Hid (Fr [] w w5) := (HFk.out.trans HF4.out (by simp)).trans hf5 (by simp)
    clear hf5 HTk x0 x1 x2 x3
    go_wp2_with fail
    go_ret2
    exact .inr ⟨k, _, H, M, rfl, F5.out, H0.out, HW.out.lds, HT.out⟩
  ·have hke : k = la.length := by omega
   subst hke
   clear hqq
   have HW := mkHid hw
   clear hw
   go_wp2_with fail
   go_ret2
   exact .inl ⟨rfl, l, H, M, ⟨HW.out.rep, F1.out.trans HW.out.fr (by simp), fun b hb => by have := HW.out.new b hb; have := HS1.out; omega, HW.out.lds⟩⟩
end Go.Proofs.YtklfnjlenbgmoaaDoor
namespace Go.Proofs.YtklfnjlenbgmoaaDoor
open Go.RowKit
def keysH (H : HS) (M : MS) : List Key := ((liveO H).map (keyO M.things)).map natKey2
theorem split_at (L : List Nat) (i x : Nat) (hx : L[i]? = some x) : L = L.take i ++ x :: L.drop (i + 1) := by
 obtain ⟨hi, e⟩ := List.getElem?_eq_some_iff.1 hx
 rw [← e, ← List.drop_eq_getElem_cons hi, List.take_append_drop]
theorem Inv.takesAll {H : HS} {M : MS} (h : Inv H M) (hg : Good M) : allK H.words H.oops (keysH H M) := by
 intro i o ho
 unfold keysH at ho ⊢
 rw [List.getElem?_map, List.getElem?_map] at ho
 cases hx : (liveO H)[i]? with
 | none => rw [hx] at ho; simp at ho
 | some x =>
  rw [hx] at ho
  have ho' : natKey2 (keyO M.things x) = o := by simpa using ho
  subst ho'
  have hs := split_at _ i x hx
  have hp := h.toInvV.lives
  rw [← List.map_take, ← List.map_take]
  have hxm : x ∈ liveO H := by rw [hs]; simp
  rw [hs] at hp
  obtain ⟨p1, p2, p3⟩ := List.pairwise_append.1 hp
  obtain ⟨k, hk0, hk, hb, s1, s2, s3⟩ := h.toInvV.liveIn x hxm
  obtain ⟨f1, f2, f3⟩ := hg k hb
  have hne : ∀ y ∈ (liveO H).take i, y ≠ x := fun y hy e => by
   have := p3 y hy x (by simp)
   have := lnO_two M.things y
   rw [e] at this
   rw [e] at *
   omega
  have hsum := sum_le M.things _ (plO M.things x) p1 (fun y hy => p3 y hy x (by simp))
  have hsl := h.model.slots k hk
  have hmem := h.safe.small.mem
  have hmost := h.most
  have hoo := h.oops
  have e0 : x - 1 = k := by omega
  have g1 : isW (M.things.getD (x - 1) noTh).cls = true := by rw [e0]; exact f1
  have g2 : (M.things.getD (x - 1) noTh).fmt ≤ 1 := by rw [e0]; exact f2
  have g3 : ∀ z ∈ (M.things.getD (x - 1) noTh).slots, mayB z ((M.things.getD (x - 1) noTh).fmt : Int) = true := by rw [e0]; exact f3
  have g4 : ((M.things.getD (x - 1) noTh).slots.length : Int) ≤ 8192 := by rw [e0]; exact hsl
  unfold takesK
  simp only [Bool.and_eq_true, decide_eq_true_eq]
  refine ⟨⟨⟨⟨⟨⟨⟨?_, ?_⟩, ?_⟩, g1⟩, ?_⟩, g4⟩, ?_⟩, ?_⟩
  ·show (1 : Int) ≤ (x : Int); omega
  ·show (x : Int) ≤ (H.oops : Int); omega
  ·rw [Bool.not_eq_true']
   rw [Bool.eq_false_iff]
   intro hc
   obtain ⟨z, z1, z2⟩ := List.any_eq_true.1 hc
   obtain ⟨u, u1, u2⟩ := List.mem_map.1 z1
   obtain ⟨y, y1, y2⟩ := List.mem_map.1 u1
   rw [← u2, ← y2] at z2
   have z3 : ((y : Int) == (x : Int)) = true := z2
   have : (y : Int) = (x : Int) := by simpa using z3
   exact hne y y1 (by omega)
  ·show isF ((M.things.getD (x - 1) noTh).fmt : Int) = true
   rcases (show (M.things.getD (x - 1) noTh).fmt = 0 ∨ (M.things.getD (x - 1) noTh).fmt = 1 from by omega) with e | e
   ·rw [e]; decide
   ·rw [e]; decide
  ·show (M.things.getD (x - 1) noTh).slots.all _ = true
   rw [List.all_eq_true]
   exact g3
  ·rw [endK_sum]
   show ((sumO M.things ((liveO H).take i) : Nat) : Int) + lenOf ((M.things.getD (x - 1) noTh).slots.length : Int) ((M.things.getD (x - 1) noTh).fmt : Int) ≤ (H.words : Int)
   rw [lenOf_nat]
   have e : lenN (M.things.getD (x - 1) noTh).slots.length (M.things.getD (x - 1) noTh).fmt = lnO M.things x := rfl
   rw [e]
   omega
theorem Lds.most {H0 : HS} {M0 : MS} {ks : List Key} {H : HS} {M : MS} (B : Nat) (h0 : M0.things.length ≤ B) (h : Lds H0 M0 ks H M) : (∀ k ∈ ks, k.1 ≤ (B : Int)) → M.things.length ≤ B := by
 refine Lds.ind (C := fun ks H M => (∀ k ∈ ks, k.1 ≤ (B : Int)) → M.things.length ≤ B) (fun _ => h0) ?_ h
 intro ks H H' M M' q cls fmt ss _ _ hl ih hk
 refine hl.tl B (ih (fun k hk2 => hk k (List.mem_append_left _ hk2))) ?_
 have := hk ((q : Int) + 1, cls, (fmt : Int), ss) (by simp)
 dsimp only at this
 omega
theorem Load_all (words oops mark : Nat) (ov : Value) (la : List OI) (w : World) (ha : SAt w ov la) (hT : Tab w) (hT0 : 0 < w.heap.size) (h1 : (words : Int) ≤ 1048576) (h2 : (oops : Int) ≤ 65536) (hm : (mark : Int) ≤ 1073741824) (hall : allK words oops (la.map oiKey)) (B : Nat) (hB : ∀ k ∈ la.map oiKey, k.1 ≤ (B : Int)) :
  Calls Tryd.prog 17 #[.agg #[.int .i64 (words : Int), .int .i64 (oops : Int), .int .i64 (mark : Int), ov]] w fun e w' =>
   e = .returned (.tuple #[.pointer (some ⟨w.heap.size + 1, 0, none⟩), .int .i64 0]) ∧ ∃ l G Mg, Rep w' (w.heap.size + 1) l G ∧ Fr [] w w' ∧ (∀ b ∈ foot (w.heap.size + 1) l, w.heap.size ≤ b) ∧ KOf words oops mark (la.map oiKey) G Mg ∧ Mg.things.length ≤ B := by
 refine Calls.mono (Load_any words oops mark ov la w ha hT hT0 h1 h2 hm) ?_
 rintro e w' (⟨l, H, M, he, hl⟩ | ⟨k, o, H, M, he, hf, ho, hl, ht⟩)
 ·have hk := hl.lds
  rw [List.take_length] at hk
  exact ⟨he, l, H, M, hl.rep, hl.fr, hl.new, hk.kOf h1 h2 hm, hk.most B (by simp [emptyM]) hB⟩
 ·exfalso
  have hk := hl.kOf h1 h2 hm
  have h3 := hk.takes (oiKey o)
  have h4 : takesB H (oiKey o).1 (oiKey o).2.1 (oiKey o).2.2.1 (oiKey o).2.2.2 = false := ht
  rw [h4, List.map_take] at h3
  have h5 := hall k (oiKey o) (by rw [List.getElem?_map, ho]; rfl)
  rw [h5] at h3
  cases h3
def Cov (H : HS) (M : MS) : Prop := ∀ p, p < H.mem.length → ∃ i, (M.things.getD i noTh).there = true ∧ (M.things.getD i noTh).place ≤ p ∧ p < (M.things.getD i noTh).place + lenN (M.things.getD i noTh).slots.length (M.things.getD i noTh).fmt
theorem cov_place {H : HS} {M : MS} (h : InvV H M) (hc : Cov H M) : ∀ a x b, liveO H = a ++ x :: b → plO M.things x = sumO M.things a := by
 refine cov_sum M.things (liveO H) H.mem.length h.lives (fun x hx => ?_) (fun p hp => ?_)
 ·obtain ⟨i, -, -, -, -, -, h6⟩ := h.liveIn x hx
  exact h6
 ·obtain ⟨i, i1, i2, i3⟩ := hc p hp
  exact ⟨i + 1, (h.live (i + 1)).2 ⟨by omega, i1⟩, i2, i3⟩
theorem sumO_congr {S T : List Th} : ∀ l : List Nat, (∀ x ∈ l, lnO S x = lnO T x) → sumO S l = sumO T l := by
 intro l
 induction l with
 | nil => intro _; rfl
 | cons x t ih =>
  intro h
  show lnO S x + sumO S t = lnO T x + sumO T t
  rw [h x (by simp), ih (fun y hy => h y (List.mem_cons_of_mem _ hy))]
theorem Inv.pad {G : HS} {N C : MS} (h : Inv G N) (hw : C.words = N.words) (ho : C.oops = N.oops) (hm : C.mark = N.mark) (hlen : N.things.length ≤ C.things.length) (hth : ∀ i, (C.things.getD i noTh).there = (N.things.getD i noTh).there) (hat : ∀ i, (N.things.getD i noTh).there = true → bare (C.things.getD i noTh) = bare (N.things.getD i noTh)) (hok : MOk C) (hmost : C.things.length ≤ C.oops) : Inv G C := by
 have hf : ∀ i, (C.things.getD i noTh).there = true → (N.things.getD i noTh).there = true ∧ i < N.things.length ∧ (C.things.getD i noTh).cls = (N.things.getD i noTh).cls ∧ (C.things.getD i noTh).fmt = (N.things.getD i noTh).fmt ∧ (C.things.getD i noTh).place = (N.things.getD i noTh).place ∧ (C.things.getD i noTh).slots = (N.things.getD i noTh).slots := by
  intro i hb
  have hb2 : (N.things.getD i noTh).there = true := by rw [← hth]; exact hb
  have e := hat i hb2
  refine ⟨hb2, th_in hb2, ?_⟩
  generalize C.things.getD i noTh = t at *
  generalize N.things.getD i noTh = u at *
  cases t; cases u
  simp only [bare, Th.mk.injEq] at e
  obtain ⟨_, h2, h3, h4, h5, -⟩ := e
  exact ⟨h2, h3, h4, h5⟩
 have hthere : ∀ n, n ≤ N.things.length → thereTo C.things n = thereTo N.things n := by
  intro n
  induction n with
  | zero => intro _; rfl
  | succ n ih =>
   intro hn
   rw [thereTo_succ _ _ (by omega), thereTo_succ _ _ (by omega), ih (by omega), hth]
 have hthere2 : ∀ d, N.things.length + d ≤ C.things.length → thereTo C.things (N.things.length + d) = thereTo N.things N.things.length := by
  intro d
  induction d with
  | zero => intro _; exact hthere _ (Nat.le_refl _)
  | succ d ih =>
   intro hd
   rw [← Nat.add_assoc, thereTo_succ _ _ (by omega), ih (by omega), hth, List.getD_eq_getElem?_getD, List.getElem?_eq_none (by omega)]
   rfl
 have hend : ∀ n, endTo C.things n = endTo N.things n := by
  intro n
  induction n with
  | zero => rfl
  | succ n ih =>
   rw [endTo_succ, endTo_succ, ih]
   cases hb : (C.things.getD n noTh).there with
   | false =>
    rw [if_neg (by simp), if_neg (by rw [← hth, hb]; simp)]
   | true =>
    obtain ⟨b1, -, -, b3, b4, b5⟩ := hf n hb
    rw [b1, b3, b4, b5]
 have hend2 : ∀ d, endTo N.things (N.things.length + d) = endTo N.things N.things.length := by
  intro d
  induction d with
  | zero => rfl
  | succ d ih =>
   rw [← Nat.add_assoc, endTo_succ, ih, if_neg]
   rw [List.getD_eq_getElem?_getD, List.getElem?_eq_none (by omega)]
   simp [noTh]
 exact {
  safe := h.safe
  words := h.words.trans hw.symm
  oops := h.oops.trans ho.symm
  mark := h.mark.trans hm.symm
  len := by have := h.len; omega
  seat0 := h.seat0
  there := fun k hk => by
   rw [hth]
   by_cases e : k < N.things.length
   ·exact h.there k e
   ·rw [List.getD_eq_getElem?_getD, List.getElem?_eq_none (by omega), List.getD_eq_getElem?_getD, List.getElem?_eq_none (by have := h.len; omega)]
    simp [noTh]
  seat := fun k hk hb => by
   obtain ⟨b1, b2, -, b3, b4, b5⟩ := hf k hb
   rw [b3, b4, b5]
   exact h.seat k b2 b1
  is := fun k hk hb => by
   obtain ⟨b1, b2, b6, b3, b4, b5⟩ := hf k hb
   have hI := h.is k b2 b1
   exact ⟨hI.has, by rw [b5, b3]; exact hI.room, by rw [b6]; exact hI.cls, by rw [b5, b3]; exact hI.shape, by rw [b3]; exact hI.fmt, by rw [b5]; exact hI.len, by rw [b5, b3]; exact hI.word, by rw [b5, b3]; exact hI.byte⟩
  count := by
   have := hthere2 (C.things.length - N.things.length) (by omega)
   rw [show N.things.length + (C.things.length - N.things.length) = C.things.length from by omega] at this
   rw [this]
   exact h.count
  turn := fun k hk hb => by
   obtain ⟨b1, b2, -⟩ := hf k hb
   exact h.turn k b2 b1
  order := fun j hj hn => by
   obtain ⟨o1, o2, o3⟩ := h.order j hj hn
   exact ⟨by omega, by rw [hth]; exact o2, o3⟩
  rise := h.rise
  gaps := fun p hp hc => h.gaps p hp (fun k hk hb => by
   have hb2 : (C.things.getD k noTh).there = true := by rw [hth]; exact hb
   obtain ⟨b1, b2, -, b3, b4, b5⟩ := hf k hb2
   have := hc k (by omega) hb2
   rw [b3, b4, b5] at this
   exact this)
  bit := fun k => by rw [hth]; exact h.bit k
  low := h.low
  model := hok
  deep := h.deep
  most := hmost
  room := h.room
  fin := by
   have := hend2 (C.things.length - N.things.length)
   rw [show N.things.length + (C.things.length - N.things.length) = C.things.length from by omega] at this
   rw [hend, this]
   exact h.fin
  last := h.last }
theorem loaded_inv {H G : HS} {M Mg C : MS} (h : Inv H M) (hc : Cov H M) (hk : KOf H.words H.oops H.mark (keysH H M) G Mg) (hB : Mg.things.length ≤ M.things.length) (hl : Lk C M) (hok : MOk C) : Inv G C := by
 have hI := hk.inv
 have hlive : liveO G = liveO H := by
  unfold liveO
  rw [hk.order]
  unfold keysH
  have e2 : ((((liveO H).map (keyO M.things)).map natKey2).map (fun k : Key => k.1.toNat)) = liveO H := by
   rw [List.map_map, List.map_map]
   conv => rhs; rw [← List.map_id (liveO H)]
   exact List.map_congr_left fun x _ => rfl
  rw [e2]
  unfold liveO
  rw [List.filter_filter]
  congr 1
  funext o
  simp
 have hmemk : ∀ x ∈ liveO H, natKey2 (keyO M.things x) ∈ keysH H M := fun x hx => List.mem_map_of_mem (List.mem_map_of_mem hx)
 have hth : ∀ i, (Mg.things.getD i noTh).there = (M.things.getD i noTh).there := by
  intro i
  have h1 := hI.toInvV.live (i + 1)
  have h2 := h.toInvV.live (i + 1)
  rw [hlive] at h1
  rw [Nat.add_sub_cancel] at h1 h2
  rw [Bool.eq_iff_iff]
  constructor
  ·intro hb; exact (h2.1 (h1.2 ⟨by omega, hb⟩)).2
  ·intro hb; exact (h1.1 (h2.2 ⟨by omega, hb⟩)).2
 have hat : ∀ x ∈ liveO H, (Mg.things.getD (x - 1) noTh).cls = (M.things.getD (x - 1) noTh).cls ∧ (Mg.things.getD (x - 1) noTh).fmt = (M.things.getD (x - 1) noTh).fmt ∧ (Mg.things.getD (x - 1) noTh).slots = (M.things.getD (x - 1) noTh).slots := by
  intro x hx
  obtain ⟨-, -, b2, b3, b4⟩ := hk.at_ _ (hmemk x hx)
  have e : (natKey2 (keyO M.things x)).1.toNat = x := rfl
  rw [e] at b2 b3 b4
  exact ⟨b2, by have b3' : ((Mg.things.getD (x - 1) noTh).fmt : Int) = ((M.things.getD (x - 1) noTh).fmt : Int) := b3; omega, b4⟩
 have hln : ∀ x ∈ liveO H, lnO Mg.things x = lnO M.things x := fun x hx => by
  obtain ⟨-, b2, b3⟩ := hat x hx
  unfold lnO
  rw [b2, b3]
 have hsum : ∀ l : List Nat, (∀ x ∈ l, x ∈ liveO H) → sumO Mg.things l = sumO M.things l := fun l hl => sumO_congr l (fun x hx => hln x (hl x hx))
 have hmem : G.mem.length = sumO Mg.things (liveO H) := by
  have := hk.mem
  unfold keysH at this
  rw [endK_sum, ← hsum _ (fun x hx => hx)] at this
  omega
 have hpl : ∀ x ∈ liveO H, plO Mg.things x = plO M.things x := by
  intro x hx
  obtain ⟨a, b, e⟩ := List.append_of_mem hx
  have hp := hI.toInvV.lives
  rw [hlive] at hp
  rw [cov_place h.toInvV hc a x b e, ← hsum a (fun y hy => by rw [e]; exact List.mem_append_left _ hy)]
  refine tight_sum Mg.things (liveO H) hp (fun y hy => ?_) a x b e
  rw [← hmem]
  obtain ⟨i, -, -, -, -, -, h6⟩ := hI.toInvV.liveIn y (by rw [hlive]; exact hy)
  exact h6
 have hmost := h.most
 have hll := hl.len
 refine hI.pad (hl.words.trans ?_) (hl.oops.trans ?_) (hl.mark.trans ?_) (by omega) (fun i => ?_) (fun i hb => ?_) hok (by rw [hll, hl.oops]; exact hmost)
 ·rw [← h.words, ← hI.words, hk.words]
 ·rw [← h.oops, ← hI.oops, hk.oops]
 ·rw [← h.mark, ← hI.mark, hk.mark]
 ·rw [(hl.fields i).1, hth]
 ·have hb2 : (M.things.getD i noTh).there = true := by rw [← hth]; exact hb
  have hx : i + 1 ∈ liveO H := (h.toInvV.live (i + 1)).2 ⟨by omega, hb2⟩
  obtain ⟨c1, c2, c3⟩ := hat (i + 1) hx
  have c4 := hpl (i + 1) hx
  unfold plO at c4
  rw [Nat.add_sub_cancel] at c1 c2 c3 c4
  rw [hl.at i]
  generalize M.things.getD i noTh = t at *
  generalize Mg.things.getD i noTh = u at *
  cases t; cases u
  simp only at *
  subst c1 c2 c3 c4 hb hb2
  rfl
theorem InvV.slide_cov {H : HS} {M : MS} (hv : InvV H M) : Cov (slideH H) { M with things := slidN M.things 0 (thereTo M.things M.things.length) } := by
 obtain ⟨T, h⟩ := hv.mid H.order.length (Nat.le_refl _)
 have hdone : ∀ i, (M.things.getD i noTh).there = true → (H.seats.getD (i + 1) (0, 0, 0)).2.2 < H.order.length := fun i hb => (hv.turn i (th_in hb) hb).1
 have hen := (slideTo_len H hv.slideOk H.order.length (Nat.le_refl _)).2.2.2.2
 unfold slideH
 generalize slideTo H H.order.length = x at *
 have hml := h.ml
 have hb : ∀ i, (T.getD i noTh).there = (M.things.getD i noTh).there := fun i => (h.alike.at_ i).1
 have hD := fun i hbi => h.done i hbi (hdone i hbi)
 have hres : slidN M.things 0 (thereTo M.things M.things.length) = T := by
  have hc : x.turns ≤ thereTo M.things M.things.length := by
   refine thereTo_many x.turns M.things (fun r => x.H.order.getD r 0 - 1) (fun r hr => ?_) (fun i j hi hj e => ?_)
   ·obtain ⟨i, i1, i2, i3, i4⟩ := h.ord r hr
    simp only [i1, Nat.add_sub_cancel]
    exact i2
   ·obtain ⟨p, p1, p2, p3, p4⟩ := h.ord i hi
    obtain ⟨q, q1, q2, q3, q4⟩ := h.ord j hj
    simp only [p1, q1, Nat.add_sub_cancel] at e
    rw [e] at p4
    omega
  have := h.run (thereTo M.things M.things.length - x.turns)
  rw [show x.turns + (thereTo M.things M.things.length - x.turns) = thereTo M.things M.things.length from by omega] at this
  rw [this]
  have hno := pickTo_no T x.en (fun i hbi => by
   rw [hb] at hbi
   obtain ⟨t, t1, t2, t3, t4, t5, t6⟩ := hD i hbi
   have := lenN_two (M.things.getD i noTh).slots.length (M.things.getD i noTh).fmt
   omega) T.length
  cases thereTo M.things M.things.length - x.turns with
  | zero => rfl
  | succ n => exact slidN_none T x.en n hno
 rw [hres]
 intro p hp
 have hp2 : p < x.en := by
  have : p < (x.H.mem.take x.en).length := hp
  simp at this
  omega
 obtain ⟨i, i1, i2, i3, i4⟩ := h.cov p hp2
 refine ⟨i, by show (T.getD i noTh).there = true; rw [hb]; exact i1, i3, ?_⟩
 show p < (T.getD i noTh).place + lenN (T.getD i noTh).slots.length (T.getD i noTh).fmt
 rw [(h.alike.at_ i).2.1, (h.alike.at_ i).2.2.1]
 exact i4
end Go.Proofs.YtklfnjlenbgmoaaDoor
namespace Go.Proofs.YtklfnjlenbgmoaaDoor
open Go.RowKit
attribute [local go_sem ↓] Go.wp_at_zero Go.wp_at_succ
end Go.Proofs.YtklfnjlenbgmoaaDoor
