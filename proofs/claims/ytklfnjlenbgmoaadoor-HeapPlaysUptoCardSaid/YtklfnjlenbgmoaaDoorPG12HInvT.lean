import Derived.Test.YtklfnjlenbgmoaaDoorPG11HInvG
set_option linter.unusedVariables false
namespace Go.Proofs.YtklfnjlenbgmoaaDoor
open Go.RowKit
theorem last_nz (l : List Nat) : ∀ n, ∃ t, t ≤ n ∧ (∀ j, t ≤ j → j < n → l.getD j 0 = 0) ∧ (0 < t → l.getD (t - 1) 0 ≠ 0) := by
 intro n
 induction n with
 | zero => exact ⟨0, Nat.le_refl _, fun j h1 h2 => by omega, fun h => by omega⟩
 | succ n ih =>
  by_cases hz : l.getD n 0 = 0
  ·obtain ⟨t, h1, h2, h3⟩ := ih
   refine ⟨t, by omega, fun j j1 j2 => ?_, h3⟩
   by_cases e : j = n
   ·rw [e]; exact hz
   ·exact h2 j j1 (by omega)
  ·exact ⟨n + 1, Nat.le_refl _, fun j h1 h2 => by omega, fun _ => hz⟩
theorem getD_take {α : Type} (L : List α) (e x : Nat) (d : α) : (L.take e).getD x d = if x < e then L.getD x d else d := by
 rw [List.getD_eq_getElem?_getD, List.getD_eq_getElem?_getD, List.getElem?_take]
 split <;> rfl
theorem InvV.draw {H : HS} {M : MS} (h : InvV H M) : ∃ t e, DrawOk H t e ∧ Inv (drawH H t e) M := by
 obtain ⟨t, h1, h2, h3⟩ := last_nz H.order H.order.length
 obtain ⟨e, he0, he1⟩ : ∃ e, (t = 0 → e = 0) ∧ (0 < t → e = (H.seats.getD (H.order.getD (t - 1) 0) (0, 0, 0)).1 + (H.seats.getD (H.order.getD (t - 1) 0) (0, 0, 0)).2.1) := by
  by_cases ht : t = 0
  ·exact ⟨0, fun _ => rfl, fun h => by omega⟩
  ·exact ⟨_, fun h => absurd h ht, fun _ => rfl⟩
 have hsm := h.safe.small
 have hle : e ≤ H.mem.length := by
  by_cases ht : t = 0
  ·rw [he0 ht]; exact Nat.zero_le _
  ·obtain ⟨o1, o2, o3⟩ := h.order (t - 1) (by omega) (h3 (by omega))
   have hn := h3 (by omega)
   have hI := (h.is (H.order.getD (t - 1) 0 - 1) (by omega) o2).room
   have hs := (h.seat (H.order.getD (t - 1) 0 - 1) (by omega) o2).2
   rw [show H.order.getD (t - 1) 0 - 1 + 1 = H.order.getD (t - 1) 0 from by omega] at hI hs
   rw [he1 (by omega)]
   omega
 have hturn : ∀ k, k < M.things.length → (M.things.getD k noTh).there = true → (H.seats.getD (k + 1) (0, 0, 0)).2.2 < t := fun k hk hb => by
  obtain ⟨u1, u2⟩ := h.turn k hk hb
  by_cases hlt : (H.seats.getD (k + 1) (0, 0, 0)).2.2 < t
  ·exact hlt
  ·have := h2 _ (by omega) u1
   omega
 have hend : ∀ k, k < M.things.length → (M.things.getD k noTh).there = true → (M.things.getD k noTh).place + lenN (M.things.getD k noTh).slots.length (M.things.getD k noTh).fmt ≤ e := fun k hk hb => by
  obtain ⟨u1, u2⟩ := h.turn k hk hb
  obtain ⟨s1, s2⟩ := h.seat k hk hb
  have ht := hturn k hk hb
  rw [he1 (by omega)]
  by_cases e2 : (H.seats.getD (k + 1) (0, 0, 0)).2.2 = t - 1
  ·rw [e2] at u2; rw [u2]; omega
  ·have := h.rise (H.seats.getD (k + 1) (0, 0, 0)).2.2 (t - 1) (by omega) (by omega) (by rw [u2]; omega) (h3 (by omega))
   rw [u2] at this
   omega
 have hzero : ∀ x, e ≤ x → x < H.mem.length → H.mem.getD x 0 = 0 := fun x hx hl => h.gaps x hl (fun k hk hb => .inr (by have := hend k hk hb; omega))
 have hmem : H.mem = H.mem.take e ++ List.replicate (H.mem.length - e) 0 := by
  apply List.ext_getElem?
  intro x
  by_cases hx : x < e
  ·rw [List.getElem?_append_left (by simp; omega), List.getElem?_take, if_pos hx]
  ·rw [List.getElem?_append_right (by simp; omega), List.getElem?_replicate]
   have el : (List.take e H.mem).length = e := by simp; omega
   rw [el]
   by_cases hl : x < H.mem.length
   ·have := hzero x (by omega) hl
    rw [List.getD_eq_getElem?_getD, List.getElem?_eq_getElem hl] at this
    rw [if_pos (by omega), List.getElem?_eq_getElem hl]
    simpa using this
   ·rw [if_neg (by omega), List.getElem?_eq_none (by omega)]
 have hok : DrawOk H t e := ⟨h1, h2, fun ht => ⟨h3 ht, by
   obtain ⟨o1, o2, o3⟩ := h.order (t - 1) (by omega) (h3 ht)
   have hL := h.seatIn _ (th_in o2) o2
   omega, he1 ht⟩, he0, hle, hmem, by have := hsm.mem; have := hsm.words; omega, by have := h.safe.order; omega, by have := h.safe.seats; omega⟩
 refine ⟨t, e, hok, ?_⟩
 have hMl : (drawH H t e).mem.length = e := by show (H.mem.take e).length = e; simp; omega
 have hM : ∀ x, x < e → (drawH H t e).mem.getD x 0 = H.mem.getD x 0 := fun x hx => by show (H.mem.take e).getD x 0 = _; rw [getD_take, if_pos hx]
 have hOl : (drawH H t e).order.length = t := by show (H.order.take t).length = t; simp; omega
 have hO : ∀ r, r < t → (drawH H t e).order.getD r 0 = H.order.getD r 0 := fun r hr => by show (H.order.take t).getD r 0 = _; rw [getD_take, if_pos hr]
 exact {
  safe := ⟨⟨hsm.words, hsm.oops, by rw [hMl]; show (e : Int) ≤ (H.words : Int); have := hsm.mem; omega, hsm.count, hsm.mark⟩, h.safe.low, h.safe.bl, h.safe.bits, h.safe.seats, by rw [hOl]; have := h.safe.order; omega⟩
  words := h.words
  oops := h.oops
  mark := h.mark
  len := h.len
  seat0 := h.seat0
  there := h.there
  seat := h.seat
  is := fun k hk hb => by
   have hI := h.is k hk hb
   obtain ⟨s1, s2⟩ := h.seat k hk hb
   have he := hend k hk hb
   exact hI.same rfl (by have := (has_yes hI.has).2.1; show k + 1 < H.seats.length; omega) (by rw [hMl]; omega) (fun x x1 x2 => hM x (by omega))
  count := h.count
  turn := fun k hk hb => by
   rw [hOl]
   have ht := hturn k hk hb
   exact ⟨ht, (hO _ ht).trans (h.turn k hk hb).2⟩
  order := fun r hr hne => by
   rw [hOl] at hr
   rw [hO r hr] at hne ⊢
   exact h.order r (by omega) hne
  rise := fun i j hij hj hi0 hj0 => by
   rw [hOl] at hj
   rw [hO i (by omega)] at hi0 ⊢
   rw [hO j hj] at hj0 ⊢
   exact h.rise i j hij (by omega) hi0 hj0
  gaps := fun x hx hc => by
   rw [hMl] at hx
   rw [hM x hx]
   exact h.gaps x (by omega) hc
  bit := h.bit
  low := h.low
  model := h.model
  deep := fun j hj hne => by
   rw [hOl] at hj
   rw [hO j hj] at hne ⊢
   exact h.deep j (by omega) hne
  most := h.most
  room := h.room
  fin := by
   rw [hMl]
   refine (endTo_is M.things e _ (fun j hj hb => hend j hj hb) ?_).symm
   by_cases ht : t = 0
   ·exact .inl (he0 ht)
   ·right
    obtain ⟨o1, o2, o3⟩ := h.order (t - 1) (by omega) (h3 (by omega))
    have hn := h3 (by omega)
    obtain ⟨s1, s2⟩ := h.seat (H.order.getD (t - 1) 0 - 1) (by omega) o2
    rw [show H.order.getD (t - 1) 0 - 1 + 1 = H.order.getD (t - 1) 0 from by omega] at s1 s2
    exact ⟨H.order.getD (t - 1) 0 - 1, by omega, o2, by rw [he1 (by omega)]; omega⟩
  last := fun j hj => by
   rw [hOl] at hj
   rw [hO j (by omega), show j = t - 1 from by omega]
   exact h3 (by omega) }
theorem putB_get (m r s v : Nat) (hm : m ≤ 4294967295) (hr : r ≤ 3) (hs : s ≤ 3) (hv : v ≤ 255) : getB (putB m r v) s = if s = r then v else getB m s := by
 rcases (show r = 0 ∨ r = 1 ∨ r = 2 ∨ r = 3 from by omega) with rfl | rfl | rfl | rfl <;> rcases (show s = 0 ∨ s = 1 ∨ s = 2 ∨ s = 3 from by omega) with rfl | rfl | rfl | rfl <;> simp only [getB, putB, Nat.reduceMul, Nat.reduceAdd, Nat.reducePow, Nat.reduceEqDiff, if_true, if_false] <;> omega
theorem putB_le (m r v : Nat) (hm : m ≤ 4294967295) (hr : r ≤ 3) (hv : v ≤ 255) : putB m r v ≤ 4294967295 := by
 rcases (show r = 0 ∨ r = 1 ∨ r = 2 ∨ r = 3 from by omega) with rfl | rfl | rfl | rfl <;> simp only [putB, Nat.reduceMul, Nat.reduceAdd, Nat.reducePow] <;> omega
theorem getD_set' (L : List Int) (p x : Nat) (v : Int) (hp : p < L.length) : (L.set p v).getD x 0 = if x = p then v else L.getD x 0 := by
 rw [List.getD_eq_getElem?_getD, List.getD_eq_getElem?_getD, List.getElem?_set]
 by_cases h : p = x
 ·rw [if_pos h, if_pos h.symm, if_pos (by omega)]; rfl
 ·rw [if_neg h, if_neg (fun e => h e.symm)]
def withSlot (t : Th) (i : Nat) (v : Int) : Th := { t with slots := t.slots.set i v }
def withCls (t : Th) (v : Int) : Th := { t with cls := v }
theorem Inv.putW {H : HS} {M : MS} (h : Inv H M) (k : Nat) (hk : k < M.things.length) (hb : (M.things.getD k noTh).there = true) (i : Nat) (v : Int) (hi : i < (M.things.getD k noTh).slots.length) (hf : (M.things.getD k noTh).fmt = 0) :
  Inv { H with mem := H.mem.set ((H.seats.getD (k + 1) (0, 0, 0)).1 + 2 + i) v } { M with things := M.things.set k (withSlot (M.things.getD k noTh) i v) } := by
 have hI := h.is k hk hb
 obtain ⟨s1, s2⟩ := h.seat k hk hb
 have hr := hI.room
 have hw := lenN_word _ i _ hf hi
 generalize hT : M.things.getD k noTh = t at *
 have hp : (H.seats.getD (k + 1) (0, 0, 0)).1 + 2 + i < H.mem.length := by omega
 have hl : (t.slots.set i v).length = t.slots.length := List.length_set ..
 refine h.poke k hk (by rw [hT]; exact hb) _ (List.length_set ..) _ hb (by rw [hT]; rfl) (by rw [hT]; rfl) (by rw [hT]; exact hl) ?_ (fun x hx => by rw [hT] at hx; rw [getD_set' _ _ _ _ hp, if_neg (by omega)])
 refine ⟨hI.has, by show _ + lenN (t.slots.set i v).length t.fmt ≤ (H.mem.set _ _).length; rw [hl, List.length_set]; exact hr, ?_, ?_, hI.fmt, by show (t.slots.set i v).length ≤ 8192; rw [hl]; exact hI.len, ?_, ?_⟩
 ·show (H.mem.set _ _).getD (H.seats.getD (k + 1) (0, 0, 0)).1 0 = t.cls
  rw [getD_set' _ _ _ _ hp, if_neg (by omega)]; exact hI.cls
 ·show (H.mem.set _ _).getD ((H.seats.getD (k + 1) (0, 0, 0)).1 + 1) 0 = ((2 * (t.slots.set i v).length + t.fmt : Nat) : Int)
  rw [getD_set' _ _ _ _ hp, if_neg (by omega), hl]; exact hI.shape
 ·intro _ j hj
  have hj2 : j < t.slots.length := by rw [← hl]; exact hj
  show (H.mem.set _ _).getD ((H.seats.getD (k + 1) (0, 0, 0)).1 + 2 + j) 0 = (t.slots.set i v).getD j 0
  rw [getD_set' _ _ _ _ hp, getD_set' _ _ _ _ hi]
  by_cases e : j = i
  ·rw [if_pos (by omega), if_pos e]
  ·rw [if_neg (by omega), if_neg e]; exact hI.word hf j hj2
 ·intro hf1
  have : t.fmt = 1 := hf1
  omega
theorem Inv.putB' {H : HS} {M : MS} (h : Inv H M) (k : Nat) (hk : k < M.things.length) (hb : (M.things.getD k noTh).there = true) (i v old : Nat) (hi : i < (M.things.getD k noTh).slots.length) (hf : (M.things.getD k noTh).fmt = 1) (hv : v ≤ 255) (hold : H.mem.getD ((H.seats.getD (k + 1) (0, 0, 0)).1 + 2 + i / 4) 0 = (old : Int)) (ho : (old : Int) ≤ 4294967295) :
  Inv { H with mem := H.mem.set ((H.seats.getD (k + 1) (0, 0, 0)).1 + 2 + i / 4) ((putB old (i % 4) v : Nat) : Int) } { M with things := M.things.set k (withSlot (M.things.getD k noTh) i v) } := by
 have hI := h.is k hk hb
 obtain ⟨s1, s2⟩ := h.seat k hk hb
 have hr := hI.room
 have hw := lenN_byte _ i hi
 rw [← hf] at hw
 generalize hT : M.things.getD k noTh = t at *
 have hp : (H.seats.getD (k + 1) (0, 0, 0)).1 + 2 + i / 4 < H.mem.length := by omega
 have hl : (t.slots.set i (v : Int)).length = t.slots.length := List.length_set ..
 refine h.poke k hk (by rw [hT]; exact hb) _ (List.length_set ..) _ hb (by rw [hT]; rfl) (by rw [hT]; rfl) (by rw [hT]; exact hl) ?_ (fun x hx => by rw [hT] at hx; rw [getD_set' _ _ _ _ hp, if_neg (by omega)])
 refine ⟨hI.has, by show _ + lenN (t.slots.set i (v : Int)).length t.fmt ≤ (H.mem.set _ _).length; rw [hl, List.length_set]; exact hr, ?_, ?_, hI.fmt, by show (t.slots.set i (v : Int)).length ≤ 8192; rw [hl]; exact hI.len, ?_, ?_⟩
 ·show (H.mem.set _ _).getD (H.seats.getD (k + 1) (0, 0, 0)).1 0 = t.cls
  rw [getD_set' _ _ _ _ hp, if_neg (by omega)]; exact hI.cls
 ·show (H.mem.set _ _).getD ((H.seats.getD (k + 1) (0, 0, 0)).1 + 1) 0 = ((2 * (t.slots.set i (v : Int)).length + t.fmt : Nat) : Int)
  rw [getD_set' _ _ _ _ hp, if_neg (by omega), hl]; exact hI.shape
 ·intro hf0
  have : t.fmt = 0 := hf0
  omega
 ·intro _ j hj
  have hj2 : j < t.slots.length := by rw [← hl]; exact hj
  show ∃ o : Nat, (H.mem.set _ _).getD ((H.seats.getD (k + 1) (0, 0, 0)).1 + 2 + j / 4) 0 = (o : Int) ∧ (o : Int) ≤ 4294967295 ∧ (t.slots.set i (v : Int)).getD j 0 = ((getB o (j % 4) : Nat) : Int)
  rw [getD_set' _ _ _ _ hp, getD_set' _ _ _ _ hi]
  obtain ⟨o, o1, o2, o3⟩ := hI.byte hf j hj2
  by_cases e4 : j / 4 = i / 4
  ·have e5 : o = old := by rw [e4, hold] at o1; omega
   refine ⟨putB old (i % 4) v, by rw [if_pos (by omega)], by have := putB_le old (i % 4) v (by omega) (by omega) hv; omega, ?_⟩
   rw [putB_get old (i % 4) (j % 4) v (by omega) (by omega) (by omega) hv]
   by_cases e : j = i
   ·rw [if_pos e, if_pos (by rw [e])]
   ·rw [if_neg e, if_neg (by omega), o3, e5]
  ·refine ⟨o, by rw [if_neg (by omega)]; exact o1, o2, ?_⟩
   rw [if_neg (fun e => e4 (by rw [e]))]
   exact o3
theorem Inv.setCls {H : HS} {M : MS} (h : Inv H M) (k : Nat) (hk : k < M.things.length) (hb : (M.things.getD k noTh).there = true) (v : Int) :
  Inv { H with mem := H.mem.set (H.seats.getD (k + 1) (0, 0, 0)).1 v } { M with things := M.things.set k (withCls (M.things.getD k noTh) v) } := by
 have hI := h.is k hk hb
 obtain ⟨s1, s2⟩ := h.seat k hk hb
 have hr := hI.room
 have h2 := lenN_two (M.things.getD k noTh).slots.length (M.things.getD k noTh).fmt
 generalize hT : M.things.getD k noTh = t at *
 have hp : (H.seats.getD (k + 1) (0, 0, 0)).1 < H.mem.length := by omega
 refine h.poke k hk (by rw [hT]; exact hb) _ (List.length_set ..) _ hb (by rw [hT]; rfl) (by rw [hT]; rfl) (by rw [hT]; rfl) ?_ (fun x hx => by rw [hT] at hx; rw [getD_set' _ _ _ _ hp, if_neg (by omega)])
 refine ⟨hI.has, by show _ ≤ (H.mem.set _ _).length; rw [List.length_set]; exact hr, ?_, ?_, hI.fmt, hI.len, ?_, ?_⟩
 ·show (H.mem.set _ _).getD (H.seats.getD (k + 1) (0, 0, 0)).1 0 = v
  rw [getD_set' _ _ _ _ hp, if_pos rfl]
 ·show (H.mem.set _ _).getD ((H.seats.getD (k + 1) (0, 0, 0)).1 + 1) 0 = _
  rw [getD_set' _ _ _ _ hp, if_neg (by omega)]; exact hI.shape
 ·intro hf j hj
  show (H.mem.set _ _).getD ((H.seats.getD (k + 1) (0, 0, 0)).1 + 2 + j) 0 = _
  rw [getD_set' _ _ _ _ hp, if_neg (by omega)]; exact hI.word hf j hj
 ·intro hf j hj
  show ∃ o : Nat, (H.mem.set _ _).getD ((H.seats.getD (k + 1) (0, 0, 0)).1 + 2 + j / 4) 0 = (o : Int) ∧ _
  rw [getD_set' _ _ _ _ hp, if_neg (by omega)]; exact hI.byte hf j hj
theorem splice_at (L xs : List Int) (off x : Nat) (h : off + xs.length ≤ L.length) : (splice L off xs).getD x 0 = if off ≤ x ∧ x < off + xs.length then xs.getD (x - off) 0 else L.getD x 0 := by
 unfold splice
 rw [List.getD_eq_getElem?_getD, List.getD_eq_getElem?_getD, List.getD_eq_getElem?_getD]
 by_cases h1 : x < off
 ·rw [List.getElem?_append_left (by simp; omega), if_neg (by omega), List.getElem?_take, if_pos h1]
 ·rw [List.getElem?_append_right (by simp; omega)]
  have e : (List.take off L).length = off := by simp; omega
  rw [e]
  by_cases h2 : x < off + xs.length
  ·rw [List.getElem?_append_left (by omega), if_pos (by omega)]
  ·rw [List.getElem?_append_right (by omega), if_neg (by omega), List.getElem?_drop, show off + xs.length + (x - off - xs.length) = x from by omega]
theorem Is.moved {H H' : HS} {oop : Nat} {t : Th} (h : Is H oop t) (P : Nat) (hp : (H'.seats.getD oop (0, 0, 0)).1 = P) (hz : (H'.seats.getD oop (0, 0, 0)).2.1 ≠ 0) (hl : oop < H'.seats.length) (hr : P + lenN t.slots.length t.fmt ≤ H'.mem.length)
  (hm : ∀ d, d < lenN t.slots.length t.fmt → H'.mem.getD (P + d) 0 = H.mem.getD ((H.seats.getD oop (0, 0, 0)).1 + d) 0) : Is H' oop t := by
 have h2 := lenN_two t.slots.length t.fmt
 obtain ⟨a1, a2, a3⟩ := has_yes h.has
 refine ⟨?_, by rw [hp]; exact hr, ?_, ?_, h.fmt, h.len, ?_, ?_⟩
 ·exact decide_eq_true ⟨a1, by omega, by simp only [Int.toNat_natCast]; exact hz⟩
 ·rw [hp, show P = P + 0 from rfl, hm 0 (by omega)]; exact h.cls
 ·rw [hp, hm 1 (by omega)]; exact h.shape
 ·intro hf i hi
  have := lenN_word t.slots.length i t.fmt hf hi
  rw [hp, Nat.add_assoc, hm _ this, ← Nat.add_assoc]
  exact h.word hf i hi
 ·intro hf i hi
  have := lenN_byte t.slots.length i hi
  obtain ⟨old, o1, o2, o3⟩ := h.byte hf i hi
  refine ⟨old, ?_, o2, o3⟩
  rw [hp, Nat.add_assoc, hm _ (by rw [hf]; exact this), ← Nat.add_assoc]
  exact o1
theorem pickTo_is (S : List Th) (A i0 : Nat) (hb : (S.getD i0 noTh).there = true) (hA : A ≤ (S.getD i0 noTh).place) (hmin : ∀ i, i ≠ i0 → (S.getD i noTh).there = true → A ≤ (S.getD i noTh).place → (S.getD i0 noTh).place < (S.getD i noTh).place) : ∀ n, i0 < n → pickTo S A n = some i0 := by
 intro n
 induction n with
 | zero => intro h; omega
 | succ n ih =>
  intro hn
  by_cases e : i0 = n
  ·subst e
   cases hp : pickTo S A i0 with
   | none => rw [pickTo_none S A i0 hp, if_pos ⟨hb, hA⟩]
   | some b =>
    obtain ⟨b1, b2, b3⟩ := pickTo_lt S A i0 b hp
    rw [pickTo_some S A i0 b hp, if_pos ⟨hb, hA, hmin b (by omega) b2 b3⟩]
  ·have := ih (by omega)
   rw [pickTo_some S A n i0 this, if_neg (fun hc => by have := hmin n (fun e2 => e e2.symm) hc.1 hc.2.1; omega)]
theorem pickTo_no (S : List Th) (A : Nat) (h : ∀ i, (S.getD i noTh).there = true → (S.getD i noTh).place < A) : ∀ n, pickTo S A n = none := by
 intro n
 induction n with
 | zero => rfl
 | succ n ih => rw [pickTo_none S A n ih, if_neg (fun hc => by have := h n hc.1; omega)]
theorem thereTo_many : ∀ (c : Nat) (S : List Th) (f : Nat → Nat), (∀ r, r < c → (S.getD (f r) noTh).there = true) → (∀ i j, i < c → j < c → f i = f j → i = j) → c ≤ thereTo S S.length := by
 intro c
 induction c with
 | zero => intro S f _ _; exact Nat.zero_le _
 | succ c ih =>
  intro S f h1 h2
  have hb := h1 c (by omega)
  have hk := th_in hb
  have hg := fun i => getD_set S (f c) i (gone (S.getD (f c) noTh)) hk
  have := ih (S.set (f c) (gone (S.getD (f c) noTh))) f (fun r hr => by
   rw [hg, if_neg (fun e => by have := h2 r c (by omega) (by omega) e; omega)]
   exact h1 r (by omega)) (fun i j hi hj e => h2 i j (by omega) (by omega) e)
  rw [List.length_set] at this
  have := thereTo_gone S (f c) hk hb
  omega
structure Mid (H : HS) (S : List Th) (k : Nat) (x : Sl) (T : List Th) : Prop where
 alike : Alike T S
 run : ∀ r, slidN S 0 (x.turns + r) = slidN T x.en r
 ml : x.H.mem.length = H.mem.length
 ol : x.H.order.length = H.order.length
 sl : x.H.seats.length = H.seats.length
 rest : x.H.words = H.words ∧ x.H.oops = H.oops ∧ x.H.mark = H.mark ∧ x.H.bits = H.bits ∧ x.H.low = H.low ∧ x.H.count = H.count
 tk : x.turns ≤ k
 off : ∀ o, o = 0 ∨ (S.getD (o - 1) noTh).there = false → x.H.seats.getD o (0, 0, 0) = H.seats.getD o (0, 0, 0)
 still : ∀ i, (S.getD i noTh).there = false → T.getD i noTh = S.getD i noTh
 ahead : ∀ i, (S.getD i noTh).there = true → k ≤ (H.seats.getD (i + 1) (0, 0, 0)).2.2 → x.H.seats.getD (i + 1) (0, 0, 0) = H.seats.getD (i + 1) (0, 0, 0) ∧ T.getD i noTh = S.getD i noTh ∧ x.en ≤ (S.getD i noTh).place
 done : ∀ i, (S.getD i noTh).there = true → (H.seats.getD (i + 1) (0, 0, 0)).2.2 < k → ∃ t, x.H.seats.getD (i + 1) (0, 0, 0) = ((T.getD i noTh).place, lenN (S.getD i noTh).slots.length (S.getD i noTh).fmt, t) ∧ t < x.turns ∧ x.H.order.getD t 0 = i + 1 ∧
  (T.getD i noTh).place + lenN (S.getD i noTh).slots.length (S.getD i noTh).fmt ≤ x.en ∧ 2 * t ≤ (T.getD i noTh).place ∧ ∀ d, d < lenN (S.getD i noTh).slots.length (S.getD i noTh).fmt → x.H.mem.getD ((T.getD i noTh).place + d) 0 = H.mem.getD ((S.getD i noTh).place + d) 0
 ord : ∀ r, r < x.turns → ∃ i, x.H.order.getD r 0 = i + 1 ∧ (S.getD i noTh).there = true ∧ (H.seats.getD (i + 1) (0, 0, 0)).2.2 < k ∧ (x.H.seats.getD (i + 1) (0, 0, 0)).2.2 = r
 ordA : ∀ r, k ≤ r → x.H.order.getD r 0 = H.order.getD r 0
 rise : ∀ i j, i < j → j < x.turns → (x.H.seats.getD (x.H.order.getD i 0) (0, 0, 0)).1 + (x.H.seats.getD (x.H.order.getD i 0) (0, 0, 0)).2.1 ≤ (x.H.seats.getD (x.H.order.getD j 0) (0, 0, 0)).1
 memA : ∀ p, x.en ≤ p → x.H.mem.getD p 0 = H.mem.getD p 0
 cov : ∀ p, p < x.en → ∃ i, (S.getD i noTh).there = true ∧ (H.seats.getD (i + 1) (0, 0, 0)).2.2 < k ∧ (T.getD i noTh).place ≤ p ∧ p < (T.getD i noTh).place + lenN (S.getD i noTh).slots.length (S.getD i noTh).fmt
 deep : 2 * x.turns ≤ x.en
 top : 0 < x.en → ∃ i, (S.getD i noTh).there = true ∧ (H.seats.getD (i + 1) (0, 0, 0)).2.2 < k ∧ (T.getD i noTh).place + lenN (S.getD i noTh).slots.length (S.getD i noTh).fmt = x.en
theorem mid_start (H : HS) (S : List Th) : Mid H S 0 ⟨H, 0, 0⟩ S where
 alike := Alike.refl S
 run := fun r => by rw [show (⟨H, 0, 0⟩ : Sl).turns + r = r from Nat.zero_add r]
 ml := rfl
 ol := rfl
 sl := rfl
 rest := ⟨rfl, rfl, rfl, rfl, rfl, rfl⟩
 tk := Nat.le_refl _
 off := fun _ _ => rfl
 still := fun _ _ => rfl
 ahead := fun _ _ _ => ⟨rfl, rfl, Nat.zero_le _⟩
 done := fun _ _ h => by omega
 ord := fun r h => absurd h (Nat.not_lt_zero r)
 ordA := fun _ _ => rfl
 rise := fun i j _ h => absurd h (Nat.not_lt_zero j)
 memA := fun _ _ => rfl
 cov := fun p h => absurd h (Nat.not_lt_zero p)
 deep := Nat.le_refl _
 top := fun h => absurd h (Nat.not_lt_zero _)
theorem Mid.skip {H : HS} {M : MS} {k : Nat} {x : Sl} {T : List Th} (hv : InvV H M) (h : Mid H M.things k x T) (h0 : H.order.getD k 0 = 0) : Mid H M.things (k + 1) x T := by
 have hne : ∀ i, (M.things.getD i noTh).there = true → (H.seats.getD (i + 1) (0, 0, 0)).2.2 ≠ k := fun i hb e => by
  have := (hv.turn i (th_in hb) hb).2
  rw [e] at this
  omega
 exact {
  alike := h.alike
  run := h.run
  ml := h.ml
  ol := h.ol
  sl := h.sl
  rest := h.rest
  tk := Nat.le_succ_of_le h.tk
  off := h.off
  still := h.still
  ahead := fun i hb hk => h.ahead i hb (by omega)
  done := fun i hb hk => h.done i hb (by have := hne i hb; omega)
  ord := fun r hr => by
   obtain ⟨i, i1, i2, i3, i4⟩ := h.ord r hr
   exact ⟨i, i1, i2, by omega, i4⟩
  ordA := fun r hr => h.ordA r (by omega)
  rise := h.rise
  memA := h.memA
  cov := fun p hp => by
   obtain ⟨i, i1, i2, i3⟩ := h.cov p hp
   exact ⟨i, i1, by omega, i3⟩
  deep := h.deep
  top := fun hp => by
   obtain ⟨i, i1, i2, i3⟩ := h.top hp
   exact ⟨i, i1, by omega, i3⟩ }
theorem Mid.stepOk {H : HS} {M : MS} {k : Nat} {x : Sl} {T : List Th} (hv : InvV H M) (h : Mid H M.things k x T) (hk : k < H.order.length) (h0 : H.order.getD k 0 ≠ 0) :
  ∃ i0, H.order.getD k 0 = i0 + 1 ∧ i0 < M.things.length ∧ (M.things.getD i0 noTh).there = true ∧ (H.seats.getD (i0 + 1) (0, 0, 0)).2.2 = k ∧ (H.seats.getD (i0 + 1) (0, 0, 0)).1 = (M.things.getD i0 noTh).place ∧
   (H.seats.getD (i0 + 1) (0, 0, 0)).2.1 = lenN (M.things.getD i0 noTh).slots.length (M.things.getD i0 noTh).fmt ∧ (M.things.getD i0 noTh).place + lenN (M.things.getD i0 noTh).slots.length (M.things.getD i0 noTh).fmt ≤ H.mem.length ∧ x.en ≤ (M.things.getD i0 noTh).place ∧
   x.H.seats.getD (i0 + 1) (0, 0, 0) = H.seats.getD (i0 + 1) (0, 0, 0) ∧ T.getD i0 noTh = M.things.getD i0 noTh ∧ i0 + 1 < H.seats.length ∧ StepOk x (i0 + 1) := by
 obtain ⟨o1, o2, o3⟩ := hv.order k hk h0
 obtain ⟨i0, hi0⟩ : ∃ i0, H.order.getD k 0 = i0 + 1 := ⟨H.order.getD k 0 - 1, by omega⟩
 rw [hi0] at o1 o2 o3
 rw [Nat.add_sub_cancel] at o2
 obtain ⟨s1, s2⟩ := hv.seat i0 (by omega) o2
 have hr := (hv.is i0 (by omega) o2).room
 rw [s1] at hr
 obtain ⟨a1, a2, a3⟩ := h.ahead i0 o2 (by omega)
 have hL := hv.seatIn i0 (by omega) o2
 have h2 := lenN_two (M.things.getD i0 noTh).slots.length (M.things.getD i0 noTh).fmt
 have hml := h.ml
 have hsl := h.sl
 exact ⟨i0, hi0, by omega, o2, o3, s1, s2, hr, a3, a1, a2, by omega, by omega, by rw [a1]; omega, by rw [a1, hml]; omega, by rw [a1, hml]; omega⟩
theorem getD_seat (L : List (Nat × Nat × Nat)) (k i : Nat) (v : Nat × Nat × Nat) (hk : k < L.length) : (L.set k v).getD i (0, 0, 0) = if i = k then v else L.getD i (0, 0, 0) := by
 rw [List.getD_eq_getElem?_getD, List.getElem?_set]
 by_cases e : k = i
 ·rw [if_pos e, if_pos e.symm, if_pos hk]; rfl
 ·rw [if_neg e, if_neg (fun e2 => e e2.symm), List.getD_eq_getElem?_getD]
theorem getD_nat (L : List Nat) (k i : Nat) (v : Nat) (hk : k < L.length) : (L.set k v).getD i 0 = if i = k then v else L.getD i 0 := by
 rw [List.getD_eq_getElem?_getD, List.getElem?_set]
 by_cases e : k = i
 ·rw [if_pos e, if_pos e.symm, if_pos hk]; rfl
 ·rw [if_neg e, if_neg (fun e2 => e e2.symm), List.getD_eq_getElem?_getD]
theorem getD_piece (L : List Int) (p n d : Nat) (hd : d < n) : ((L.drop p).take n).getD d 0 = L.getD (p + d) 0 := by
 rw [List.getD_eq_getElem?_getD, List.getD_eq_getElem?_getD, List.getElem?_take, if_pos hd, List.getElem?_drop]
theorem Mid.next {H : HS} {M : MS} {k : Nat} {x : Sl} {T : List Th} (hv : InvV H M) (h : Mid H M.things k x T) (hk : k < H.order.length) (h0 : H.order.getD k 0 ≠ 0) : ∃ T', Mid H M.things (k + 1) (slideStep x k) T' := by
 obtain ⟨i0, hi0, hlt, hb, ht, s1, s2, hr, hen, xs, hT, hsl, -⟩ := h.stepOk hv hk h0
 have h2 := lenN_two (M.things.getD i0 noTh).slots.length (M.things.getD i0 noTh).fmt
 have hxo : x.H.order.getD k 0 = i0 + 1 := by rw [h.ordA k (Nat.le_refl _)]; exact hi0
 have hml := h.ml
 have hol := h.ol
 have hxsl := h.sl
 have htk := h.tk
 have hTl := h.alike.len
 have hstep : slideStep x k = ⟨{ x.H with mem := splice x.H.mem x.en ((x.H.mem.drop (M.things.getD i0 noTh).place).take (lenN (M.things.getD i0 noTh).slots.length (M.things.getD i0 noTh).fmt)), seats := x.H.seats.set (i0 + 1) (x.en, lenN (M.things.getD i0 noTh).slots.length (M.things.getD i0 noTh).fmt, x.turns), order := x.H.order.set x.turns (i0 + 1) }, x.turns + 1, x.en + lenN (M.things.getD i0 noTh).slots.length (M.things.getD i0 noTh).fmt⟩ := by
  unfold slideStep
  rw [if_neg (by omega), hxo, xs, s1, s2]
 rw [hstep]
 have hg := fun i => getD_set T i0 i (placed (T.getD i0 noTh) x.en) (by omega)
 have hS := fun i => getD_seat x.H.seats (i0 + 1) i (x.en, lenN (M.things.getD i0 noTh).slots.length (M.things.getD i0 noTh).fmt, x.turns) (by omega)
 have hO := fun i => getD_nat x.H.order x.turns i (i0 + 1) (by omega)
 have hpl : ((x.H.mem.drop (M.things.getD i0 noTh).place).take (lenN (M.things.getD i0 noTh).slots.length (M.things.getD i0 noTh).fmt)).length = lenN (M.things.getD i0 noTh).slots.length (M.things.getD i0 noTh).fmt := by rw [List.length_take, List.length_drop]; omega
 have hM := fun p => splice_at x.H.mem ((x.H.mem.drop (M.things.getD i0 noTh).place).take (lenN (M.things.getD i0 noTh).slots.length (M.things.getD i0 noTh).fmt)) x.en p (by rw [hpl]; omega)
 rw [hpl] at hM
 have hMl := length_splice x.H.mem x.en ((x.H.mem.drop (M.things.getD i0 noTh).place).take (lenN (M.things.getD i0 noTh).slots.length (M.things.getD i0 noTh).fmt)) (by rw [hpl]; omega)
 have hpc := fun d hd => getD_piece x.H.mem (M.things.getD i0 noTh).place (lenN (M.things.getD i0 noTh).slots.length (M.things.getD i0 noTh).fmt) d hd
 have hat : ∀ i, (M.things.getD i noTh).there = true → (H.seats.getD (i + 1) (0, 0, 0)).2.2 = k → i = i0 := fun i hbi e => by
  have := (hv.turn i (th_in hbi) hbi).2
  rw [e] at this
  omega
 have hafter : ∀ i, (M.things.getD i noTh).there = true → k < (H.seats.getD (i + 1) (0, 0, 0)).2.2 → (M.things.getD i0 noTh).place + lenN (M.things.getD i0 noTh).slots.length (M.things.getD i0 noTh).fmt ≤ (M.things.getD i noTh).place := fun i hbi hlt2 => by
  obtain ⟨u1, u2⟩ := hv.turn i (th_in hbi) hbi
  have := hv.rise k _ hlt2 u1 h0 (by rw [u2]; omega)
  rw [u2, hi0, s1, s2, (hv.seat i (th_in hbi) hbi).1] at this
  exact this
 have hpick : pickTo T x.en T.length = some i0 := by
  refine pickTo_is T x.en i0 (by rw [hT]; exact hb) (by rw [hT]; exact hen) (fun i hne hbi hA => ?_) _ (by omega)
  have hbi2 : (M.things.getD i noTh).there = true := by rw [← (h.alike.at_ i).1]; exact hbi
  have h2i := lenN_two (M.things.getD i noTh).slots.length (M.things.getD i noTh).fmt
  rcases Nat.lt_trichotomy (H.seats.getD (i + 1) (0, 0, 0)).2.2 k with e | e | e
  ·obtain ⟨t, t1, t2, t3, t4, t5⟩ := h.done i hbi2 e
   omega
  ·exact absurd (hat i hbi2 e) hne
  ·have := hafter i hbi2 e
   obtain ⟨a1, a2, a3⟩ := h.ahead i hbi2 (by omega)
   rw [hT, a2]
   omega
 generalize hLn : lenN (M.things.getD i0 noTh).slots.length (M.things.getD i0 noTh).fmt = L0 at *
 generalize hsp : splice x.H.mem x.en ((x.H.mem.drop (M.things.getD i0 noTh).place).take L0) = MM at *
 generalize hse : x.H.seats.set (i0 + 1) (x.en, L0, x.turns) = SS at *
 generalize hoe : x.H.order.set x.turns (i0 + 1) = OO at *
 have hSl : SS.length = x.H.seats.length := by rw [← hse, List.length_set]
 have hOl : OO.length = x.H.order.length := by rw [← hoe, List.length_set]
 refine ⟨T.set i0 (placed (T.getD i0 noTh) x.en), ?_⟩
 have hrun := fun r => slidN_some T x.en r i0 hpick
 have halike := h.alike.place i0 x.en (by omega)
 generalize hTe : T.set i0 (placed (T.getD i0 noTh) x.en) = T' at *
 have hT0 : (T'.getD i0 noTh).place = x.en := by rw [hg, if_pos rfl]; rfl
 have hTo : ∀ i, i ≠ i0 → T'.getD i noTh = T.getD i noTh := fun i hne => by rw [hg, if_neg hne]
 have hS0 : SS.getD (i0 + 1) (0, 0, 0) = (x.en, L0, x.turns) := by rw [hS, if_pos rfl]
 have hSo : ∀ i, i ≠ i0 → SS.getD (i + 1) (0, 0, 0) = x.H.seats.getD (i + 1) (0, 0, 0) := fun i hne => by rw [hS, if_neg (by omega)]
 exact {
  alike := halike
  run := fun r => by
   show slidN M.things 0 (x.turns + 1 + r) = slidN T' (x.en + L0) r
   rw [Nat.add_assoc, Nat.add_comm 1 r, h.run (r + 1), hrun r, hT, hLn]
  ml := by show MM.length = _; omega
  ol := by show OO.length = _; omega
  sl := by show SS.length = _; omega
  rest := h.rest
  tk := by show x.turns + 1 ≤ k + 1; omega
  off := fun o ho => by
   show SS.getD o (0, 0, 0) = _
   rw [hS, if_neg (fun e => by
    rcases ho with ho | ho
    ·omega
    ·rw [e, Nat.add_sub_cancel, hb] at ho; cases ho)]
   exact h.off o ho
  still := fun i hi => by
   rw [hTo i (fun e => by rw [e, hb] at hi; cases hi)]
   exact h.still i hi
  ahead := fun i hbi hki => by
   have hne : i ≠ i0 := fun e => by rw [e, ht] at hki; omega
   obtain ⟨a1, a2, a3⟩ := h.ahead i hbi (by omega)
   have := hafter i hbi (by omega)
   refine ⟨?_, by rw [hTo i hne]; exact a2, ?_⟩
   ·show SS.getD (i + 1) (0, 0, 0) = _
    rw [hSo i hne]; exact a1
   ·show x.en + L0 ≤ _; omega
  done := fun i hbi hki => by
   show ∃ t, SS.getD (i + 1) (0, 0, 0) = _ ∧ t < x.turns + 1 ∧ OO.getD t 0 = i + 1 ∧ _ ≤ x.en + L0 ∧ _ ∧ ∀ d, _ → MM.getD _ 0 = _
   by_cases e : i = i0
   ·subst e
    rw [hT0, hLn]
    refine ⟨x.turns, hS0, by omega, by rw [hO, if_pos rfl], Nat.le_refl _, h.deep, fun d hd => ?_⟩
    rw [hM, if_pos (by omega), Nat.add_sub_cancel_left, hpc d hd, h.memA _ (by omega)]
   ·have hne : (H.seats.getD (i + 1) (0, 0, 0)).2.2 ≠ k := fun e2 => e (hat i hbi e2)
    obtain ⟨t, t1, t2, t3, t4, t5, t6⟩ := h.done i hbi (by omega)
    rw [hTo i e]
    refine ⟨t, by rw [hSo i e]; exact t1, by omega, by rw [hO, if_neg (by omega)]; exact t3, by omega, t5, fun d hd => ?_⟩
    rw [hM, if_neg (by omega)]
    exact t6 d hd
  ord := fun r hr => by
   have hr2 : r < x.turns + 1 := hr
   show ∃ i, OO.getD r 0 = i + 1 ∧ _ ∧ _ ∧ (SS.getD (i + 1) (0, 0, 0)).2.2 = r
   by_cases e : r = x.turns
   ·exact ⟨i0, by rw [hO, if_pos e], hb, by omega, by rw [hS0, e]⟩
   ·obtain ⟨i, i1, i2, i3, i4⟩ := h.ord r (by omega)
    have hne : i ≠ i0 := fun e2 => by rw [e2, ht] at i3; omega
    exact ⟨i, by rw [hO, if_neg e]; exact i1, i2, by omega, by rw [hSo i hne]; exact i4⟩
  ordA := fun r hr => by
   show OO.getD r 0 = _
   rw [hO, if_neg (by omega)]
   exact h.ordA r (by omega)
  rise := fun i j hij hj => by
   have hj2 : j < x.turns + 1 := hj
   show (SS.getD (OO.getD i 0) (0, 0, 0)).1 + (SS.getD (OO.getD i 0) (0, 0, 0)).2.1 ≤ (SS.getD (OO.getD j 0) (0, 0, 0)).1
   obtain ⟨q, q1, q2, q3, q4⟩ := h.ord i (by omega)
   have hqn : q ≠ i0 := fun e2 => by rw [e2, ht] at q3; omega
   have hi3 := h.rise i j hij
   rw [hO i, if_neg (by omega), q1, hSo q hqn]
   by_cases e : j = x.turns
   ·rw [hO j, if_pos e, hS0]
    obtain ⟨t, t1, t2, t3, t4, t5, t6⟩ := h.done q q2 q3
    rw [t1]
    exact t4
   ·obtain ⟨z, z1, z2, z3, z4⟩ := h.ord j (by omega)
    have hzn : z ≠ i0 := fun e2 => by rw [e2, ht] at z3; omega
    have := hi3 (by omega)
    rw [q1, z1] at this
    rw [hO j, if_neg e, z1, hSo z hzn]
    exact this
  memA := fun p hp => by
   have hp2 : x.en + L0 ≤ p := hp
   show MM.getD p 0 = _
   rw [hM, if_neg (by omega)]
   exact h.memA p (by omega)
  cov := fun p hp => by
   have hp2 : p < x.en + L0 := hp
   by_cases e : p < x.en
   ·obtain ⟨i, i1, i2, i3, i4⟩ := h.cov p e
    have hne : i ≠ i0 := fun e2 => by rw [e2, ht] at i2; omega
    exact ⟨i, i1, by omega, by rw [hTo i hne]; exact i3, by rw [hTo i hne]; exact i4⟩
   ·exact ⟨i0, hb, by omega, by rw [hT0]; omega, by rw [hT0, hLn]; exact hp2⟩
  deep := by have := h.deep; show 2 * (x.turns + 1) ≤ x.en + L0; omega
  top := fun _ => ⟨i0, hb, by omega, by rw [hT0, hLn]⟩ }
theorem InvV.mid {H : HS} {M : MS} (hv : InvV H M) : ∀ k, k ≤ H.order.length → ∃ T, Mid H M.things k (slideTo H k) T := by
 intro k
 induction k with
 | zero => intro _; exact ⟨_, mid_start H M.things⟩
 | succ k ih =>
  intro hk
  obtain ⟨T, h⟩ := ih (by omega)
  show ∃ T, Mid H M.things (k + 1) (slideStep (slideTo H k) k) T
  by_cases h0 : H.order.getD k 0 = 0
  ·have e : slideStep (slideTo H k) k = slideTo H k := by
    unfold slideStep
    rw [if_pos (by rw [h.ordA k (Nat.le_refl _)]; exact h0)]
   rw [e]
   exact ⟨T, h.skip hv h0⟩
  ·exact h.next hv (by omega) h0
theorem InvV.slideOk {H : HS} {M : MS} (hv : InvV H M) : SlideOk H where
 step := fun k hk hne => by
  obtain ⟨T, h⟩ := hv.mid k (by omega)
  have e := h.ordA k (Nat.le_refl _)
  rw [e] at hne ⊢
  obtain ⟨i0, hi0, _, _, _, _, _, _, _, _, _, _, hs⟩ := h.stepOk hv hk hne
  rw [hi0]
  exact hs
 m1 := by have := hv.safe.small.mem; have := hv.safe.small.words; omega
 r1 := by have := hv.safe.order; omega
 t1 := by have := hv.safe.seats; omega
end Go.Proofs.YtklfnjlenbgmoaaDoor
