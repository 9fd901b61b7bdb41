import Derived.Test.YtalcnihagnnkaaaDoorKHBackP
import Derived.Test.YtalcnihagnnkaaaDoorKHStep
import Derived.Test.YtalcnihagnnkaaaDoorKHStateX
import Derived.Test.YtalcnihagnnkaaaDoorKHSameM
namespace Go.Proofs.YtalcnihagnnkaaaDoor
open Go.RowKit
set_option linter.unusedVariables false
attribute [local go_sem ↓] Go.wp_at_zero Go.wp_at_succ
theorem Behind.lay {H0 H : HS} {M0 M : MS} (h : Behind H0 M0 H M) (k : Nat) (hk : LowTo H.bits H.low k) (cl : Int) (n f : Nat) (hf : f ≤ 1) (hn : n ≤ 8192) (hr1 : H.count < H.oops) (hr2 : H.mem.length + lenN n f ≤ H.words) :
    ∃ M', Behind H0 M0 (layH { H with mark := H.mark - 1, low := k } (lowTo M.things) cl n f) M' ∧ lowTo M.things - 1 < M'.things.length ∧ (M'.things.getD (lowTo M.things - 1) noTh).there = true ∧ (M0.things.getD (lowTo M.things - 1) noTh).there = false ∧ (M'.things.getD (lowTo M.things - 1) noTh).slots.length = n := by
  have hinv := h.inv.lay k hk cl n f none none 0 0 hf hn hr1 hr2
  have hle := lowTo_le M.things
  obtain ⟨f1, f2⟩ := lowTo_free M.things
  have hp : 1 ≤ lowTo M.things := by unfold lowTo; omega
  have hnew : (M0.things.getD (lowTo M.things - 1) noTh).there = false := by
    cases hb : (M0.things.getD (lowTo M.things - 1) noTh).there with
    | false => rfl
    | true => rw [h.same _ hb, hb] at f1; cases f1
  obtain ⟨p1, p2⟩ := putTh_len M.things (lowTo M.things - 1) ⟨true, cl, f, endTo M.things M.things.length, List.replicate n (newX f), none, 0⟩ (by omega)
  have hat := putTh_at M.things (lowTo M.things - 1) ⟨true, cl, f, endTo M.things M.things.length, List.replicate n (newX f), none, 0⟩ (by omega)
  have hordl : (layH { H with mark := H.mark - 1, low := k } (lowTo M.things) cl n f).order = H.order ++ [lowTo M.things] := rfl
  refine ⟨_, ⟨hinv, h.age, h.words, h.oops, ?_, ?_, ?_, ?_, ?_, ?_⟩, p1, ?_, hnew, ?_⟩
  · show H.mark - 1 = 0; rw [h.mark]
  · rw [hordl, List.length_append]; have := h.len; omega
  · intro j hj
    have := h.len
    rw [hordl, List.getD_eq_getElem?_getD, List.getElem?_append_left (by omega), ← List.getD_eq_getElem?_getD]
    exact h.old j hj
  · intro j h1 h2
    rw [hordl] at h2 ⊢
    rw [List.length_append] at h2
    by_cases e : j < H.order.length
    · rw [List.getD_eq_getElem?_getD, List.getElem?_append_left e, ← List.getD_eq_getElem?_getD]
      exact h.young j h1 e
    · have e2 : j = H.order.length := by simp at h2; omega
      rw [e2, List.getD_eq_getElem?_getD, List.getElem?_append_right (Nat.le_refl _)]
      simp
      omega
  · show M0.things.length ≤ (putTh M.things _ _).length
    have := h.tl
    unfold putTh
    split
    · rw [List.length_set]; exact this
    · rw [List.length_append]; omega
  · intro j hb
    have hbj := h.same j hb
    have hj : j ≠ lowTo M.things - 1 := fun e => by rw [e, hnew] at hb; cases hb
    show (putTh M.things _ _).getD j noTh = _
    have hjl : j < M.things.length := th_in (by rw [hbj]; exact hb)
    rw [hat j ?_, if_neg hj]
    · exact hbj
    · unfold putTh
      split
      · rw [List.length_set]; exact hjl
      · rw [List.length_append]; omega
  · show ((putTh M.things _ _).getD _ noTh).there = true
    rw [hat _ p1, if_pos rfl]
  · show ((putTh M.things _ _).getD _ noTh).slots.length = n
    rw [hat _ p1, if_pos rfl]
    simp
/-- a young one is turned -/
theorem Behind.turned {H0 H H' : HS} {M0 M : MS} (h : Behind H0 M0 H M) (q : Nat) (hq : q < M.things.length) (t' : Th) (hn : (M0.things.getD q noTh).there = false) (hinv : Inv H' { M with things := M.things.set q t' }) (ha : H'.age = H.age) (hw : H'.words = H.words) (ho : H'.oops = H.oops) (hm : H'.mark = H.mark) (hr : H'.order = H.order) : Behind H0 M0 H' { M with things := M.things.set q t' } := by
  refine ⟨hinv, ha.trans h.age, hw.trans h.words, ho.trans h.oops, hm.trans h.mark, by rw [hr]; exact h.len, fun j hj => by rw [hr]; exact h.old j hj, fun j h1 h2 => by rw [hr] at h2 ⊢; exact h.young j h1 h2, by show M0.things.length ≤ (M.things.set q t').length; rw [List.length_set]; exact h.tl, fun k hb => ?_⟩
  show (M.things.set q t').getD k noTh = _
  rw [getD_set _ _ _ _ hq, if_neg (fun e => by rw [e, hn] at hb; cases hb)]
  exact h.same k hb
/-- a slot is written, and the relation stands -/
theorem Put_inv2 (k i : Nat) (v : Int) (a : Nat) (l : Lay) (H : HS) (M : MS) (w : World) (h : Rep w a l H) (hi : Inv H M) (hk : k < M.things.length) (hb : (M.things.getD k noTh).there = true) (hil : i < (M.things.getD k noTh).slots.length) (hm : mayB v ((M.things.getD k noTh).fmt : Int) = true) (hT : Tab w) :
    ∃ H', Inv H' { M with things := M.things.set k (withSlot (M.things.getD k noTh) i v) } ∧ H'.age = H.age ∧ H'.words = H.words ∧ H'.oops = H.oops ∧ H'.mark = H.mark ∧ H'.order = H.order ∧ Calls Tryd.prog 29 #[.pointer (some ⟨a, 0, none⟩), .int .i64 ((k : Int) + 1), .int .i64 i, .int .i64 v] w fun e w' => e = .returned (.int .i64 0) ∧ Rep w' a l H' ∧ Nx a l l w w' := by
  have hI := hi.is k hk hb
  obtain ⟨h1, h2, h3⟩ := has_yes hI.has
  have hmem : (H.mem.length : Int) ≤ 1048576 := by have := hi.safe.small.mem; have := hi.safe.small.words; omega
  have hroom := hI.room
  have h22 := lenN_two (M.things.getD k noTh).slots.length (M.things.getD k noTh).fmt
  have hfl := hI.fmt
  have hlen := hI.len
  have e1 : ((k + 1 : Nat) : Int) = (k : Int) + 1 := by omega
  rw [← e1]
  rcases (show (M.things.getD k noTh).fmt = 0 ∨ (M.things.getD k noTh).fmt = 1 from by omega) with hf | hf
  · have hw := lenN_word (M.things.getD k noTh).slots.length i (M.things.getD k noTh).fmt hf hil
    refine ⟨_, hi.putW k hk hb i v hil hf, rfl, rfl, rfl, rfl, rfl, ?_⟩
    exact Put_ok (k + 1) i (M.things.getD k noTh).slots.length (M.things.getD k noTh).fmt v a l H _ w h hmem h1 h2 h3 (by omega) hI.shape (by omega) (by omega) (by omega) hm hT (fun V hV => by
      rw [hf]
      exact setSlot_w (H.seats.getD (k + 1) (0, 0, 0)) i v a l H V hV (by omega) hmem)
  · have hw := lenN_byte (M.things.getD k noTh).slots.length i hil
    rw [← hf] at hw
    obtain ⟨old, o1, o2, o3⟩ := hI.byte hf i hil
    have hv : 0 ≤ v ∧ v ≤ 255 := by
      unfold mayB at hm
      rw [if_pos (by omega)] at hm
      exact of_decide_eq_true hm
    obtain ⟨vn, rfl⟩ : ∃ vn : Nat, v = (vn : Int) := ⟨v.toNat, by omega⟩
    refine ⟨_, hi.putB' k hk hb i vn old hil hf (by omega) o1 o2, rfl, rfl, rfl, rfl, rfl, ?_⟩
    exact Put_ok (k + 1) i (M.things.getD k noTh).slots.length (M.things.getD k noTh).fmt vn a l H _ w h hmem h1 h2 h3 (by omega) hI.shape (by omega) (by omega) (by omega) hm hT (fun V hV => by
      rw [hf]
      exact setB_any (H.seats.getD (k + 1) (0, 0, 0)) i vn old a l H V hV (by omega) hmem o1 (by omega) (by omega) o2)
/-- an allocation behind the point -/
theorem allocB (H0 : HS) (M0 : MS) (X A B : Int) (w0 : World) (a m : Nat) (W : World) (l : Lay) (H : HS) (M MM : MS) (hS : Side w0 a m W l H MM) (hb : Behind H0 M0 H M) (hT : Tab w0) (hT2 : Tab64 w0) (h2 : 2 ≤ w0.heap.size) :
    Calls Tryd.prog 14 #[.pointer (some ⟨a, 0, none⟩), .int .i64 X, .int .i64 A, .int .i64 B] W fun e w' => ∃ (oop er : Int) (l' : Lay) (H' : HS) (M' : MS), e = .returned (.tuple #[.int .i64 oop, .int .i64 er]) ∧ Side w0 a m w' l' H' MM ∧ Behind H0 M0 H' M' ∧ Nx a l l' W w' ∧ 0 ≤ er ∧ er ≤ 100 ∧ ((er == 0) = false ∨ ((er == 0) = true ∧ ∃ q : Nat, oop = (q : Int) + 1 ∧ q < M'.things.length ∧ (M'.things.getD q noTh).there = true ∧ (M0.things.getD q noTh).there = false)) := by
  have hT3 := tab_of hT h2 hS.fr
  have ha : 2 ≤ a := Nat.le_trans h2 (hS.geh a (by simp [foot]))
  have hsm := hb.inv.safe.small
  by_cases hbad : isW X = false ∨ isF B = false ∨ A < 0
  · refine Calls.mono (Alloc_arg X A B a l H W hS.rep hT3 hbad) ?_
    rintro e w' ⟨rfl, rfl⟩
    exact ⟨0, 1, l, H, M, rfl, hS, hb, Nx.refl _ _ _, by omega, by omega, .inl rfl⟩
  · have hW : isW X = true := by cases hx : isW X with | true => rfl | false => exact absurd (.inl hx) hbad
    have hF : isF B = true := by cases hx : isF B with | true => rfl | false => exact absurd (.inr (.inl hx)) hbad
    have hB : B = 0 ∨ B = 1 := by unfold isF at hF; simpa using hF
    obtain ⟨n, rfl⟩ : ∃ n : Nat, A = (n : Int) := ⟨A.toNat, by omega⟩
    obtain ⟨f, rfl⟩ : ∃ f : Nat, B = (f : Int) := ⟨B.toNat, by omega⟩
    by_cases hbig : 8192 < (n : Int)
    · refine Calls.mono (Alloc_size X n f a l H W hS.rep hT3 hW hF hbig) ?_
      rintro e w' ⟨rfl, rfl⟩
      exact ⟨0, 22, l, H, M, rfl, hS, hb, Nx.refl _ _ _, by omega, by omega, .inl rfl⟩
    · by_cases hfull : H.oops = H.count ∨ H.words < H.mem.length + lenN n f
      · refine Calls.mono (Alloc_full X n f a l H W hS.rep hsm hT3 hW (by omega) (by omega) hfull) ?_
        rintro e w' ⟨rfl, k, rfl⟩
        exact ⟨0, 23, l, H, M, rfl, hS.drewN k, hb, Nx.frw (Fr.drewN _ _ _), by omega, by omega, .inl rfl⟩
      · have hr1 : H.count < H.oops := by have := hsm.count; omega
        have hr2 : H.mem.length + lenN n f ≤ H.words := by omega
        refine Calls.mono (Alloc_ok X n f a l H W hS.rep hb.inv.safe hT3 (hT2.keep hS.fr (by omega) (by simp)) ha hW (by omega) (by omega) hr1 hr2 (by rw [hb.mark]; omega)) ?_
        rintro e w' ⟨k, hk1, hk2, rfl, l', hr', hx'⟩
        have hlow := hb.inv.lowest k hk1 hk2
        rw [hlow] at hr' ⊢
        obtain ⟨M', g1, g2, g3, g4, g5⟩ := hb.lay k hk1 X n f (by omega) (by omega) hr1 hr2
        have hp : 1 ≤ lowTo M.things := by unfold lowTo; omega
        exact ⟨_, 0, l', _, M', rfl, hS.heap hr' hx', g1, hx', by omega, by omega, .inr ⟨rfl, lowTo M.things - 1, by omega, g2, g3, g4⟩⟩
/-- a word is put into a young one -/
theorem putB0 (H0 : HS) (M0 : MS) (X : Int) (q : Nat) (w0 : World) (a m : Nat) (W : World) (l : Lay) (H : HS) (M MM : MS) (hS : Side w0 a m W l H MM) (hb : Behind H0 M0 H M) (hq : q < M.things.length) (ht : (M.things.getD q noTh).there = true) (hn : (M0.things.getD q noTh).there = false) (hT : Tab w0) (h2 : 2 ≤ w0.heap.size) :
    Calls Tryd.prog 29 #[.pointer (some ⟨a, 0, none⟩), .int .i64 ((q : Int) + 1), .int .i64 0, .int .i64 X] W fun e w' => ∃ (er : Int) (H' : HS) (M' : MS), e = .returned (.int .i64 er) ∧ Side w0 a m w' l H' MM ∧ Behind H0 M0 H' M' ∧ Nx a l l W w' ∧ q < M'.things.length ∧ (M'.things.getD q noTh).there = true := by
  have hT3 := tab_of hT h2 hS.fr
  have hI := hb.inv.is q hq ht
  have hsm := hb.inv.safe.small
  have hmem : (H.mem.length : Int) ≤ 1048576 := by have := hsm.mem; have := hsm.words; omega
  have h22 := lenN_two (M.things.getD q noTh).slots.length (M.things.getD q noTh).fmt
  have hroom := hI.room
  have hfm := hI.fmt
  have e1 : (q : Int) + 1 = ((q + 1 : Nat) : Int) := by omega
  by_cases h0 : (M.things.getD q noTh).slots.length = 0
  · rw [e1]
    refine Calls.mono (Put_slot (q + 1) _ _ 0 X a l H W hS.rep hI.has hmem (by omega) hI.shape (by omega) (.inr (by omega))) ?_
    rintro e w' ⟨rfl, hf⟩
    exact ⟨21, H, M, rfl, hS.idle hf, hb, Nx.frw (hf.mono (by simp)), hq, ht⟩
  · cases hX : mayB X ((M.things.getD q noTh).fmt : Int) with
    | false =>
      rw [e1]
      have := Put_word (q + 1) 0 _ _ X a l H W hS.rep hI.has hmem (by omega) hI.shape (by omega) (by omega) hX hT3
      refine Calls.mono this ?_
      rintro e w' ⟨rfl, hf⟩
      exact ⟨10, H, M, rfl, hS.idle hf, hb, Nx.frw (hf.mono (by simp)), hq, ht⟩
    | true =>
      obtain ⟨H', hinv, hage, hw, ho, hm, hr, hcall⟩ := Put_inv2 q 0 X a l H M W hS.rep hb.inv hq ht (by omega) hX hT3
      refine Calls.mono hcall ?_
      rintro e w' ⟨rfl, hr', hx'⟩
      refine ⟨0, H', _, rfl, hS.heap hr' hx', hb.turned q hq _ hn hinv hage hw ho hm hr, hx', by show q < (M.things.set q _).length; rw [List.length_set]; exact hq, ?_⟩
      show ((M.things.set q _).getD q noTh).there = true
      rw [getD_set _ _ _ _ hq, if_pos rfl]
      exact ht
theorem setB44 (H0 : HS) (M0 : MS) (q : Nat) (w0 : World) (a m : Nat) (W : World) (l : Lay) (H : HS) (M MM : MS) (hS : Side w0 a m W l H MM) (hb : Behind H0 M0 H M) (hq : q < M.things.length) (ht : (M.things.getD q noTh).there = true) (hn : (M0.things.getD q noTh).there = false) (hT : Tab w0) (h2 : 2 ≤ w0.heap.size) :
    Calls Tryd.prog 30 #[.pointer (some ⟨a, 0, none⟩), .int .i64 ((q : Int) + 1), .int .i64 44] W fun e w' => ∃ (er : Int) (H' : HS) (M' : MS), e = .returned (.int .i64 er) ∧ Side w0 a m w' l H' MM ∧ Behind H0 M0 H' M' ∧ Nx a l l W w' := by
  have hT3 := tab_of hT h2 hS.fr
  have hI := hb.inv.is q hq ht
  have hsm := hb.inv.safe.small
  have hmem : (H.mem.length : Int) ≤ 1048576 := by have := hsm.mem; have := hsm.words; omega
  have h22 := lenN_two (M.things.getD q noTh).slots.length (M.things.getD q noTh).fmt
  have hroom := hI.room
  rw [show (q : Int) + 1 = ((q + 1 : Nat) : Int) from by omega]
  refine Calls.mono (SetClass_ok (q + 1) 44 a l H W hS.rep hI.has (by decide) hT3 (by omega) hmem) ?_
  rintro e w' ⟨rfl, hr', hx'⟩
  exact ⟨0, _, _, rfl, hS.heap hr' hx', hb.turned q hq _ hn (hb.inv.setCls q hq ht 44) rfl rfl rfl rfl rfl, hx'⟩
end Go.Proofs.YtalcnihagnnkaaaDoor
