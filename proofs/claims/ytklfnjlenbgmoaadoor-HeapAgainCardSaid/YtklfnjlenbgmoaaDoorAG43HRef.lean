import Derived.Test.YtklfnjlenbgmoaaDoorAG42HTakesM
import Derived.Test.YtklfnjlenbgmoaaDoorAG41HLoadX
import Derived.Test.YtklfnjlenbgmoaaDoorAG05HSeat
import Derived.Test.YtklfnjlenbgmoaaDoorAG14HModelL
import Derived.Test.YtklfnjlenbgmoaaDoorAG15HTold
namespace Go.Proofs.YtklfnjlenbgmoaaDoor
open Go.RowKit
/-- Whether an object may lie in a heap, beside those that do. -/
def takesB (H : HS) (oop cls fmt : Int) (ss : List Int) : Bool :=
  !has H oop && decide (1 ≤ oop) && decide (oop ≤ (H.oops : Int)) && isW cls && isF fmt && decide ((ss.length : Int) ≤ 8192) && decide (lenOf (ss.length : Int) fmt ≤ (H.words : Int) - (H.mem.length : Int)) && ss.all fun x => mayB x fmt
theorem all_bad (f : Int → Bool) : ∀ ss : List Int, (ss.all f) = false → ∃ j, j < ss.length ∧ (∀ i, i < j → f (ss.getD i 0) = true) ∧ f (ss.getD j 0) = false
  | [], h => by simp at h
  | x :: t, h => by
    by_cases hx : f x = true
    · have ht : t.all f = false := by simpa [hx] using h
      obtain ⟨j, hj, hg, hb⟩ := all_bad f t ht
      refine ⟨j + 1, by simpa using hj, fun i hi => ?_, by simpa using hb⟩
      rcases i with _ | i
      · simpa using hx
      · simpa using hg i (by omega)
    · exact ⟨0, by simp, fun i hi => absurd hi (by omega), by simpa using hx⟩
theorem takes_any (oop cls fmt : Int) (ss : List Int) (v : Value) (a : Nat) (l : Lay) (H : HS) (w : World) (h : Rep w a l H) (hs : Small H) (hT : Tab w) (hT0 : 0 < w.heap.size) (ho : Rd w v ss) :
    Calls Tryd.prog 53 #[.pointer (some ⟨a, 0, none⟩), .agg #[.int .i64 oop, .int .i64 cls, .int .i64 fmt, v]] w fun e w' => e = .returned (.bool (takesB H oop cls fmt ss)) ∧ Fr [] w w' := by
  obtain ⟨p, c, rfl, hrow⟩ := ho.at_
  by_cases hh : has H oop = true
  · have e : takesB H oop cls fmt ss = false := by simp [takesB, hh]
    rw [e]
    obtain ⟨m, rfl⟩ : ∃ m : Nat, oop = (m : Int) := ⟨oop.toNat, by have := (of_decide_eq_true hh).1; omega⟩
    exact takes_has m cls fmt p _ c a l H w h hh
  have hh : has H oop = false := by simpa using hh
  by_cases k1 : (1 : Int) ≤ oop
  rotate_left
  · have e : takesB H oop cls fmt ss = false := by simp [takesB, k1]
    rw [e]
    exact takes_oop oop cls fmt p _ c a l H w h hh (Or.inl (by omega))
  by_cases k2 : oop ≤ (H.oops : Int)
  rotate_left
  · have e : takesB H oop cls fmt ss = false := by simp [takesB, k2]
    rw [e]
    exact takes_oop oop cls fmt p _ c a l H w h hh (Or.inr (by omega))
  by_cases hb : isW cls = true
  rotate_left
  · have hb : isW cls = false := by simpa using hb
    have e : takesB H oop cls fmt ss = false := by simp [takesB, hb]
    rw [e]
    exact takes_form oop cls fmt p _ c a l H w h hs hT hT0 hh k1 k2 (Or.inl hb)
  by_cases hb2 : isF fmt = true
  rotate_left
  · have hb2 : isF fmt = false := by simpa using hb2
    have e : takesB H oop cls fmt ss = false := by simp [takesB, hb2]
    rw [e]
    exact takes_form oop cls fmt p _ c a l H w h hs hT hT0 hh k1 k2 (Or.inr (Or.inl ⟨hb, hb2⟩))
  by_cases hb3 : (ss.length : Int) ≤ 8192
  rotate_left
  · have e : takesB H oop cls fmt ss = false := by unfold takesB; rw [decide_eq_false hb3]; simp
    rw [e]
    exact takes_form oop cls fmt p _ c a l H w h hs hT hT0 hh k1 k2 (Or.inr (Or.inr ⟨hb, hb2, by omega⟩))
  by_cases hb4 : lenOf (ss.length : Int) fmt ≤ (H.words : Int) - (H.mem.length : Int)
  rotate_left
  · have e : takesB H oop cls fmt ss = false := by unfold takesB; rw [decide_eq_false hb4]; simp
    rw [e]
    exact takes_room oop cls fmt p _ c a l H w h hs hT hT0 hh k1 k2 hb hb2 hb3 (by omega)
  by_cases hb5 : (ss.all fun x => mayB x fmt) = true
  · have e : takesB H oop cls fmt ss = true := by unfold takesB; rw [hh, decide_eq_true k1, decide_eq_true k2, hb, hb2, decide_eq_true hb3, decide_eq_true hb4, hb5]; rfl
    rw [e]
    have hf : fmt = 0 ∨ fmt = 1 := by simpa [isF] using hb2
    obtain ⟨f, rfl, hf1⟩ : ∃ f : Nat, fmt = (f : Int) ∧ f ≤ 1 := by
      rcases hf with rfl | rfl
      · exact ⟨0, rfl, by omega⟩
      · exact ⟨1, rfl, by omega⟩
    obtain ⟨q, rfl⟩ : ∃ q : Nat, oop = (q : Int) + 1 := ⟨(oop - 1).toNat, by omega⟩
    rw [lenOf_nat] at hb4
    refine takes_yes q cls f ss _ a l H w h hs hT hT0 hh (by omega) hb hf1 (by omega) (by omega) (fun j hj => ?_) ho
    rw [List.all_eq_true] at hb5
    have e : ss.getD j 0 = ss[j] := by rw [List.getD_eq_getElem?_getD, List.getElem?_eq_getElem hj]; rfl
    rw [e]
    exact hb5 _ (List.getElem_mem hj)
  · have hb5 : (ss.all fun x => mayB x fmt) = false := by simpa using hb5
    have e : takesB H oop cls fmt ss = false := by unfold takesB; rw [hb5]; simp
    rw [e]
    obtain ⟨j, hj, hg, hbd⟩ := all_bad _ ss hb5
    obtain ⟨g, off, hp, hgl, hc⟩ := hrow (by omega)
    exact takes_slot oop cls fmt p _ c a l H w h hs hT hT0 hh k1 k2 hb hb2 hb3 hb4 ss g off j hp hgl hc hj hg hbd
end Go.Proofs.YtklfnjlenbgmoaaDoor
namespace Go.Proofs.YtklfnjlenbgmoaaDoor
open Go.RowKit
set_option linter.unusedVariables false
/-- objects laid in a heap one after the other, each taken; the last one first -/
def LdsR (H0 : HS) (M0 : MS) : List (Int × Int × Int × List Int) → HS → MS → Prop
  | [], H, M => H = H0 ∧ M = M0
  | k :: t, H', M' => ∃ (H : HS) (M : MS) (q : Nat) (cls : Int) (fmt : Nat) (ss : List Int), LdsR H0 M0 t H M ∧ takesB H ((q : Int) + 1) cls fmt ss = true ∧ Ld H M q cls fmt ss ss.length H' M' ∧ k = ((q : Int) + 1, cls, (fmt : Int), ss)
/-- objects laid in a heap one after the other, each taken -/
def Lds (H0 : HS) (M0 : MS) (ks : List (Int × Int × Int × List Int)) (H : HS) (M : MS) : Prop := LdsR H0 M0 ks.reverse H M
theorem Lds.nil {H0 : HS} {M0 : MS} : Lds H0 M0 [] H0 M0 := ⟨rfl, rfl⟩
theorem Lds.snoc {H0 : HS} {M0 : MS} {ks : List (Int × Int × Int × List Int)} {H H' : HS} {M M' : MS} (q : Nat) (cls : Int) (fmt : Nat) (ss : List Int) (h : Lds H0 M0 ks H M) (ht : takesB H ((q : Int) + 1) cls fmt ss = true) (hl : Ld H M q cls fmt ss ss.length H' M') : Lds H0 M0 (ks ++ [((q : Int) + 1, cls, (fmt : Int), ss)]) H' M' := by
  unfold Lds
  rw [List.reverse_append]
  exact ⟨H, M, q, cls, fmt, ss, h, ht, hl, rfl⟩
theorem Lds.ind {H0 : HS} {M0 : MS} {C : List (Int × Int × Int × List Int) → HS → MS → Prop} (h0 : C [] H0 M0)
    (h1 : ∀ (ks : List (Int × Int × Int × List Int)) (H H' : HS) (M M' : MS) (q : Nat) (cls : Int) (fmt : Nat) (ss : List Int), Lds H0 M0 ks H M → takesB H ((q : Int) + 1) cls fmt ss = true → Ld H M q cls fmt ss ss.length H' M' → C ks H M → C (ks ++ [((q : Int) + 1, cls, (fmt : Int), ss)]) H' M')
    {ks : List (Int × Int × Int × List Int)} {H : HS} {M : MS} (h : Lds H0 M0 ks H M) : C ks H M := by
  have key : ∀ (r : List (Int × Int × Int × List Int)) (H : HS) (M : MS), LdsR H0 M0 r H M → C r.reverse H M := by
    intro r
    induction r with
    | nil => rintro H M ⟨rfl, rfl⟩; exact h0
    | cons k t ih =>
      rintro H' M' ⟨H, M, q, cls, fmt, ss, h2, ht, hl, rfl⟩
      rw [List.reverse_cons]
      exact h1 _ H H' M M' q cls fmt ss (by unfold Lds; rw [List.reverse_reverse]; exact h2) ht hl (ih H M h2)
  have := key ks.reverse H M h
  rwa [List.reverse_reverse] at this
theorem not_there {H : HS} {M : MS} (h : Inv H M) (q : Nat) (hh : has H ((q : Int) + 1) = false) : (M.things.getD q noTh).there = false := by
  by_cases hq : q < M.things.length
  · cases hb : (M.things.getD q noTh).there with
    | false => rfl
    | true =>
      have h1 := (h.is q hq hb).has
      rw [show ((q + 1 : Nat) : Int) = (q : Int) + 1 from by omega] at h1
      rw [h1] at hh
      exact absurd hh (by simp)
  · rw [List.getD_eq_getElem?_getD, List.getElem?_eq_none (by omega)]; rfl
theorem thereTo_miss (S : List Th) (q : Nat) (hq : q < S.length) (hb : (S.getD q noTh).there = false) : ∀ k, q < k → k ≤ S.length → thereTo S k < k := by
  intro k
  induction k with
  | zero => intro h1; omega
  | succ k ih =>
    intro h1 hk
    rw [thereTo_succ S k (by omega)]
    by_cases e : q = k
    · subst e
      rw [hb]
      have := thereTo_le S q
      simp; omega
    · have := ih (by omega) (by omega)
      split <;> omega
theorem free_count {H : HS} {M : MS} (h : Inv H M) (q : Nat) (hq : q < M.oops) (hf : (M.things.getD q noTh).there = false) : H.count < H.oops := by
  rw [h.count, h.oops]
  have hm := h.most
  by_cases hl : q < M.things.length
  · have := thereTo_miss M.things q hl hf M.things.length hl (Nat.le_refl _)
    omega
  · have := thereTo_le M.things M.things.length
    omega
theorem takesB_yes {H : HS} {oop cls fmt : Int} {ss : List Int} (h : takesB H oop cls fmt ss = true) : has H oop = false ∧ 1 ≤ oop ∧ oop ≤ (H.oops : Int) ∧ isW cls = true ∧ isF fmt = true ∧ (ss.length : Int) ≤ 8192 ∧ lenOf (ss.length : Int) fmt ≤ (H.words : Int) - (H.mem.length : Int) ∧ ∀ j, j < ss.length → mayB (ss.getD j 0) fmt = true := by
  unfold takesB at h
  simp only [Bool.and_eq_true, Bool.not_eq_true', decide_eq_true_eq] at h
  obtain ⟨⟨⟨⟨⟨⟨⟨h1, h2⟩, h3⟩, h4⟩, h5⟩, h6⟩, h7⟩, h8⟩ := h
  refine ⟨h1, h2, h3, h4, h5, h6, h7, fun j hj => ?_⟩
  rw [List.all_eq_true] at h8
  have e : ss.getD j 0 = ss[j] := by rw [List.getD_eq_getElem?_getD, List.getElem?_eq_getElem hj]; rfl
  rw [e]
  exact h8 _ (List.getElem_mem hj)
theorem Lds.inv {H0 H : HS} {M0 M : MS} {ks : List (Int × Int × Int × List Int)} (h0 : Inv H0 M0) (h : Lds H0 M0 ks H M) : Inv H M :=
  Lds.ind (C := fun _ H M => Inv H M) h0 (fun _ _ _ _ _ _ _ _ _ _ _ hl _ => hl.inv) h
/-- an object that is taken is laid -/
theorem load_taken (q : Nat) (cls : Int) (fmt : Nat) (ss : List Int) (v : Value) (a : Nat) (l : Lay) (H : HS) (M : MS) (w : World) (h : Rep w a l H) (hi : Inv H M) (ht : takesB H ((q : Int) + 1) cls fmt ss = true)
    (ho : Rd w v ss) (hbn : 0 < ss.length → ∀ g, v.ownBlock = some g → g ∉ foot a l) :
    Calls Tryd.prog 54 #[.pointer (some ⟨a, 0, none⟩), .agg #[.int .i64 ((q : Int) + 1), .int .i64 cls, .int .i64 (fmt : Int), v]] w fun e w' => e = .returned (.tuple #[]) ∧ ∃ l' H' M', Rep w' a l' H' ∧ Nx a l l' w w' ∧ Ld H M q cls fmt ss ss.length H' M' := by
  obtain ⟨t1, t2, t3, t4, t5, t6, t7, t8⟩ := takesB_yes ht
  have hoo := hi.oops
  have hf : fmt ≤ 1 := by simp [isF] at t5; omega
  rw [lenOf_nat] at t7
  have hn := not_there hi q t1
  exact load_ok q cls fmt ss v a l H M w h hi (by omega) hn hf (by omega) (free_count hi q (by omega) hn) (by omega) t8 ho hbn
end Go.Proofs.YtklfnjlenbgmoaaDoor
namespace Go.Proofs.YtklfnjlenbgmoaaDoor
open Go.RowKit
set_option linter.unusedVariables false
abbrev Key := Int × Int × Int × List Int
/-- the words that objects take -/
def endK : List Key → Int
  | [] => 0
  | k :: t => lenOf (k.2.2.2.length : Int) k.2.2.1 + endK t
theorem endK_append (a b : List Key) : endK (a ++ b) = endK a + endK b := by
  induction a with
  | nil => simp [endK]
  | cons k t ih => simp [endK, ih]; omega
/-- whether an object may lie beside those of a list -/
def takesK (words oops : Nat) (ks : List Key) (k : Key) : Bool :=
  decide (1 ≤ k.1) && decide (k.1 ≤ (oops : Int)) && !(ks.any fun x => x.1 == k.1) && isW k.2.1 && isF k.2.2.1 && decide ((k.2.2.2.length : Int) ≤ 8192) && (k.2.2.2.all fun x => mayB x k.2.2.1) && decide (endK ks + lenOf (k.2.2.2.length : Int) k.2.2.1 ≤ (words : Int))
end Go.Proofs.YtklfnjlenbgmoaaDoor
namespace Go.Proofs.YtklfnjlenbgmoaaDoor
open Go.RowKit
set_option linter.unusedVariables false
/-- what a list of loaded objects is in a heap -/
structure KOf (words oops mark : Nat) (ks : List Key) (H : HS) (M : MS) : Prop where
  inv : Inv H M
  words : H.words = words
  oops : H.oops = oops
  mark : H.mark = mark
  age : H.age = 0
  order : H.order = ks.map fun k => k.1.toNat
  mem : (H.mem.length : Int) = endK ks
  count : H.count = ks.length
  at_ : ∀ k ∈ ks, 1 ≤ k.1 ∧ (M.things.getD (k.1.toNat - 1) noTh).there = true ∧ (M.things.getD (k.1.toNat - 1) noTh).cls = k.2.1 ∧ ((M.things.getD (k.1.toNat - 1) noTh).fmt : Int) = k.2.2.1 ∧ (M.things.getD (k.1.toNat - 1) noTh).slots = k.2.2.2
  only : ∀ i, (M.things.getD i noTh).there = true → ∃ k ∈ ks, k.1 = (i : Int) + 1
theorem ext_getD {a b : List Int} (h1 : a.length = b.length) (h2 : ∀ j, j < b.length → a.getD j 0 = b.getD j 0) : a = b := by
  refine List.ext_getElem h1 fun i u1 u2 => ?_
  have := h2 i u2
  rw [List.getD_eq_getElem?_getD, List.getD_eq_getElem?_getD, List.getElem?_eq_getElem u1, List.getElem?_eq_getElem u2] at this
  exact this
theorem Lds.kOf {words oops mark : Nat} {ks : List Key} {H : HS} {M : MS} (h1 : (words : Int) ≤ 1048576) (h2 : (oops : Int) ≤ 65536) (hm : (mark : Int) ≤ 1073741824) (h : Lds { emptyH words oops with mark := mark } { emptyM words oops with mark := mark } ks H M) : KOf words oops mark ks H M := by
  refine Lds.ind (C := fun ks H M => KOf words oops mark ks H M) ?_ ?_ h
  · exact ⟨(inv_empty words oops h1 h2).setMark mark hm, rfl, rfl, rfl, rfl, rfl, rfl, rfl, by simp, fun i hi => by simp [emptyM, noTh] at hi⟩
  · rintro ks H H' M M' q cls fmt ss h ht hl ih
    obtain ⟨a1, a2, a3, a4, a5⟩ := hl.at_
    have hq : ((q : Int) + 1).toNat - 1 = q := by omega
    have hnew := (takesB_yes ht).1
    have hnt := not_there ih.inv q hnew
    refine ⟨hl.inv, hl.words.trans ih.words, hl.oops.trans ih.oops, hl.mark.trans ih.mark, hl.age.trans ih.age, ?_, ?_, ?_, fun k hk => ?_, fun i hi => ?_⟩
    · rw [hl.order, ih.order, List.map_append]
      simp
    · rw [hl.mem, endK_append]
      have := ih.mem
      simp only [endK]
      rw [lenOf_nat]
      omega
    · rw [hl.count, ih.count, List.length_append]; rfl
    · rcases List.mem_append.1 hk with h3 | h3
      · obtain ⟨b0, b1, b2, b3, b4⟩ := ih.at_ k h3
        have hne : k.1.toNat - 1 ≠ q := fun e => by rw [e, hnt] at b1; simp at b1
        rw [hl.rest _ hne]
        exact ⟨b0, b1, b2, b3, b4⟩
      · have e : k = ((q : Int) + 1, cls, (fmt : Int), ss) := by simpa using h3
        rw [e]
        dsimp only
        rw [hq]
        refine ⟨by omega, a1, a2, by rw [a3], ?_⟩
        exact ext_getD a4 a5
    · by_cases e : i = q
      · exact ⟨((q : Int) + 1, cls, (fmt : Int), ss), by simp, by dsimp only; omega⟩
      · rw [hl.rest i e] at hi
        obtain ⟨k, k1, k2⟩ := ih.only i hi
        exact ⟨k, List.mem_append_left _ k1, k2⟩
theorem KOf.has {words oops mark : Nat} {ks : List Key} {H : HS} {M : MS} (h : KOf words oops mark ks H M) (oop : Int) : has H oop = ks.any fun x => x.1 == oop := by
  rw [h.inv.hasM]
  cases hb : ks.any (fun x => x.1 == oop) with
  | true =>
    obtain ⟨k, k1, k2⟩ := List.any_eq_true.1 hb
    have e : k.1 = oop := by simpa using k2
    obtain ⟨b0, b1, b2⟩ := h.at_ k k1
    rw [e] at b0 b1
    have := mhas_of (M := M) (oop.toNat - 1) (th_in b1) b1
    rwa [show ((oop.toNat - 1 : Nat) : Int) + 1 = oop from by omega] at this
  | false =>
    refine decide_eq_false (fun hc => ?_)
    obtain ⟨k, k1, k2⟩ := h.only (oop.toNat - 1) hc.2.2
    have : ks.any (fun x => x.1 == oop) = true := List.any_eq_true.2 ⟨k, k1, by rw [beq_iff_eq]; omega⟩
    rw [hb] at this
    simp at this
theorem KOf.takes {words oops mark : Nat} {ks : List Key} {H : HS} {M : MS} (h : KOf words oops mark ks H M) (k : Key) : takesB H k.1 k.2.1 k.2.2.1 k.2.2.2 = takesK words oops ks k := by
  unfold takesB takesK
  rw [h.has, h.words, h.oops, h.mem]
  rw [Bool.eq_iff_iff]
  simp only [Bool.and_eq_true, decide_eq_true_eq]
  constructor
  · rintro ⟨⟨⟨⟨⟨⟨⟨h1, h2⟩, h3⟩, h4⟩, h5⟩, h6⟩, h7⟩, h8⟩
    exact ⟨⟨⟨⟨⟨⟨⟨h2, h3⟩, h1⟩, h4⟩, h5⟩, h6⟩, h8⟩, by omega⟩
  · rintro ⟨⟨⟨⟨⟨⟨⟨h2, h3⟩, h1⟩, h4⟩, h5⟩, h6⟩, h8⟩, h7⟩
    exact ⟨⟨⟨⟨⟨⟨⟨h1, h2⟩, h3⟩, h4⟩, h5⟩, h6⟩, by omega⟩, h8⟩
/-- what the state tells of a heap that was loaded -/
theorem KOf.st {words oops mark : Nat} {ks : List Key} {H : HS} {M : MS} (h : KOf words oops mark ks H M) : (stKeys H M.things H.order.length).map (fun k : Nat × Int × Nat × List Int => ((k.1 : Int), k.2.1, (k.2.2.1 : Int), k.2.2.2)) = ks := by
  unfold stKeys
  rw [List.take_length, h.order]
  have hf : (ks.map fun k => k.1.toNat).filter (fun o => o != 0) = ks.map fun k => k.1.toNat := by
    rw [List.filter_eq_self]
    intro a ha
    obtain ⟨k, k1, k2⟩ := List.mem_map.1 ha
    have := (h.at_ k k1).1
    simp
    omega
  rw [hf, List.map_map, List.map_map]
  conv => rhs; rw [← List.map_id ks]
  refine List.map_congr_left fun k hk => ?_
  obtain ⟨b0, b1, b2, b3, b4⟩ := h.at_ k hk
  simp only [Function.comp]
  rw [b2, b3, b4]
  obtain ⟨k1, k2, k3, k4⟩ := k
  simp only [id]
  rw [show ((k1.toNat : Nat) : Int) = k1 from by dsimp only at b0; omega]
/-- how many of a list of objects are taken, one after the other -/
def goodK (words oops : Nat) (la : List Key) (k : Nat) : Prop := ∀ i o, i < k → la[i]? = some o → takesK words oops (la.take i) o = true
end Go.Proofs.YtklfnjlenbgmoaaDoor
namespace Go.Proofs.YtklfnjlenbgmoaaDoor
open Go.RowKit
set_option linter.unusedVariables false
attribute [local go_sem ↓] Go.wp_at_zero Go.wp_at_succ
/-- an object of the document's heap -/
structure RO where
  oop : Nat
  fmt : Nat
  place : Nat
  born : Nat
  cls : Int
  slots : List Int
  v : Value
def noRO : RO := ⟨0, 0, 0, 0, 0, [], .slice none 0 0⟩
def ro6 (o : RO) : List Value := [I o.oop, I o.fmt, I o.place, I o.born, .int .i64 o.cls, o.v]
def roCells (l : List RO) : List Value := l.flatMap ro6
def roKey (o : RO) : Key := ((o.oop : Int), o.cls, (o.fmt : Int), o.slots)
/-- the document's heap -/
structure RS where
  words : Nat
  oops : Nat
  mark : Nat
  born : Nat
  turn : Nat
  objs : List RO
  ov : Value
def rcells (R : RS) : Array Value := #[I R.words, I R.oops, I R.mark, I R.born, I R.turn, R.ov]
/-- where it lies: in block r, its lists behind B -/
structure RRep (w : World) (B r : Nat) (R : RS) : Prop where
  lo : B ≤ r
  top : w.heap[r]? = some (.cells (rcells R) 111 (0, 0))
  row : w.ownsRow B 114 6 R.ov R.objs.length (roCells R.objs)
  slots : ∀ o ∈ R.objs, w.ownsRow B 33 1 o.v o.slots.length (o.slots.map (Value.int .i64))
theorem RRep.keep {w w' : World} {B r : Nat} {R : RS} {S : List Nat} (h : RRep w B r R) (hf : Fr S w w') (hd : ∀ g ∈ S, g < B ∨ w.heap.size ≤ g) : RRep w' B r R := by
  have hk : ∀ g, B ≤ g → g < w.heap.size → w'.heap[g]? = w.heap[g]? := fun g h1 h2 => hf.block g h2 (fun hm => by have := hd g hm; omega)
  exact ⟨h.lo, (hk r h.lo (lt_of_heap h.top)).trans h.top, own_congr h.row fun g hg => hk g (h.row.lt g hg).1 (h.row.lt g hg).2, fun o ho => own_congr (h.slots o ho) fun g hg => hk g ((h.slots o ho).lt g hg).1 ((h.slots o ho).lt g hg).2⟩
theorem RRep.idle {w w' : World} {B r : Nat} {R : RS} (h : RRep w B r R) (hf : Fr [] w w') : RRep w' B r R := h.keep hf (by simp)
theorem RRep.c (i : Nat) {w : World} {B r : Nat} {R : RS} (h : RRep w B r R) : w.cell? ⟨r, i, none⟩ = (rcells R)[i]? := cell_in h.top i
theorem roCells_append (l : List RO) (o : RO) : roCells (l ++ [o]) = roCells l ++ ro6 o := by simp [roCells]
theorem roCells_at (l : List RO) : ∀ k, k < l.length → (roCells l)[k * 6]? = some (I (l.getD k noRO).oop) ∧ (roCells l)[k * 6 + 1]? = some (I (l.getD k noRO).fmt) ∧ (roCells l)[k * 6 + 2]? = some (I (l.getD k noRO).place) ∧ (roCells l)[k * 6 + 3]? = some (I (l.getD k noRO).born) ∧ (roCells l)[k * 6 + 4]? = some (.int .i64 (l.getD k noRO).cls) ∧ (roCells l)[k * 6 + 5]? = some (l.getD k noRO).v := by
  induction l with
  | nil => intro k hk; simp at hk
  | cons o l ih =>
    intro k hk
    have e : roCells (o :: l) = ro6 o ++ roCells l := by simp [roCells]
    rw [e]
    cases k with
    | zero => exact ⟨rfl, rfl, rfl, rfl, rfl, rfl⟩
    | succ k =>
      have := ih k (by simpa using hk)
      have e2 : ∀ j, (ro6 o ++ roCells l)[(k + 1) * 6 + j]? = (roCells l)[k * 6 + j]? := fun j => by
        rw [List.getElem?_append_right (by simp [ro6]; omega), show (k + 1) * 6 + j - (ro6 o).length = k * 6 + j from by simp [ro6]; omega]
      have e3 : (o :: l).getD (k + 1) noRO = l.getD k noRO := by simp
      rw [e3, e2, e2, e2, e2, e2]
      have := e2 0
      rw [Nat.add_zero, Nat.add_zero] at this
      rw [this]
      exact ih k (by simpa using hk)
theorem RRep.at_ {w : World} {B r : Nat} {R : RS} (h : RRep w B r R) (hp : 0 < R.objs.length) : ∃ g c, R.ov = .slice (some ⟨g, 0, none⟩) R.objs.length c ∧ (∀ k, k < R.objs.length → w.cell? ⟨g, k * 6, none⟩ = some (I (R.objs.getD k noRO).oop) ∧ w.cell? ⟨g, k * 6 + 1, none⟩ = some (I (R.objs.getD k noRO).fmt) ∧ w.cell? ⟨g, k * 6 + 2, none⟩ = some (I (R.objs.getD k noRO).place) ∧ w.cell? ⟨g, k * 6 + 3, none⟩ = some (I (R.objs.getD k noRO).born) ∧ w.cell? ⟨g, k * 6 + 4, none⟩ = some (.int .i64 (R.objs.getD k noRO).cls) ∧ w.cell? ⟨g, k * 6 + 5, none⟩ = some (R.objs.getD k noRO).v) := by
  have hs := h.row
  obtain ⟨g, c, hv, _, hgl⟩ := hs.form hp
  refine ⟨g, c, hv, fun k hk => ?_⟩
  rw [hv] at hs
  have := roCells_at R.objs k hk
  exact ⟨(hs.cellAt _ (by omega)).trans this.1, (hs.cellAt _ (by omega)).trans this.2.1, (hs.cellAt _ (by omega)).trans this.2.2.1, (hs.cellAt _ (by omega)).trans this.2.2.2.1, (hs.cellAt _ (by omega)).trans this.2.2.2.2.1, (hs.cellAt _ (by omega)).trans this.2.2.2.2.2⟩
theorem RRep.ovIs {w : World} {B r : Nat} {R : RS} (h : RRep w B r R) : ∃ p c, R.ov = .slice p R.objs.length c := by
  rcases h.row.2 with ⟨h2, h3⟩ | ⟨g, cap, cur, h2, h3⟩
  · exact ⟨none, 0, by rw [h2, h3]⟩
  · exact ⟨some ⟨g, 0, none⟩, cap, h2⟩
/-- where an oop stands -/
def FoundAt (l : List RO) (oop z : Int) : Prop := (∃ k : Nat, k < l.length ∧ z = k ∧ ((l.getD k noRO).oop : Int) = oop ∧ ∀ j, j < k → ((l.getD j noRO).oop : Int) ≠ oop) ∨ (z = -1 ∧ ∀ j, j < l.length → ((l.getD j noRO).oop : Int) ≠ oop)
set_option maxRecDepth 20000 in
set_option maxHeartbeats 1000000 in
theorem find_any (oop : Int) (B r : Nat) (R : RS) (w : World) (h : RRep w B r R) (hl : R.objs.length ≤ 1048576) :
    Calls Tryd.prog 55 #[.pointer (some ⟨r, 0, none⟩), .int .i64 oop] w fun e w' => ∃ z, e = .returned (.int .i64 z) ∧ FoundAt R.objs oop z ∧ w' = w := by
  obtain ⟨p, c, hov⟩ := h.ovIs
  have c5 : w.cell? ⟨r, 5, none⟩ = some (.slice p R.objs.length c) := by rw [h.c, ← hov]; rfl
  have HR := mkHid h
  clear h
  go_enter Tryd.func55, Tryd.ntmps55
  go_wp2_with fail
  go_loopw [5] (fun q wr => ∃ k : Nat, k ≤ R.objs.length ∧ q = .int .i64 k ∧ wr = w ∧ Hid (∀ j, j < k → ((R.objs.getD j noRO).oop : Int) ≠ oop)) (fun q _ => R.objs.length - (intOf q).toNat)
  case atStart => exact ⟨0, Nat.zero_le _, rfl, rfl, fun j hj => by omega⟩
  case round =>
    obtain ⟨k, hkn, rfl, rfl, hq⟩ := hrel
    by_cases hlt : k < R.objs.length
    · obtain ⟨g, c', hv, hc⟩ := HR.out.at_ (by omega)
      obtain ⟨q0, -, -, -, -, -⟩ := hc k hlt
      rw [hov] at hv
      injection hv with hv1 hv2 hv3
      subst hv1
      have k1 : (0 : Int) ≤ (k : Int) := by omega
      have k2 : (k : Int) < (R.objs.length : Int) := by omega
      simp only [I] at q0
      by_cases he : ((R.objs.getD k noRO).oop : Int) = oop
      · have HF : Hid (FoundAt R.objs oop k) := .inl ⟨k, hlt, rfl, he, hq.out⟩
        rw [he] at q0
        clear hc hq he hv2 hv3
        go_wp2_with fail
        go_ret
        exact ⟨_, rfl, HF.out, rfl⟩
      · have HQ : Hid (∀ j, j < k + 1 → ((R.objs.getD j noRO).oop : Int) ≠ oop) := fun j hj => by
          by_cases e : j = k
          · rw [e]; exact he
          · exact hq.out j (by omega)
        have he2 : ((((R.objs.getD k noRO).oop : Nat) : Int) == oop) = false := by simpa using he
        generalize (R.objs.getD k noRO).oop = z at *
        clear hc hq hv2 hv3
        go_wp2_with fail
        go_roundw
        case rel => exact ⟨k + 1, by omega, by go_num, trivial, HQ⟩
        case measure => simp [intOf]; omega
    · have hke : k = R.objs.length := by omega
      subst hke
      go_wp2_with fail
      go_ret
      exact ⟨_, rfl, .inr ⟨rfl, hq.out⟩, rfl⟩
theorem find_no (oop : Int) (B r : Nat) (R : RS) (w : World) (h : RRep w B r R) (hl : R.objs.length ≤ 1048576) (hn : (R.objs.map roKey).any (fun x => x.1 == oop) = false) :
    Calls Tryd.prog 55 #[.pointer (some ⟨r, 0, none⟩), .int .i64 oop] w fun e w' => e = .returned (.int .i64 (-1)) ∧ w' = w := by
  refine Calls.mono (find_any oop B r R w h hl) ?_
  rintro e w' ⟨z, rfl, h1, h2⟩
  refine ⟨?_, h2⟩
  rcases h1 with ⟨k, k1, k2, k3, k4⟩ | ⟨k1, k2⟩
  · exfalso
    have hm : R.objs.getD k noRO ∈ R.objs := by rw [List.getD_eq_getElem?_getD, List.getElem?_eq_getElem k1]; exact List.getElem_mem k1
    have : (R.objs.map roKey).any (fun x => x.1 == oop) = true := List.any_eq_true.2 ⟨_, List.mem_map_of_mem hm, by show (((R.objs.getD k noRO).oop : Int) == oop) = true; rw [k3]; simp⟩
    rw [hn] at this
    simp at this
  · rw [k1]
theorem find_yes (oop : Int) (B r : Nat) (R : RS) (w : World) (h : RRep w B r R) (hl : R.objs.length ≤ 1048576) (hn : (R.objs.map roKey).any (fun x => x.1 == oop) = true) :
    Calls Tryd.prog 55 #[.pointer (some ⟨r, 0, none⟩), .int .i64 oop] w fun e w' => ∃ k : Nat, e = .returned (.int .i64 (k : Int)) ∧ w' = w := by
  refine Calls.mono (find_any oop B r R w h hl) ?_
  rintro e w' ⟨z, rfl, h1, h2⟩
  rcases h1 with ⟨k, k1, k2, k3, k4⟩ | ⟨k1, k2⟩
  · exact ⟨k, by rw [k2], h2⟩
  · exfalso
    obtain ⟨x, x1, x2⟩ := List.any_eq_true.1 hn
    obtain ⟨o, o1, rfl⟩ := List.mem_map.1 x1
    obtain ⟨i, i1, i2⟩ := List.getElem_of_mem o1
    refine k2 i i1 ?_
    rw [List.getD_eq_getElem?_getD, List.getElem?_eq_getElem i1]
    show (R.objs[i].oop : Int) = oop
    rw [i2]
    simpa [roKey] using x2
end Go.Proofs.YtklfnjlenbgmoaaDoor
