import Derived.Test.YtklfnjlenbgmoaaDoorPG16HTakesA
import Derived.Test.YtklfnjlenbgmoaaDoorPG04HPutAt
import Derived.Test.YtklfnjlenbgmoaaDoorPG15HLoadW
import Derived.Test.YtklfnjlenbgmoaaDoorPG09HModelL
import Derived.Test.YtklfnjlenbgmoaaDoorPG10HInvA
set_option linter.unusedVariables false
namespace Go.Proofs.YtklfnjlenbgmoaaDoor
open Go.RowKit
def LdsR (H0 : HS) (M0 : MS) : List (Int × Int × Int × List Int) → HS → MS → Prop
 | [], H, M => H = H0 ∧ M = M0
 | k :: t, H', M' => ∃ (H : HS) (M : MS) (q : Nat) (cls : Int) (fmt : Nat) (ss : List Int), LdsR H0 M0 t H M ∧ takesB H ((q : Int) + 1) cls fmt ss = true ∧ Ld H M q cls fmt ss ss.length H' M' ∧ k = ((q : Int) + 1, cls, (fmt : Int), ss)
def Lds (H0 : HS) (M0 : MS) (ks : List (Int × Int × Int × List Int)) (H : HS) (M : MS) : Prop := LdsR H0 M0 ks.reverse H M
theorem Lds.nil {H0 : HS} {M0 : MS} : Lds H0 M0 [] H0 M0 := ⟨rfl, rfl⟩
theorem Lds.snoc {H0 : HS} {M0 : MS} {ks : List (Int × Int × Int × List Int)} {H H' : HS} {M M' : MS} (q : Nat) (cls : Int) (fmt : Nat) (ss : List Int) (h : Lds H0 M0 ks H M) (ht : takesB H ((q : Int) + 1) cls fmt ss = true) (hl : Ld H M q cls fmt ss ss.length H' M') : Lds H0 M0 (ks ++ [((q : Int) + 1, cls, (fmt : Int), ss)]) H' M' := by
 unfold Lds
 rw [List.reverse_append]
 exact ⟨H, M, q, cls, fmt, ss, h, ht, hl, rfl⟩
theorem Lds.ind {H0 : HS} {M0 : MS} {C : List (Int × Int × Int × List Int) → HS → MS → Prop} (h0 : C [] H0 M0)
  (h1 : ∀ (ks : List (Int × Int × Int × List Int)) (H H' : HS) (M M' : MS) (q : Nat) (cls : Int) (fmt : Nat) (ss : List Int), Lds H0 M0 ks H M → takesB H ((q : Int) + 1) cls fmt ss = true → Ld H M q cls fmt ss ss.length H' M' → C ks H M → C (ks ++ [((q : Int) + 1, cls, (fmt : Int), ss)]) H' M')
  {ks : List (Int × Int × Int × List Int)} {H : HS} {M : MS} (h : Lds H0 M0 ks H M) : C ks H M := by
 have key : ∀ (r : List (Int × Int × Int × List Int)) (H : HS) (M : MS), LdsR H0 M0 r H M → C r.reverse H M := by
  intro r
  induction r with
  | nil => rintro H M ⟨rfl, rfl⟩; exact h0
  | cons k t ih =>
   rintro H' M' ⟨H, M, q, cls, fmt, ss, h2, ht, hl, rfl⟩
   rw [List.reverse_cons]
   exact h1 _ H H' M M' q cls fmt ss (by unfold Lds; rw [List.reverse_reverse]; exact h2) ht hl (ih H M h2)
 have := key ks.reverse H M h
 rwa [List.reverse_reverse] at this
theorem not_there {H : HS} {M : MS} (h : Inv H M) (q : Nat) (hh : has H ((q : Int) + 1) = false) : (M.things.getD q noTh).there = false := by
 by_cases hq : q < M.things.length
 ·cases hb : (M.things.getD q noTh).there with
  | false => rfl
  | true =>
   have h1 := (h.is q hq hb).has
   rw [show ((q + 1 : Nat) : Int) = (q : Int) + 1 from by omega] at h1
   rw [h1] at hh
   exact absurd hh (by simp)
 ·rw [List.getD_eq_getElem?_getD, List.getElem?_eq_none (by omega)]; rfl
theorem thereTo_miss (S : List Th) (q : Nat) (hq : q < S.length) (hb : (S.getD q noTh).there = false) : ∀ k, q < k → k ≤ S.length → thereTo S k < k := by
 intro k
 induction k with
 | zero => intro h1; omega
 | succ k ih =>
  intro h1 hk
  rw [thereTo_succ S k (by omega)]
  by_cases e : q = k
  ·subst e
   rw [hb]
   have := thereTo_le S q
   simp; omega
  ·have := ih (by omega) (by omega)
   split <;> omega
theorem free_count {H : HS} {M : MS} (h : Inv H M) (q : Nat) (hq : q < M.oops) (hf : (M.things.getD q noTh).there = false) : H.count < H.oops := by
 rw [h.count, h.oops]
 have hm := h.most
 by_cases hl : q < M.things.length
 ·have := thereTo_miss M.things q hl hf M.things.length hl (Nat.le_refl _)
  omega
 ·have := thereTo_le M.things M.things.length
  omega
theorem takesB_yes {H : HS} {oop cls fmt : Int} {ss : List Int} (h : takesB H oop cls fmt ss = true) : has H oop = false ∧ 1 ≤ oop ∧ oop ≤ (H.oops : Int) ∧ isW cls = true ∧ isF fmt = true ∧ (ss.length : Int) ≤ 8192 ∧ lenOf (ss.length : Int) fmt ≤ (H.words : Int) - (H.mem.length : Int) ∧ ∀ j, j < ss.length → mayB (ss.getD j 0) fmt = true := by
 unfold takesB at h
 simp only [Bool.and_eq_true, Bool.not_eq_true', decide_eq_true_eq] at h
 obtain ⟨⟨⟨⟨⟨⟨⟨h1, h2⟩, h3⟩, h4⟩, h5⟩, h6⟩, h7⟩, h8⟩ := h
 refine ⟨h1, h2, h3, h4, h5, h6, h7, fun j hj => ?_⟩
 rw [List.all_eq_true] at h8
 have e : ss.getD j 0 = ss[j] := by rw [List.getD_eq_getElem?_getD, List.getElem?_eq_getElem hj]; rfl
 rw [e]
 exact h8 _ (List.getElem_mem hj)
theorem Lds.inv {H0 H : HS} {M0 M : MS} {ks : List (Int × Int × Int × List Int)} (h0 : Inv H0 M0) (h : Lds H0 M0 ks H M) : Inv H M :=
 Lds.ind (C := fun _ H M => Inv H M) h0 (fun _ _ _ _ _ _ _ _ _ _ _ hl _ => hl.inv) h
theorem load_taken (q : Nat) (cls : Int) (fmt : Nat) (ss : List Int) (v : Value) (a : Nat) (l : Lay) (H : HS) (M : MS) (w : World) (h : Rep w a l H) (hi : Inv H M) (ht : takesB H ((q : Int) + 1) cls fmt ss = true)
  (ho : Rd w v ss) (hbn : 0 < ss.length → ∀ g, v.ownBlock = some g → g ∉ foot a l) :
  Calls Tryd.prog 54 #[.pointer (some ⟨a, 0, none⟩), .agg #[.int .i64 ((q : Int) + 1), .int .i64 cls, .int .i64 (fmt : Int), v]] w fun e w' => e = .returned (.tuple #[]) ∧ ∃ l' H' M', Rep w' a l' H' ∧ Nx a l l' w w' ∧ Ld H M q cls fmt ss ss.length H' M' := by
 obtain ⟨t1, t2, t3, t4, t5, t6, t7, t8⟩ := takesB_yes ht
 have hoo := hi.oops
 have hf : fmt ≤ 1 := by simp [isF] at t5; omega
 rw [lenOf_nat] at t7
 have hn := not_there hi q t1
 exact load_ok q cls fmt ss v a l H M w h hi (by omega) hn hf (by omega) (free_count hi q (by omega) hn) (by omega) t8 ho hbn
abbrev Key := Int × Int × Int × List Int
def endK : List Key → Int
 | [] => 0
 | k :: t => lenOf (k.2.2.2.length : Int) k.2.2.1 + endK t
theorem endK_append (a b : List Key) : endK (a ++ b) = endK a + endK b := by
 induction a with
 | nil => simp [endK]
 | cons k t ih => simp [endK, ih]; omega
def takesK (words oops : Nat) (ks : List Key) (k : Key) : Bool :=
 decide (1 ≤ k.1) && decide (k.1 ≤ (oops : Int)) && !(ks.any fun x => x.1 == k.1) && isW k.2.1 && isF k.2.2.1 && decide ((k.2.2.2.length : Int) ≤ 8192) && (k.2.2.2.all fun x => mayB x k.2.2.1) && decide (endK ks + lenOf (k.2.2.2.length : Int) k.2.2.1 ≤ (words : Int))
structure KOf (words oops mark : Nat) (ks : List Key) (H : HS) (M : MS) : Prop where
 inv : Inv H M
 words : H.words = words
 oops : H.oops = oops
 mark : H.mark = mark
 age : H.age = 0
 order : H.order = ks.map fun k => k.1.toNat
 mem : (H.mem.length : Int) = endK ks
 count : H.count = ks.length
 at_ : ∀ k ∈ ks, 1 ≤ k.1 ∧ (M.things.getD (k.1.toNat - 1) noTh).there = true ∧ (M.things.getD (k.1.toNat - 1) noTh).cls = k.2.1 ∧ ((M.things.getD (k.1.toNat - 1) noTh).fmt : Int) = k.2.2.1 ∧ (M.things.getD (k.1.toNat - 1) noTh).slots = k.2.2.2
 only : ∀ i, (M.things.getD i noTh).there = true → ∃ k ∈ ks, k.1 = (i : Int) + 1
theorem ext_getD {a b : List Int} (h1 : a.length = b.length) (h2 : ∀ j, j < b.length → a.getD j 0 = b.getD j 0) : a = b := by
 refine List.ext_getElem h1 fun i u1 u2 => ?_
 have := h2 i u2
 rw [List.getD_eq_getElem?_getD, List.getD_eq_getElem?_getD, List.getElem?_eq_getElem u1, List.getElem?_eq_getElem u2] at this
 exact this
theorem Lds.kOf {words oops mark : Nat} {ks : List Key} {H : HS} {M : MS} (h1 : (words : Int) ≤ 1048576) (h2 : (oops : Int) ≤ 65536) (hm : (mark : Int) ≤ 1073741824) (h : Lds { emptyH words oops with mark := mark } { emptyM words oops with mark := mark } ks H M) : KOf words oops mark ks H M := by
 refine Lds.ind (C := fun ks H M => KOf words oops mark ks H M) ?_ ?_ h
 ·exact ⟨(inv_empty words oops h1 h2).setMark mark hm, rfl, rfl, rfl, rfl, rfl, rfl, rfl, by simp, fun i hi => by simp [emptyM, noTh] at hi⟩
 ·rintro ks H H' M M' q cls fmt ss h ht hl ih
  obtain ⟨a1, a2, a3, a4, a5⟩ := hl.at_
  have hq : ((q : Int) + 1).toNat - 1 = q := by omega
  have hnew := (takesB_yes ht).1
  have hnt := not_there ih.inv q hnew
  refine ⟨hl.inv, hl.words.trans ih.words, hl.oops.trans ih.oops, hl.mark.trans ih.mark, hl.age.trans ih.age, ?_, ?_, ?_, fun k hk => ?_, fun i hi => ?_⟩
  ·rw [hl.order, ih.order, List.map_append]
   simp
  ·rw [hl.mem, endK_append]
   have := ih.mem
   simp only [endK]
   rw [lenOf_nat]
   omega
  ·rw [hl.count, ih.count, List.length_append]; rfl
  ·rcases List.mem_append.1 hk with h3 | h3
   ·obtain ⟨b0, b1, b2, b3, b4⟩ := ih.at_ k h3
    have hne : k.1.toNat - 1 ≠ q := fun e => by rw [e, hnt] at b1; simp at b1
    rw [hl.rest _ hne]
    exact ⟨b0, b1, b2, b3, b4⟩
   ·have e : k = ((q : Int) + 1, cls, (fmt : Int), ss) := by simpa using h3
    rw [e]
    dsimp only
    rw [hq]
    refine ⟨by omega, a1, a2, by rw [a3], ?_⟩
    exact ext_getD a4 a5
  ·by_cases e : i = q
   ·exact ⟨((q : Int) + 1, cls, (fmt : Int), ss), by simp, by dsimp only; omega⟩
   ·rw [hl.rest i e] at hi
    obtain ⟨k, k1, k2⟩ := ih.only i hi
    exact ⟨k, List.mem_append_left _ k1, k2⟩
theorem KOf.has {words oops mark : Nat} {ks : List Key} {H : HS} {M : MS} (h : KOf words oops mark ks H M) (oop : Int) : has H oop = ks.any fun x => x.1 == oop := by
 rw [h.inv.hasM]
 cases hb : ks.any (fun x => x.1 == oop) with
 | true =>
  obtain ⟨k, k1, k2⟩ := List.any_eq_true.1 hb
  have e : k.1 = oop := by simpa using k2
  obtain ⟨b0, b1, b2⟩ := h.at_ k k1
  rw [e] at b0 b1
  have := mhas_of (M := M) (oop.toNat - 1) (th_in b1) b1
  rwa [show ((oop.toNat - 1 : Nat) : Int) + 1 = oop from by omega] at this
 | false =>
  refine decide_eq_false (fun hc => ?_)
  obtain ⟨k, k1, k2⟩ := h.only (oop.toNat - 1) hc.2.2
  have : ks.any (fun x => x.1 == oop) = true := List.any_eq_true.2 ⟨k, k1, by rw [beq_iff_eq]; omega⟩
  rw [hb] at this
  simp at this
theorem KOf.takes {words oops mark : Nat} {ks : List Key} {H : HS} {M : MS} (h : KOf words oops mark ks H M) (k : Key) : takesB H k.1 k.2.1 k.2.2.1 k.2.2.2 = takesK words oops ks k := by
 unfold takesB takesK
 rw [h.has, h.words, h.oops, h.mem]
 rw [Bool.eq_iff_iff]
 simp only [Bool.and_eq_true, decide_eq_true_eq]
 constructor
 ·rintro ⟨⟨⟨⟨⟨⟨⟨h1, h2⟩, h3⟩, h4⟩, h5⟩, h6⟩, h7⟩, h8⟩
  exact ⟨⟨⟨⟨⟨⟨⟨h2, h3⟩, h1⟩, h4⟩, h5⟩, h6⟩, h8⟩, by omega⟩
 ·rintro ⟨⟨⟨⟨⟨⟨⟨h2, h3⟩, h1⟩, h4⟩, h5⟩, h6⟩, h8⟩, h7⟩
  exact ⟨⟨⟨⟨⟨⟨⟨h1, h2⟩, h3⟩, h4⟩, h5⟩, h6⟩, by omega⟩, h8⟩
end Go.Proofs.YtklfnjlenbgmoaaDoor
namespace Go.Proofs.YtklfnjlenbgmoaaDoor
open Go.RowKit
attribute [local go_sem ↓] Go.wp_at_zero Go.wp_at_succ
structure RO where
 oop : Nat
 fmt : Nat
 place : Nat
 born : Nat
 cls : Int
 slots : List Int
 v : Value
def noRO : RO := ⟨0, 0, 0, 0, 0, [], .slice none 0 0⟩
def ro6 (o : RO) : List Value := [I o.oop, I o.fmt, I o.place, I o.born, .int .i64 o.cls, o.v]
def roCells (l : List RO) : List Value := l.flatMap ro6
def roKey (o : RO) : Key := ((o.oop : Int), o.cls, (o.fmt : Int), o.slots)
structure RS where
 words : Nat
 oops : Nat
 mark : Nat
 born : Nat
 turn : Nat
 objs : List RO
 ov : Value
def rcells (R : RS) : Array Value := #[I R.words, I R.oops, I R.mark, I R.born, I R.turn, R.ov]
structure RRep (w : World) (B r : Nat) (R : RS) : Prop where
 lo : B ≤ r
 top : w.heap[r]? = some (.cells (rcells R) 111 (0, 0))
 row : w.ownsRow B 114 6 R.ov R.objs.length (roCells R.objs)
 slots : ∀ o ∈ R.objs, w.ownsRow B 33 1 o.v o.slots.length (o.slots.map (Value.int .i64))
theorem RRep.keep {w w' : World} {B r : Nat} {R : RS} {S : List Nat} (h : RRep w B r R) (hf : Fr S w w') (hd : ∀ g ∈ S, g < B ∨ w.heap.size ≤ g) : RRep w' B r R := by
 have hk : ∀ g, B ≤ g → g < w.heap.size → w'.heap[g]? = w.heap[g]? := fun g h1 h2 => hf.block g h2 (fun hm => by have := hd g hm; omega)
 exact ⟨h.lo, (hk r h.lo (lt_of_heap h.top)).trans h.top, own_congr h.row fun g hg => hk g (h.row.lt g hg).1 (h.row.lt g hg).2, fun o ho => own_congr (h.slots o ho) fun g hg => hk g ((h.slots o ho).lt g hg).1 ((h.slots o ho).lt g hg).2⟩
theorem RRep.idle {w w' : World} {B r : Nat} {R : RS} (h : RRep w B r R) (hf : Fr [] w w') : RRep w' B r R := h.keep hf (by simp)
theorem RRep.c (i : Nat) {w : World} {B r : Nat} {R : RS} (h : RRep w B r R) : w.cell? ⟨r, i, none⟩ = (rcells R)[i]? := cell_in h.top i
theorem roCells_append (l : List RO) (o : RO) : roCells (l ++ [o]) = roCells l ++ ro6 o := by simp [roCells]
theorem roCells_at (l : List RO) : ∀ k, k < l.length → (roCells l)[k * 6]? = some (I (l.getD k noRO).oop) ∧ (roCells l)[k * 6 + 1]? = some (I (l.getD k noRO).fmt) ∧ (roCells l)[k * 6 + 2]? = some (I (l.getD k noRO).place) ∧ (roCells l)[k * 6 + 3]? = some (I (l.getD k noRO).born) ∧ (roCells l)[k * 6 + 4]? = some (.int .i64 (l.getD k noRO).cls) ∧ (roCells l)[k * 6 + 5]? = some (l.getD k noRO).v := by
 induction l with
 | nil => intro k hk; simp at hk
 | cons o l ih =>
  intro k hk
  have e : roCells (o :: l) = ro6 o ++ roCells l := by simp [roCells]
  rw [e]
  cases k with
  | zero => exact ⟨rfl, rfl, rfl, rfl, rfl, rfl⟩
  | succ k =>
   have := ih k (by simpa using hk)
   have e2 : ∀ j, (ro6 o ++ roCells l)[(k + 1) * 6 + j]? = (roCells l)[k * 6 + j]? := fun j => by
    rw [List.getElem?_append_right (by simp [ro6]; omega), show (k + 1) * 6 + j - (ro6 o).length = k * 6 + j from by simp [ro6]; omega]
   have e3 : (o :: l).getD (k + 1) noRO = l.getD k noRO := by simp
   rw [e3, e2, e2, e2, e2, e2]
   have := e2 0
   rw [Nat.add_zero, Nat.add_zero] at this
   rw [this]
   exact ih k (by simpa using hk)
theorem RRep.at_ {w : World} {B r : Nat} {R : RS} (h : RRep w B r R) (hp : 0 < R.objs.length) : ∃ g c, R.ov = .slice (some ⟨g, 0, none⟩) R.objs.length c ∧ (∀ k, k < R.objs.length → w.cell? ⟨g, k * 6, none⟩ = some (I (R.objs.getD k noRO).oop) ∧ w.cell? ⟨g, k * 6 + 1, none⟩ = some (I (R.objs.getD k noRO).fmt) ∧ w.cell? ⟨g, k * 6 + 2, none⟩ = some (I (R.objs.getD k noRO).place) ∧ w.cell? ⟨g, k * 6 + 3, none⟩ = some (I (R.objs.getD k noRO).born) ∧ w.cell? ⟨g, k * 6 + 4, none⟩ = some (.int .i64 (R.objs.getD k noRO).cls) ∧ w.cell? ⟨g, k * 6 + 5, none⟩ = some (R.objs.getD k noRO).v) := by
 have hs := h.row
 obtain ⟨g, c, hv, _, hgl⟩ := hs.form hp
 refine ⟨g, c, hv, fun k hk => ?_⟩
 rw [hv] at hs
 have := roCells_at R.objs k hk
 exact ⟨(hs.cellAt _ (by omega)).trans this.1, (hs.cellAt _ (by omega)).trans this.2.1, (hs.cellAt _ (by omega)).trans this.2.2.1, (hs.cellAt _ (by omega)).trans this.2.2.2.1, (hs.cellAt _ (by omega)).trans this.2.2.2.2.1, (hs.cellAt _ (by omega)).trans this.2.2.2.2.2⟩
theorem RRep.ovIs {w : World} {B r : Nat} {R : RS} (h : RRep w B r R) : ∃ p c, R.ov = .slice p R.objs.length c := by
 rcases h.row.2 with ⟨h2, h3⟩ | ⟨g, cap, cur, h2, h3⟩
 ·exact ⟨none, 0, by rw [h2, h3]⟩
 ·exact ⟨some ⟨g, 0, none⟩, cap, h2⟩
def FoundAt (l : List RO) (oop z : Int) : Prop := (∃ k : Nat, k < l.length ∧ z = k ∧ ((l.getD k noRO).oop : Int) = oop ∧ ∀ j, j < k → ((l.getD j noRO).oop : Int) ≠ oop) ∨ (z = -1 ∧ ∀ j, j < l.length → ((l.getD j noRO).oop : Int) ≠ oop)
set_option maxRecDepth 20000 in
set_option maxHeartbeats 1000000 in
theorem find_any (oop : Int) (B r : Nat) (R : RS) (w : World) (h : RRep w B r R) (hl : R.objs.length ≤ 1048576) :
  Calls Tryd.prog 55 #[.pointer (some ⟨r, 0, none⟩), .int .i64 oop] w fun e w' => ∃ z, e = .returned (.int .i64 z) ∧ FoundAt R.objs oop z ∧ w' = w := by
 obtain ⟨p, c, hov⟩ := h.ovIs
 have c5 : w.cell? ⟨r, 5, none⟩ = some (.slice p R.objs.length c) := by rw [h.c, ← hov]; rfl
 have HR := mkHid h
 clear h
 go_enter Tryd.func55, Tryd.ntmps55
 go_wp2_with fail
 go_loopw [5] (fun q wr => ∃ k : Nat, k ≤ R.objs.length ∧ q = .int .i64 k ∧ wr = w ∧ Hid (∀ j, j < k → ((R.objs.getD j noRO).oop : Int) ≠ oop)) (fun q _ => R.objs.length - (intOf q).toNat)
 case atStart => exact ⟨0, Nat.zero_le _, rfl, rfl, fun j hj => by omega⟩
 case round =>
  obtain ⟨k, hkn, rfl, rfl, hq⟩ := hrel
  by_cases hlt : k < R.objs.length
  ·obtain ⟨g, c', hv, hc⟩ := HR.out.at_ (by omega)
   obtain ⟨q0, -, -, -, -, -⟩ := hc k hlt
   rw [hov] at hv
   injection hv with hv1 hv2 hv3
   subst hv1
   have k1 : (0 : Int) ≤ (k : Int) := by omega
   have k2 : (k : Int) < (R.objs.length : Int) := by omega
   simp only [I] at q0
   by_cases he : ((R.objs.getD k noRO).oop : Int) = oop
   ·have HF : Hid (FoundAt R.objs oop k) := .inl ⟨k, hlt, rfl, he, hq.out⟩
    rw [he] at q0
    clear hc hq he hv2 hv3
    go_wp2_with fail
    go_ret
    exact ⟨_, rfl, HF.out, rfl⟩
   ·have HQ : Hid (∀ j, j < k + 1 → ((R.objs.getD j noRO).oop : Int) ≠ oop) := fun j hj => by
     by_cases e : j = k
     ·rw [e]; exact he
     ·exact hq.out j (by omega)
    have he2 : ((((R.objs.getD k noRO).oop : Nat) : Int) == oop) = false := by simpa using he
    generalize (R.objs.getD k noRO).oop = z at *
    clear hc hq hv2 hv3
    go_wp2_with fail
    go_roundw
    case rel => exact ⟨k + 1, by omega, by go_num, trivial, HQ⟩
    case measure => simp [intOf]; omega
  ·have hke : k = R.objs.length := by omega
   subst hke
   go_wp2_with fail
   go_ret
   exact ⟨_, rfl, .inr ⟨rfl, hq.out⟩, rfl⟩
theorem find_no (oop : Int) (B r : Nat) (R : RS) (w : World) (h : RRep w B r R) (hl : R.objs.length ≤ 1048576) (hn : (R.objs.map roKey).any (fun x => x.1 == oop) = false) :
  Calls Tryd.prog 55 #[.pointer (some ⟨r, 0, none⟩), .int .i64 oop] w fun e w' => e = .returned (.int .i64 (-1)) ∧ w' = w := by
 refine Calls.mono (find_any oop B r R w h hl) ?_
 rintro e w' ⟨z, rfl, h1, h2⟩
 refine ⟨?_, h2⟩
 rcases h1 with ⟨k, k1, k2, k3, k4⟩ | ⟨k1, k2⟩
 ·exfalso
  have hm : R.objs.getD k noRO ∈ R.objs := by rw [List.getD_eq_getElem?_getD, List.getElem?_eq_getElem k1]; exact List.getElem_mem k1
  have : (R.objs.map roKey).any (fun x => x.1 == oop) = true := List.any_eq_true.2 ⟨_, List.mem_map_of_mem hm, by show (((R.objs.getD k noRO).oop : Int) == oop) = true; rw [k3]; simp⟩
  rw [hn] at this
  simp at this
 ·rw [k1]
theorem find_yes (oop : Int) (B r : Nat) (R : RS) (w : World) (h : RRep w B r R) (hl : R.objs.length ≤ 1048576) (hn : (R.objs.map roKey).any (fun x => x.1 == oop) = true) :
  Calls Tryd.prog 55 #[.pointer (some ⟨r, 0, none⟩), .int .i64 oop] w fun e w' => ∃ k : Nat, e = .returned (.int .i64 (k : Int)) ∧ w' = w := by
 refine Calls.mono (find_any oop B r R w h hl) ?_
 rintro e w' ⟨z, rfl, h1, h2⟩
 rcases h1 with ⟨k, k1, k2, k3, k4⟩ | ⟨k1, k2⟩
 ·exact ⟨k, by rw [k2], h2⟩
 ·exfalso
  obtain ⟨x, x1, x2⟩ := List.any_eq_true.1 hn
  obtain ⟨o, o1, rfl⟩ := List.mem_map.1 x1
  obtain ⟨i, i1, i2⟩ := List.getElem_of_mem o1
  refine k2 i i1 ?_
  rw [List.getD_eq_getElem?_getD, List.getElem?_eq_getElem i1]
  show (R.objs[i].oop : Int) = oop
  rw [i2]
  simpa [roKey] using x2
set_option maxHeartbeats 1000000 in
theorem rmay_any (n f : Int) (w : World) :
  Calls Tryd.prog 57 #[.int .i64 n, .int .i64 f] w fun e w' => e = .returned (.bool (mayB n f)) ∧ w' = w := by
 have hK := rKind_any n w
 by_cases h1 : f = 1
 ·subst h1
  have e : Hid (mayB n 1 = decide (0 ≤ n ∧ n ≤ 255)) := by show mayB n 1 = _; unfold mayB; simp
  generalize mayB n 1 = q at *
  clear hK
  by_cases ha : 0 ≤ n
  ·go_enter Tryd.func57, Tryd.ntmps57
   go_wp2
   go_ret
   exact ⟨ret_bool (by rw [e.out]; simp [ha]), rfl⟩
  ·have ha' : n < 0 := by omega
   go_enter Tryd.func57, Tryd.ntmps57
   go_wp2
   go_ret
   exact ⟨ret_bool (by rw [e.out]; simp; omega), rfl⟩
 ·have hb : (f == 1) = false := by simpa using h1
  have e : Hid (mayB n f = (kindOf n != 0)) := by show mayB n f = _; unfold mayB; rw [if_neg h1]; rfl
  generalize mayB n f = q at *
  clear h1
  rcases kind_cases n with h | h | h | h
  all_goals
   rw [h] at hK e
   clear h
   go_enter Tryd.func57, Tryd.ntmps57
   go_wp2_with (go_at_call 56; refine hK.mono ?_; rintro e w' ⟨rfl, rfl⟩)
   go_ret
   exact ⟨ret_bool (by rw [e.out]; rfl), rfl⟩
def rEnd (l : List RO) : Nat := if l.length = 0 then 0 else (l.getD (l.length - 1) noRO).place + lenN (l.getD (l.length - 1) noRO).slots.length (l.getD (l.length - 1) noRO).fmt
structure ROk (R : RS) : Prop where
 len : R.objs.length ≤ 1048576
 place : ∀ o ∈ R.objs, o.place ≤ 1048576 ∧ o.slots.length ≤ 8192
theorem ROk.getD {R : RS} (h : ROk R) (k : Nat) (hk : k < R.objs.length) : (R.objs.getD k noRO).place ≤ 1048576 ∧ (R.objs.getD k noRO).slots.length ≤ 8192 := by
 rw [List.getD_eq_getElem?_getD, List.getElem?_eq_getElem hk]
 exact h.place _ (List.getElem_mem hk)
theorem RRep.vIs {w : World} {B r : Nat} {R : RS} (h : RRep w B r R) (k : Nat) (hk : k < R.objs.length) : ∃ p c, (R.objs.getD k noRO).v = .slice p (R.objs.getD k noRO).slots.length c := by
 have hm : R.objs.getD k noRO ∈ R.objs := by rw [List.getD_eq_getElem?_getD, List.getElem?_eq_getElem hk]; exact List.getElem_mem hk
 rcases (h.slots _ hm).2 with ⟨h2, h3⟩ | ⟨g, cap, cur, h2, h3⟩
 ·exact ⟨none, 0, by rw [h2, h3]⟩
 ·exact ⟨some ⟨g, 0, none⟩, cap, h2⟩
set_option maxRecDepth 20000 in
set_option maxHeartbeats 1000000 in
theorem rend_any (B r : Nat) (R : RS) (w : World) (h : RRep w B r R) (ho : ROk R) :
  Calls Tryd.prog 58 #[.pointer (some ⟨r, 0, none⟩)] w fun e w' => e = .returned (.int .i64 (rEnd R.objs : Nat)) ∧ Fr [] w w' := by
 obtain ⟨p, c, hov⟩ := h.ovIs
 have c5 : w.cell? ⟨r, 5, none⟩ = some (.slice p R.objs.length c) := by rw [h.c, ← hov]; rfl
 have hl := ho.len
 by_cases h0 : R.objs.length = 0
 ·have e : rEnd R.objs = 0 := by unfold rEnd; rw [if_pos h0]
  rw [e]
  rw [h0] at c5
  clear h hov
  go_enter Tryd.func58, Tryd.ntmps58
  go_wp2_with fail
  go_ret
  exact ⟨rfl, Fr.refl _ _⟩
 ·obtain ⟨g, c', hv, hc⟩ := h.at_ (by omega)
  rw [hov] at hv
  injection hv with hv1 hv2 hv3
  subst hv1
  obtain ⟨q0, q1, q2, q3, q4, q5⟩ := hc (R.objs.length - 1) (by omega)
  obtain ⟨p5, c5', hv5⟩ := h.vIs (R.objs.length - 1) (by omega)
  rw [hv5] at q5
  obtain ⟨o1, o2⟩ := ho.getD (R.objs.length - 1) (by omega)
  have e : Hid (rEnd R.objs = (R.objs.getD (R.objs.length - 1) noRO).place + lenN (R.objs.getD (R.objs.length - 1) noRO).slots.length (R.objs.getD (R.objs.length - 1) noRO).fmt) := by show rEnd R.objs = _; unfold rEnd; rw [if_neg h0]
  have k0 : ((R.objs.length : Int) == 0) = false := by simpa using (by omega : ¬ (R.objs.length : Int) = 0)
  have k1 : (0 : Int) ≤ (R.objs.length : Int) - 1 := by omega
  have k2 : (R.objs.length : Int) - 1 < (R.objs.length : Int) := by omega
  have k3 : ((R.objs.length : Int) - 1).toNat = R.objs.length - 1 := by omega
  have hll := lenN_le (R.objs.getD (R.objs.length - 1) noRO).slots.length (R.objs.getD (R.objs.length - 1) noRO).fmt
  have hgl : g < w.heap.size := World.block_lt_of_cell? w _ q0
  have hrl : r < w.heap.size := lt_of_heap h.top
  simp only [I] at q0 q1 q2 q3
  generalize rEnd R.objs = E at *
  generalize (R.objs.getD (R.objs.length - 1) noRO).oop = y0 at *
  generalize (R.objs.getD (R.objs.length - 1) noRO).fmt = y1 at *
  generalize (R.objs.getD (R.objs.length - 1) noRO).place = y2 at *
  generalize (R.objs.getD (R.objs.length - 1) noRO).born = y3 at *
  generalize (R.objs.getD (R.objs.length - 1) noRO).cls = y4 at *
  generalize (R.objs.getD (R.objs.length - 1) noRO).slots.length = y5 at *
  have HL := mkHid fun V => refLen_any y5 y1 V (by omega)
  clear h hc hov hv2 hv3 ho hv5
  go_enter Tryd.func58, Tryd.ntmps58
  go_wp2_with fail
  go_region
  all_goals go_wp2_with fail
  have F5 : Hid (Fr [] w ((w.alloc (.cells #[.int .i64 (y0 : Int), .int .i64 (y1 : Int), .int .i64 (y2 : Int), .int .i64 (y3 : Int), .int .i64 y4, .slice p5 y5 c5'] 114)).drew)) := (Fr.alloc [] w _).trans (Fr.drew [] _) (by simp)
  have hb5 : ((w.alloc (.cells #[.int .i64 (y0 : Int), .int .i64 (y1 : Int), .int .i64 (y2 : Int), .int .i64 (y3 : Int), .int .i64 y4, .slice p5 y5 c5'] 114)).drew).heap[w.heap.size]? = some (.cells #[.int .i64 (y0 : Int), .int .i64 (y1 : Int), .int .i64 (y2 : Int), .int .i64 (y3 : Int), .int .i64 y4, .slice p5 y5 c5'] 114 (0, 0)) := heap_alloc_new _ _
  generalize (w.alloc (.cells #[.int .i64 (y0 : Int), .int .i64 (y1 : Int), .int .i64 (y2 : Int), .int .i64 (y3 : Int), .int .i64 y4, .slice p5 y5 c5'] 114)).drew = W5 at *
  have x1 : W5.cell? ⟨w.heap.size, 1, none⟩ = some (.int .i64 (y1 : Int)) := by rw [cell_in hb5]; rfl
  have x2 : W5.cell? ⟨w.heap.size, 2, none⟩ = some (.int .i64 (y2 : Int)) := by rw [cell_in hb5]; rfl
  have x5 : W5.cell? ⟨w.heap.size, 5, none⟩ = some (.slice p5 y5 c5') := by rw [cell_in hb5]; rfl
  clear q0 q1 q2 q3 q4 q5 c5 hb5
  go_quiet ((go_at_call 59; exact Calls.quiet_of_same (HL.out _)))
  go_wp2_with fail
  go_ret
  refine ⟨ret_int ?_, ?_⟩
  ·rw [e.out]; push_cast; first | rfl | omega
  ·exact F5.out.trans (Fr.drewN [] _ _) (by simp)
end Go.Proofs.YtklfnjlenbgmoaaDoor
namespace Go.Proofs.YtklfnjlenbgmoaaDoor
open Go.RowKit
def allK (words oops : Nat) (ks : List Key) : Prop := ∀ (i : Nat) (o : Key), ks[i]? = some o → takesK words oops (ks.take i) o = true
theorem allK_snoc {words oops : Nat} {ks : List Key} {k : Key} (h : allK words oops ks) (hk : takesK words oops ks k = true) : allK words oops (ks ++ [k]) := by
 intro i o ho
 have hi := (List.getElem?_eq_some_iff.1 ho).1
 rw [List.length_append, List.length_singleton] at hi
 by_cases e : i < ks.length
 ·rw [List.getElem?_append_left e] at ho
  rw [List.take_append_of_le_length (by omega)]
  exact h i o ho
 ·have e2 : i = ks.length := by omega
  subst e2
  rw [List.getElem?_append_right (Nat.le_refl _), Nat.sub_self] at ho
  have : k = o := by simpa using ho
  subst this
  rw [List.take_append_of_le_length (Nat.le_refl _), List.take_length]
  exact hk
structure ROf (words oops mark : Nat) (ks : List Key) (R : RS) : Prop where
 eWords : R.words = words
 eOops : R.oops = oops
 eMark : R.mark = mark
 born : R.born = ks.length
 turn : R.turn = 0
 keys : R.objs.map roKey = ks
 fin : (rEnd R.objs : Int) = endK ks
 fits : endK ks ≤ (words : Int)
 twice : 2 * (ks.length : Int) ≤ endK ks
 slots : ∀ o ∈ R.objs, o.place ≤ words ∧ o.slots.length ≤ 8192
 good : allK words oops ks
 old : ∀ o ∈ R.objs, o.born < R.born
 lone : R.objs.Pairwise fun x o => ∀ g, o.v.ownBlock = some g → x.v.ownBlock ≠ some g
 pls : ∀ a x b, R.objs = a ++ x :: b → x.place = rEnd a
 rise : (R.objs.map RO.born).Pairwise (fun x y => x < y)
theorem ROf.len {words oops mark : Nat} {ks : List Key} {R : RS} (h : ROf words oops mark ks R) : R.objs.length = ks.length := by rw [← h.keys, List.length_map]
theorem ROf.ok {words oops mark : Nat} {ks : List Key} {R : RS} (h : ROf words oops mark ks R) (hw : words ≤ 1048576) : ROk R :=
 ⟨by have := h.len; have := h.fits; have := h.twice; omega, fun o ho => ⟨by have := (h.slots o ho).1; omega, (h.slots o ho).2⟩⟩
theorem rEnd_snoc (l : List RO) (o : RO) : rEnd (l ++ [o]) = o.place + lenN o.slots.length o.fmt := by
 unfold rEnd
 rw [List.length_append, List.length_singleton, if_neg (by omega), Nat.add_sub_cancel]
 have : (l ++ [o]).getD l.length noRO = o := by rw [List.getD_eq_getElem?_getD, List.getElem?_append_right (Nat.le_refl _)]; simp
 rw [this]
theorem takesK_yes {words oops : Nat} {ks : List Key} {k : Key} (h : takesK words oops ks k = true) : 1 ≤ k.1 ∧ k.1 ≤ (oops : Int) ∧ (ks.any fun x => x.1 == k.1) = false ∧ isW k.2.1 = true ∧ isF k.2.2.1 = true ∧ (k.2.2.2.length : Int) ≤ 8192 ∧ (∀ j, j < k.2.2.2.length → mayB (k.2.2.2.getD j 0) k.2.2.1 = true) ∧ endK ks + lenOf (k.2.2.2.length : Int) k.2.2.1 ≤ (words : Int) := by
 unfold takesK at h
 simp only [Bool.and_eq_true, Bool.not_eq_true', decide_eq_true_eq] at h
 obtain ⟨⟨⟨⟨⟨⟨⟨h1, h2⟩, h3⟩, h4⟩, h5⟩, h6⟩, h7⟩, h8⟩ := h
 refine ⟨h1, h2, h3, h4, h5, h6, fun j hj => ?_, h8⟩
 rw [List.all_eq_true] at h7
 have e : k.2.2.2.getD j 0 = k.2.2.2[j] := by rw [List.getD_eq_getElem?_getD, List.getElem?_eq_getElem hj]; rfl
 rw [e]
 exact h7 _ (List.getElem_mem hj)
theorem ROf.nil (words oops mark : Nat) (ov : Value) : ROf words oops mark [] ⟨words, oops, mark, 0, 0, [], ov⟩ :=
 ⟨rfl, rfl, rfl, rfl, rfl, rfl, rfl, by simp [endK], by simp [endK], by simp, fun i o ho => (by simp at ho), by simp, List.Pairwise.nil, fun a x b e => by simp at e, List.Pairwise.nil⟩
theorem ROf.snoc {words oops mark : Nat} {ks : List Key} {R : RS} (h : ROf words oops mark ks R) (o : RO) (ov : Value) (ht : takesK words oops ks (roKey o) = true) (hp : o.place = rEnd R.objs) (hb : o.born = R.born) (hn : ∀ x ∈ R.objs, ∀ g, o.v.ownBlock = some g → x.v.ownBlock ≠ some g) : ROf words oops mark (ks ++ [roKey o]) { R with objs := R.objs ++ [o], born := R.born + 1, ov := ov } := by
 obtain ⟨t1, t2, t3, t4, t5, t6, t7, t8⟩ := takesK_yes ht
 have hl : lenOf (o.slots.length : Int) (o.fmt : Int) = (lenN o.slots.length o.fmt : Nat) := lenOf_nat _ _
 have h2 := lenN_two o.slots.length o.fmt
 have e : endK (ks ++ [roKey o]) = endK ks + (lenN o.slots.length o.fmt : Nat) := by rw [endK_append]; simp only [endK, roKey]; omega
 have hf := h.fin
 simp only [roKey] at t8 t6
 refine ⟨h.eWords, h.eOops, h.eMark, by show R.born + 1 = _; rw [h.born, List.length_append]; rfl, h.turn, by show (R.objs ++ [o]).map roKey = _; rw [List.map_append, h.keys]; rfl, ?_, ?_, ?_, fun x hx => ?_, allK_snoc h.good ht, fun x hx => ?_, List.pairwise_append.2 ⟨h.lone, List.pairwise_singleton _ _, fun x hx y hy => by rw [List.mem_singleton.1 hy]; exact hn x hx⟩, fun a x b e => ?_, ?_⟩
 ·show (rEnd (R.objs ++ [o]) : Int) = _
  rw [rEnd_snoc, e, hp]
  omega
 ·rw [e]; omega
 ·rw [e, List.length_append, List.length_singleton]
  have := h.twice
  omega
 ·rcases List.mem_append.1 hx with h1 | h1
  ·exact h.slots x h1
  ·have : x = o := by simpa using h1
   rw [this]
   exact ⟨by omega, by omega⟩
 ·show x.born < R.born + 1
  rcases List.mem_append.1 hx with h1 | h1
  ·have := h.old x h1
   omega
  ·have : x = o := by simpa using h1
   rw [this, hb]
   omega
 ·have e2 : R.objs ++ [o] = a ++ x :: b := e
  rcases List.eq_nil_or_concat b with hb2 | ⟨b', u, hb2⟩
  ·subst hb2
   have h3 := List.append_inj' e2 rfl
   have h4 : o = x := by simpa using h3.2
   rw [← h4, ← h3.1]
   exact hp
  ·rw [hb2, List.concat_eq_append] at e2
   have e3 : R.objs ++ [o] = (a ++ x :: b') ++ [u] := by rw [e2]; simp
   exact h.pls a x b' (List.append_inj' e3 rfl).1
 ·show ((R.objs ++ [o]).map RO.born).Pairwise (fun x y => x < y)
  rw [List.map_append]
  refine List.pairwise_append.2 ⟨h.rise, List.pairwise_singleton _ _, fun x hx y hy => ?_⟩
  have e : y = o.born := by simpa using hy
  obtain ⟨z, z1, z2⟩ := List.mem_map.1 hx
  have := h.old z z1
  rw [e, hb]
  omega
theorem all_badK (f : Int → Bool) : ∀ ss : List Int, (ss.all f) = false → ∃ j, j < ss.length ∧ (∀ i, i < j → f (ss.getD i 0) = true) ∧ f (ss.getD j 0) = false
 | [], h => by simp at h
 | x :: t, h => by
  by_cases hx : f x = true
  ·have ht : t.all f = false := by simpa [hx] using h
   obtain ⟨j, hj, hg, hb⟩ := all_badK f t ht
   refine ⟨j + 1, by simpa using hj, fun i hi => ?_, by simpa using hb⟩
   rcases i with _ | i
   ·simpa using hx
   ·simpa using hg i (by omega)
  ·exact ⟨0, by simp, fun i hi => absurd hi (by omega), by simpa using hx⟩
theorem takesK_no {words oops : Nat} {ks : List Key} {k : Key} (h : takesK words oops ks k = false) :
  k.1 < 1 ∨ (1 ≤ k.1 ∧ (oops : Int) < k.1) ∨ (1 ≤ k.1 ∧ k.1 ≤ (oops : Int) ∧ (ks.any fun x => x.1 == k.1) = true) ∨
  (1 ≤ k.1 ∧ k.1 ≤ (oops : Int) ∧ (ks.any fun x => x.1 == k.1) = false ∧ (isW k.2.1 = false ∨ (isW k.2.1 = true ∧ (k.2.2.1 < 0 ∨ (0 ≤ k.2.2.1 ∧ 1 < k.2.2.1) ∨ (0 ≤ k.2.2.1 ∧ k.2.2.1 ≤ 1 ∧ (8192 < (k.2.2.2.length : Int) ∨ ((k.2.2.2.length : Int) ≤ 8192 ∧
   ((∃ j, j < k.2.2.2.length ∧ (∀ i, i < j → mayB (k.2.2.2.getD i 0) k.2.2.1 = true) ∧ mayB (k.2.2.2.getD j 0) k.2.2.1 = false) ∨ ((∀ j, j < k.2.2.2.length → mayB (k.2.2.2.getD j 0) k.2.2.1 = true) ∧ (words : Int) < endK ks + lenOf (k.2.2.2.length : Int) k.2.2.1))))))))) := by
 by_cases h1 : 1 ≤ k.1
 rotate_left
 ·left; omega
 right
 by_cases h2 : k.1 ≤ (oops : Int)
 rotate_left
 ·left; omega
 right
 by_cases h3 : (ks.any fun x => x.1 == k.1) = true
 ·left; exact ⟨h1, h2, h3⟩
 right
 have h3 : (ks.any fun x => x.1 == k.1) = false := Bool.eq_false_iff.2 h3
 refine ⟨h1, h2, h3, ?_⟩
 by_cases h4 : isW k.2.1 = true
 rotate_left
 ·left; simpa using h4
 right
 refine ⟨h4, ?_⟩
 by_cases h5 : 0 ≤ k.2.2.1
 rotate_left
 ·left; omega
 right
 by_cases h6 : k.2.2.1 ≤ 1
 rotate_left
 ·left; omega
 right
 refine ⟨h5, h6, ?_⟩
 by_cases h7 : (k.2.2.2.length : Int) ≤ 8192
 rotate_left
 ·left; omega
 right
 refine ⟨h7, ?_⟩
 by_cases h8 : (k.2.2.2.all fun x => mayB x k.2.2.1) = true
 ·right
  have hj : ∀ j, j < k.2.2.2.length → mayB (k.2.2.2.getD j 0) k.2.2.1 = true := fun j hj => by
   rw [List.all_eq_true] at h8
   have e : k.2.2.2.getD j 0 = k.2.2.2[j] := by rw [List.getD_eq_getElem?_getD, List.getElem?_eq_getElem hj]; rfl
   rw [e]
   exact h8 _ (List.getElem_mem hj)
  refine ⟨hj, ?_⟩
  by_cases h9 : endK ks + lenOf (k.2.2.2.length : Int) k.2.2.1 ≤ (words : Int)
  ·exfalso
   have : takesK words oops ks k = true := by
    unfold takesK
    have h5' : isF k.2.2.1 = true := by unfold isF; simp; omega
    rw [decide_eq_true h1, decide_eq_true h2, h3, h4, h5', decide_eq_true h7, h8, decide_eq_true h9]
    rfl
   rw [h] at this
   simp at this
  ·omega
 ·left
  have h8 : (k.2.2.2.all fun x => mayB x k.2.2.1) = false := by simpa using h8
  exact all_badK _ _ h8
end Go.Proofs.YtklfnjlenbgmoaaDoor
