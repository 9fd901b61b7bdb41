import Derived.Test.YtjeeibokdnepgaaSRLoad
namespace Go.Proofs.Ytjeeibokdnepgaa
open Go.RowKit Go.Maps Go.WideMaps
set_option linter.unusedVariables false
set_option linter.unusedSimpArgs false
/-- a table of the program and one of the document -/
structure TS where
  a : Nat
  l : Lay
  r : Nat
  p : Option Addr
  cap : Nat
  most : Nat
  ts : List ByteArray
  us : List ByteArray
def TS.foot (t : TS) : List Nat := Ytjeeibokdnepgaa.foot t.a t.l ++ foot2 t.r t.p
def ofoot (o : Option TS) : List Nat := match o with | none => [] | some t => t.foot
structure TOk (w : World) (t : TS) : Prop where
  own : TRep w t.a t.l t.most t.ts
  ref : RT w t.r t.p t.cap t.most t.us
  apart : ∀ g ∈ foot t.a t.l, g ∉ foot2 t.r t.p
theorem TOk.lt {w : World} {t : TS} (h : TOk w t) : ∀ g ∈ t.foot, g < w.heap.size := by
  intro g hg
  rcases List.mem_append.1 hg with h1 | h1
  · exact h.own.lt g h1
  · exact h.ref.lt g h1
theorem TOk.keep {w w' : World} {t : TS} {S : List Nat} (h : TOk w t) (hf : Fr S w w') (hd : ∀ g ∈ t.foot, g ∉ S) : TOk w' t :=
  ⟨h.own.keep hf (fun g hg => hd g (List.mem_append_left _ hg)), h.ref.keep hf (fun g hg => hd g (List.mem_append_right _ hg)), h.apart⟩
theorem TOk.ownNext {w w' : World} {t : TS} {l' : Lay} {ts' : List ByteArray} (h : TOk w t) (r : TRep w' t.a l' t.most ts') (n : Nx t.a t.l l' w w') :
    TOk w' { t with l := l', ts := ts' } ∧ Fr t.foot w w' ∧ ∀ g ∈ TS.foot { t with l := l', ts := ts' }, g ∈ t.foot ∨ w.heap.size ≤ g := by
  refine ⟨⟨r, h.ref.keep n.fr (fun g hg hm => h.apart g hm hg), fun g hg hm => ?_⟩, n.fr.mono (fun b hb => Or.inl (List.mem_append_left _ hb)), fun g hg => ?_⟩
  · rcases n.foot g hg with h1 | h1
    · exact h.apart g h1 hm
    · have := h.ref.lt g hm; omega
  · rcases List.mem_append.1 hg with h1 | h1
    · rcases n.foot g h1 with h2 | h2
      · exact Or.inl (List.mem_append_left _ h2)
      · exact Or.inr h2
    · exact Or.inl (List.mem_append_right _ h1)
theorem TOk.refNext {w w' : World} {t : TS} {p' : Option Addr} {cap' : Nat} {us' : List ByteArray} (h : TOk w t) (r : RT w' t.r p' cap' t.most us') (n : Nr t.r t.p p' w w') :
    TOk w' { t with p := p', cap := cap', us := us' } ∧ Fr t.foot w w' ∧ ∀ g ∈ TS.foot { t with p := p', cap := cap', us := us' }, g ∈ t.foot ∨ w.heap.size ≤ g := by
  refine ⟨⟨h.own.keep n.fr (fun g hg hm => h.apart g hg hm), r, fun g hg hm => ?_⟩, n.fr.mono (fun b hb => Or.inl (List.mem_append_right _ hb)), fun g hg => ?_⟩
  · rcases n.foot g hm with h1 | h1
    · exact h.apart g hg h1
    · have := h.own.lt g hg; omega
  · rcases List.mem_append.1 hg with h1 | h1
    · exact Or.inl (List.mem_append_left _ h1)
    · rcases n.foot g h1 with h2 | h2
      · exact Or.inl (List.mem_append_right _ h2)
      · exact Or.inr h2
def vOwn (o : Option TS) : Option Addr := o.map fun t => ⟨t.a, 0, none⟩
def vRef (o : Option TS) : Option Addr := o.map fun t => ⟨t.r, 0, none⟩
abbrev Cont := Option (Nat × List ByteArray × List ByteArray)
def cont (o : Option TS) : Cont := o.map fun t => (t.most, t.ts, t.us)
def updB {α : Type} (o : Bool → α) (j : Bool) (x : α) : Bool → α := fun k => if k = j then x else o k
theorem updB_self {α : Type} (o : Bool → α) (j : Bool) : updB o j (o j) = o := by
  funext k
  unfold updB
  by_cases e : k = j
  · rw [if_pos e, e]
  · rw [if_neg e]
theorem updB_at {α : Type} (o : Bool → α) (j : Bool) (x : α) : updB o j x j = x := by unfold updB; rw [if_pos rfl]
theorem updB_two {α : Type} (o : Bool → α) (j : Bool) (x y : α) : updB (updB o j x) j y = updB o j y := by
  funext k
  unfold updB
  by_cases e : k = j
  · rw [if_pos e, if_pos e]
  · rw [if_neg e, if_neg e, if_neg e]
/-- the shelf at block sh, its tables beside one another -/
structure Shelf (w0 w : World) (sh : Nat) (o : Bool → Option TS) (X : Nat → Obj → Prop) : Prop where
  top : w.heap[sh]? = some (.cells #[.pointer (vOwn (o false)), .pointer (vOwn (o true)), .pointer (vRef (o false)), .pointer (vRef (o true))] 57 (0, 0))
  ok : ∀ j t, o j = some t → TOk w t
  apart : ∀ j g, g ∈ ofoot (o j) → g ∉ ofoot (o !j)
  shn : ∀ j, sh ∉ ofoot (o j)
  base : w0.heap.size ≤ sh ∧ ∀ j, ∀ g ∈ ofoot (o j), w0.heap.size ≤ g
  fr : Fr [] w0 w
  rest : ∀ g ob, X g ob → w.heap[g]? = some ob ∧ g ≠ sh ∧ ∀ j, g ∉ ofoot (o j)
theorem Shelf.lt {w0 w : World} {sh : Nat} {o : Bool → Option TS} {X : Nat → Obj → Prop} (h : Shelf w0 w sh o X) (j : Bool) : ∀ g ∈ ofoot (o j), g < w.heap.size := by
  intro g hg
  cases ho : o j with
  | none => rw [ho] at hg; simp [ofoot] at hg
  | some t => rw [ho] at hg; exact (h.ok j t ho).lt g hg
theorem Shelf.idle {w0 w w' : World} {sh : Nat} {o : Bool → Option TS} {X : Nat → Obj → Prop} (h : Shelf w0 w sh o X) (hf : Fr [] w w') : Shelf w0 w' sh o X :=
  ⟨(hf.block sh (lt_of_heap h.top) (by simp)).trans h.top, fun j t ho => (h.ok j t ho).keep hf (by simp), h.apart, h.shn, h.base, h.fr.trans hf (by simp), fun g ob hx => ⟨(hf.block g (lt_of_heap (h.rest g ob hx).1) (by simp)).trans (h.rest g ob hx).1, (h.rest g ob hx).2⟩⟩
theorem Shelf.change {w0 w w' : World} {sh : Nat} {o : Bool → Option TS} {X : Nat → Obj → Prop} (h : Shelf w0 w sh o X) (j : Bool) {t t' : TS} (ho : o j = some t) (ha : t'.a = t.a) (hr : t'.r = t.r) (k : TOk w' t') (hf : Fr t.foot w w') (hg : ∀ g ∈ t'.foot, g ∈ t.foot ∨ w.heap.size ≤ g) :
    Shelf w0 w' sh (updB o j (some t')) X := by
  have hfo : ∀ g, g ∈ t.foot → g ∈ ofoot (o j) := fun g hg => by rw [ho]; exact hg
  have hsh := lt_of_heap h.top
  have hot : ∀ i, i ≠ j → updB o j (some t') i = o i := fun i hi => by unfold updB; rw [if_neg hi]
  have hvo : ∀ i, vOwn (updB o j (some t') i) = vOwn (o i) := fun i => by
    by_cases e : i = j
    · subst e; rw [updB_at, ho]; simp [vOwn, ha]
    · rw [hot i e]
  have hvr : ∀ i, vRef (updB o j (some t') i) = vRef (o i) := fun i => by
    by_cases e : i = j
    · subst e; rw [updB_at, ho]; simp [vRef, hr]
    · rw [hot i e]
  have hnew : ∀ g ∈ ofoot (updB o j (some t') j), g ∈ ofoot (o j) ∨ w.heap.size ≤ g := fun g hm => by
    rw [updB_at] at hm
    rcases hg g hm with h1 | h1
    · exact Or.inl (hfo g h1)
    · exact Or.inr h1
  refine ⟨?_, fun i x hx => ?_, fun i g hi hni => ?_, fun i hi => ?_, ⟨h.base.1, fun i g hi => ?_⟩, h.fr.trans hf (fun g hm => Or.inr (h.base.2 j g (hfo g hm))), fun g ob hx => ⟨(hf.block g (lt_of_heap (h.rest g ob hx).1) (fun hm => (h.rest g ob hx).2.2 j (hfo g hm))).trans (h.rest g ob hx).1, (h.rest g ob hx).2.1, fun i hi => ?_⟩⟩
  · rw [hvo, hvo, hvr, hvr]
    exact (hf.block sh hsh (fun hm => h.shn j (hfo sh hm))).trans h.top
  · by_cases e : i = j
    · subst e; rw [updB_at] at hx; injection hx with hx; subst hx; exact k
    · rw [hot i e] at hx
      have e2 : i = !j := by cases i <;> cases j <;> simp_all
      refine (h.ok i x hx).keep hf (fun g hm hm2 => h.apart j g (hfo g hm2) ?_)
      rw [← e2, hx]
      exact hm
  · by_cases e : i = j
    · subst e
      rw [hot _ (by cases i <;> simp)] at hni
      rcases hnew g hi with h1 | h1
      · exact h.apart i g h1 hni
      · have := h.lt _ g hni; omega
    · have e2 : i = !j := by cases i <;> cases j <;> simp_all
      rw [hot i e] at hi
      subst e2
      rw [Bool.not_not] at hni
      rcases hnew g hni with h1 | h1
      · exact h.apart j g h1 hi
      · have := h.lt _ g hi; omega
  · by_cases e : i = j
    · subst e
      rcases hnew sh hi with h1 | h1
      · exact h.shn i h1
      · omega
    · rw [hot i e] at hi
      exact h.shn i hi
  · by_cases e : i = j
    · subst e
      rcases hnew g hi with h1 | h1
      · exact h.base.2 i g h1
      · exact Nat.le_trans h.fr.size h1
    · rw [hot i e] at hi
      exact h.base.2 i g hi
  · by_cases e : i = j
    · subst e
      rcases hnew g hi with h1 | h1
      · exact (h.rest g ob hx).2.2 i h1
      · have := lt_of_heap (h.rest g ob hx).1; omega
    · rw [hot i e] at hi
      exact (h.rest g ob hx).2.2 i hi
/-- the shelf by what can be seen: where its tables lie, and what they have -/
structure Sh (w0 w : World) (sh : Nat) (v : Bool → Option Addr × Option Addr) (c : Bool → Cont) (X : Nat → Obj → Prop) : Prop where
  at_ : ∃ o, Shelf w0 w sh o X ∧ (∀ j, v j = (vOwn (o j), vRef (o j))) ∧ (∀ j, c j = cont (o j))
theorem Sh.idle {w0 w w' : World} {sh : Nat} {v : Bool → Option Addr × Option Addr} {c : Bool → Cont} {X : Nat → Obj → Prop} (h : Sh w0 w sh v c X) (hf : Fr [] w w') : Sh w0 w' sh v c X := by
  obtain ⟨o, h1, h2, h3⟩ := h.at_
  exact ⟨o, h1.idle hf, h2, h3⟩
theorem Sh.fr {w0 w : World} {sh : Nat} {v : Bool → Option Addr × Option Addr} {c : Bool → Cont} {X : Nat → Obj → Prop} (h : Sh w0 w sh v c X) : Fr [] w0 w := by
  obtain ⟨o, h1, h2, h3⟩ := h.at_
  exact h1.fr
theorem Sh.change {w0 w w' : World} {sh : Nat} {v : Bool → Option Addr × Option Addr} {c : Bool → Cont} {o : Bool → Option TS} {X : Nat → Obj → Prop} {j : Bool} {t t' : TS} (h1 : Shelf w0 w sh o X) (h2 : ∀ j, v j = (vOwn (o j), vRef (o j))) (h3 : ∀ j, c j = cont (o j)) (ho : o j = some t) (ha : t'.a = t.a) (hr : t'.r = t.r) (k : TOk w' t') (hf : Fr t.foot w w') (hg : ∀ g ∈ t'.foot, g ∈ t.foot ∨ w.heap.size ≤ g) :
    Sh w0 w' sh v (updB c j (some (t'.most, t'.ts, t'.us))) X := by
  refine ⟨_, h1.change j ho ha hr k hf hg, fun i => ?_, fun i => ?_⟩
  · rw [h2 i]
    unfold updB
    by_cases e : i = j
    · rw [if_pos e, e, ho]; simp [vOwn, vRef, ha, hr]
    · rw [if_neg e]
  · unfold updB
    by_cases e : i = j
    · rw [if_pos e, if_pos e]; rfl
    · rw [if_neg e, if_neg e]; exact h3 i
section
variable {w0 w : World} {sh : Nat} {v : Bool → Option Addr × Option Addr} {c : Bool → Cont} {X : Nat → Obj → Prop}
theorem Sh.atNone (h : Sh w0 w sh v c X) {j : Bool} (hc : c j = none) : v j = (none, none) := by
  obtain ⟨o, h1, h2, h3⟩ := h.at_
  rw [h3 j] at hc
  cases ho : o j with
  | none => rw [h2 j, ho]; rfl
  | some t => rw [ho] at hc; cases hc
theorem Sh.atSome (h : Sh w0 w sh v c X) {j : Bool} {x : Nat × List ByteArray × List ByteArray} (hc : c j = some x) : ∃ o t, Shelf w0 w sh o X ∧ (∀ j, v j = (vOwn (o j), vRef (o j))) ∧ (∀ j, c j = cont (o j)) ∧ o j = some t ∧ TOk w t ∧ v j = (some ⟨t.a, 0, none⟩, some ⟨t.r, 0, none⟩) ∧ x = (t.most, t.ts, t.us) := by
  obtain ⟨o, h1, h2, h3⟩ := h.at_
  have hc2 := hc
  rw [h3 j] at hc2
  cases ho : o j with
  | none => rw [ho] at hc2; cases hc2
  | some t =>
    rw [ho] at hc2
    injection hc2 with hc2
    exact ⟨o, t, h1, h2, h3, ho, h1.ok j t ho, by rw [h2 j, ho]; rfl, hc2.symm⟩
def cN (c : Cont) (s : ByteArray) : Int := match c with | none => 0 | some x => addN x.1 x.2.1 s
def cE (c : Cont) (s : ByteArray) : Int := match c with | none => 2 | some x => addE x.1 x.2.1 s
def rN (c : Cont) (s : ByteArray) : Int := match c with | none => 0 | some x => addN x.1 x.2.2 s
def rE (c : Cont) (s : ByteArray) : Int := match c with | none => 2 | some x => addE x.1 x.2.2 s
def cTs (c : Cont) : List ByteArray := match c with | none => [] | some x => x.2.1
def rTs (c : Cont) : List ByteArray := match c with | none => [] | some x => x.2.2
theorem lookN_none : lookN none = 0 := rfl
theorem cN_none (s : ByteArray) : cN none s = 0 := rfl
theorem cE_none (s : ByteArray) : cE none s = 2 := rfl
theorem rN_none (s : ByteArray) : rN none s = 0 := rfl
theorem rE_none (s : ByteArray) : rE none s = 2 := rfl
theorem cTs_none : cTs none = [] := rfl
theorem rTs_none : rTs none = [] := rfl
theorem cN_some (x : Nat × List ByteArray × List ByteArray) (s : ByteArray) : cN (some x) s = addN x.1 x.2.1 s := rfl
theorem cE_some (x : Nat × List ByteArray × List ByteArray) (s : ByteArray) : cE (some x) s = addE x.1 x.2.1 s := rfl
theorem rN_some (x : Nat × List ByteArray × List ByteArray) (s : ByteArray) : rN (some x) s = addN x.1 x.2.2 s := rfl
theorem rE_some (x : Nat × List ByteArray × List ByteArray) (s : ByteArray) : rE (some x) s = addE x.1 x.2.2 s := rfl
theorem cTs_some (x : Nat × List ByteArray × List ByteArray) : cTs (some x) = x.2.1 := rfl
theorem rTs_some (x : Nat × List ByteArray × List ByteArray) : rTs (some x) = x.2.2 := rfl
theorem sh_add (h : Sh w0 w sh v c X) (j : Bool) (s : ByteArray) (hs : s.size ≤ 140737488355328) :
    Calls Try.prog 10 #[.pointer (v j).1, .string s] w fun e w' => e = .returned (.tuple #[.int .i64 (cN (c j) s), .int .i64 (cE (c j) s)]) ∧ Sh w0 w' sh v (updB c j ((c j).map fun x => (x.1, addT x.1 x.2.1 s, x.2.2))) X := by
  cases hc : c j with
  | none =>
    rw [h.atNone hc]
    simp only [cN_none, cE_none, rN_none, rE_none, cTs_none, rTs_none]
    refine (Add_nil none s w (Or.inl rfl)).mono ?_
    rintro e w' ⟨rfl, rfl⟩
    refine ⟨rfl, ?_⟩
    rw [show (Option.map (fun x : Nat × List ByteArray × List ByteArray => (x.1, addT x.1 x.2.1 s, x.2.2)) none) = c j from hc.symm, updB_self]
    exact h
  | some x =>
    obtain ⟨o, t, h1, h2, h3, ho, hk, hv, rfl⟩ := h.atSome hc
    rw [hv]
    simp only [cN_some, cE_some, rN_some, rE_some, cTs_some, rTs_some, Option.map_some]
    refine (Add_ok s t.a t.l t.most t.ts w hk.own hs).mono ?_
    rintro e w' ⟨rfl, l', r, n⟩
    obtain ⟨k1, k2, k3⟩ := hk.ownNext r n
    exact ⟨rfl, Sh.change (t' := { t with l := l', ts := addT t.most t.ts s }) h1 h2 h3 ho rfl rfl k1 k2 k3⟩
theorem sh_radd (h : Sh w0 w sh v c X) (j : Bool) (s : ByteArray) :
    Calls Try.prog 25 #[.pointer (v j).2, .string s] w fun e w' => e = .returned (.tuple #[.int .i64 (rN (c j) s), .int .i64 (rE (c j) s)]) ∧ Sh w0 w' sh v (updB c j ((c j).map fun x => (x.1, x.2.1, addT x.1 x.2.2 s))) X := by
  cases hc : c j with
  | none =>
    rw [h.atNone hc]
    simp only [cN_none, cE_none, rN_none, rE_none, cTs_none, rTs_none]
    refine (rAdd_nil s w).mono ?_
    rintro e w' ⟨rfl, rfl⟩
    refine ⟨rfl, ?_⟩
    rw [show (Option.map (fun x : Nat × List ByteArray × List ByteArray => (x.1, x.2.1, addT x.1 x.2.2 s)) none) = c j from hc.symm, updB_self]
    exact h
  | some x =>
    obtain ⟨o, t, h1, h2, h3, ho, hk, hv, rfl⟩ := h.atSome hc
    rw [hv]
    simp only [cN_some, cE_some, rN_some, rE_some, cTs_some, rTs_some, Option.map_some]
    refine (rAdd_ok s t.r t.p t.cap t.most t.us w hk.ref).mono ?_
    rintro e w' ⟨rfl, p', cap', r, n⟩
    obtain ⟨k1, k2, k3⟩ := hk.refNext r n
    exact ⟨rfl, Sh.change (t' := { t with p := p', cap := cap', us := addT t.most t.us s }) h1 h2 h3 ho rfl rfl k1 k2 k3⟩
theorem sh_find (h : Sh w0 w sh v c X) (j : Bool) (s : ByteArray) (hs : s.size ≤ 140737488355328) :
    Calls Try.prog 15 #[.pointer (v j).1, .string s] w fun e w' => e = .returned (.tuple #[.int .i64 (lookN (pos (cTs (c j)) s)), .bool (pos (cTs (c j)) s).isSome]) ∧ w' = w := by
  cases hc : c j with
  | none =>
    rw [h.atNone hc]
    simp only [cN_none, cE_none, rN_none, rE_none, cTs_none, rTs_none, pos, lookN_none, Option.isSome_none, List.length_nil]
    exact Find_nil none s w (Or.inl rfl)
  | some x =>
    obtain ⟨o, t, h1, h2, h3, ho, hk, hv, rfl⟩ := h.atSome hc
    rw [hv]
    simp only [cN_some, cE_some, rN_some, rE_some, cTs_some, rTs_some, Option.map_some]
    exact Find_any s t.a t.l t.most t.ts w hk.own hs
theorem sh_rfind (h : Sh w0 w sh v c X) (j : Bool) (s : ByteArray) :
    Calls Try.prog 39 #[.pointer (v j).2, .string s] w fun e w' => e = .returned (.tuple #[.int .i64 (lookN (pos (rTs (c j)) s)), .bool (pos (rTs (c j)) s).isSome]) ∧ w' = w := by
  cases hc : c j with
  | none =>
    rw [h.atNone hc]
    simp only [cN_none, cE_none, rN_none, rE_none, cTs_none, rTs_none, pos, lookN_none, Option.isSome_none, List.length_nil]
    exact rFind_nil s w
  | some x =>
    obtain ⟨o, t, h1, h2, h3, ho, hk, hv, rfl⟩ := h.atSome hc
    rw [hv]
    simp only [cN_some, cE_some, rN_some, rE_some, cTs_some, rTs_some, Option.map_some]
    exact rFind_any s t.r t.p t.cap t.most t.us w hk.ref
def txt (c : Cont) (l : List ByteArray) (n : Int) : ByteArray := if c.isNone ∨ n < 0 ∨ (l.length : Int) ≤ n then ⟨#[]⟩ else l.getD n.toNat ⟨#[]⟩
def txtE (c : Cont) (l : List ByteArray) (n : Int) : Int := if c.isNone then 2 else if n < 0 ∨ (l.length : Int) ≤ n then 61 else 0
theorem txt_none (l : List ByteArray) (n : Int) : txt none l n = ⟨#[]⟩ := by unfold txt; exact if_pos (Or.inl rfl)
theorem txtE_none (l : List ByteArray) (n : Int) : txtE none l n = 2 := by rfl
theorem sh_text (h : Sh w0 w sh v c X) (j : Bool) (n : Int) :
    Calls Try.prog 19 #[.pointer (v j).1, .int .i64 n] w fun e w' => e = .returned (.tuple #[.string (txt (c j) (cTs (c j)) n), .int .i64 (txtE (c j) (cTs (c j)) n)]) ∧ w' = w := by
  cases hc : c j with
  | none =>
    rw [h.atNone hc]
    simp only [cN_none, cE_none, rN_none, rE_none, cTs_none, rTs_none, pos, lookN_none, Option.isSome_none, List.length_nil, txt_none, txtE_none]
    exact Text_nil none n w (Or.inl rfl)
  | some x =>
    obtain ⟨o, t, h1, h2, h3, ho, hk, hv, rfl⟩ := h.atSome hc
    rw [hv]
    simp only [cN_some, cE_some, rN_some, rE_some, cTs_some, rTs_some, Option.map_some]
    unfold txt txtE
    by_cases hn : n < 0 ∨ (t.ts.length : Int) ≤ n
    · rw [if_pos (Or.inr hn), if_neg (by simp), if_pos hn]
      exact Text_no n t.a t.l t.most t.ts w hk.own hn
    · obtain ⟨m, rfl⟩ : ∃ m : Nat, n = (m : Int) := ⟨n.toNat, by omega⟩
      rw [if_neg (fun h => by rcases h with h | h; (· simp at h); (· exact hn h)), if_neg (by simp), if_neg hn]
      exact Text_in m t.a t.l t.most t.ts w hk.own (by omega)
theorem sh_rtext (h : Sh w0 w sh v c X) (j : Bool) (n : Int) :
    Calls Try.prog 40 #[.pointer (v j).2, .int .i64 n] w fun e w' => e = .returned (.tuple #[.string (txt (c j) (rTs (c j)) n), .int .i64 (txtE (c j) (rTs (c j)) n)]) ∧ w' = w := by
  cases hc : c j with
  | none =>
    rw [h.atNone hc]
    simp only [cN_none, cE_none, rN_none, rE_none, cTs_none, rTs_none, pos, lookN_none, Option.isSome_none, List.length_nil, txt_none, txtE_none]
    exact rText_nil n w
  | some x =>
    obtain ⟨o, t, h1, h2, h3, ho, hk, hv, rfl⟩ := h.atSome hc
    rw [hv]
    simp only [cN_some, cE_some, rN_some, rE_some, cTs_some, rTs_some, Option.map_some]
    unfold txt txtE
    by_cases hn : n < 0 ∨ (t.us.length : Int) ≤ n
    · rw [if_pos (Or.inr hn), if_neg (by simp), if_pos hn]
      exact rText_no n t.r t.p t.cap t.most t.us w hk.ref hn
    · obtain ⟨m, rfl⟩ : ∃ m : Nat, n = (m : Int) := ⟨n.toNat, by omega⟩
      rw [if_neg (fun h => by rcases h with h | h; (· simp at h); (· exact hn h)), if_neg (by simp), if_neg hn]
      exact rText_in m t.r t.p t.cap t.most t.us w hk.ref (by omega)
theorem sh_count (h : Sh w0 w sh v c X) (j : Bool) : Calls Try.prog 9 #[.pointer (v j).1] w fun e w' => e = .returned (.int .i64 ((cTs (c j)).length : Int)) ∧ w' = w := by
  cases hc : c j with
  | none =>
    rw [h.atNone hc]
    simp only [cN_none, cE_none, rN_none, rE_none, cTs_none, rTs_none, pos, lookN_none, Option.isSome_none, List.length_nil, txt_none, txtE_none]
    exact Count_nil none w (Or.inl rfl)
  | some x =>
    obtain ⟨o, t, h1, h2, h3, ho, hk, hv, rfl⟩ := h.atSome hc
    rw [hv]
    simp only [cN_some, cE_some, rN_some, rE_some, cTs_some, rTs_some, Option.map_some]
    exact Count_any t.a t.l t.most t.ts w hk.own
theorem sh_rcount (h : Sh w0 w sh v c X) (j : Bool) : Calls Try.prog 26 #[.pointer (v j).2] w fun e w' => e = .returned (.int .i64 ((rTs (c j)).length : Int)) ∧ w' = w := by
  cases hc : c j with
  | none =>
    rw [h.atNone hc]
    simp only [cN_none, cE_none, rN_none, rE_none, cTs_none, rTs_none, pos, lookN_none, Option.isSome_none, List.length_nil, txt_none, txtE_none]
    exact rCount_nil w
  | some x =>
    obtain ⟨o, t, h1, h2, h3, ho, hk, hv, rfl⟩ := h.atSome hc
    rw [hv]
    simp only [cN_some, cE_some, rN_some, rE_some, cTs_some, rTs_some, Option.map_some]
    exact rCount_any t.r t.p t.cap t.most t.us w hk.ref
theorem own_shape {w : World} {base n : Nat} {x : Value} {ss : List ByteArray} (h : w.ownsRow base 9 1 x n (ss.map Value.string)) : ∃ p c, x = .slice p n c := by
  rcases h.2 with ⟨h2, h3⟩ | ⟨g, cap, cur, h2, h3⟩
  · exact ⟨none, 0, by rw [h2, h3]⟩
  · exact ⟨_, _, h2⟩
theorem sh_all (h : Sh w0 w sh v c X) (j : Bool) : Calls Try.prog 14 #[.pointer (v j).1] w fun e w' => ∃ p k, e = .returned (.slice p (cTs (c j)).length k) ∧ w'.ownsRow w.heap.size 9 1 (.slice p (cTs (c j)).length k) (cTs (c j)).length ((cTs (c j)).map Value.string) ∧ Fr [] w w' := by
  cases hc : c j with
  | none =>
    rw [h.atNone hc]
    simp only [cN_none, cE_none, rN_none, rE_none, cTs_none, rTs_none]
    refine (All_nil none w (Or.inl rfl)).mono ?_
    rintro e w' ⟨rfl, rfl⟩
    exact ⟨none, 0, rfl, World.ownsRow_nil _ _ _ _, Fr.refl _ _⟩
  | some x =>
    obtain ⟨o, t, h1, h2, h3, ho, hk, hv, rfl⟩ := h.atSome hc
    rw [hv]
    simp only [cN_some, cE_some, rN_some, rE_some, cTs_some, rTs_some, Option.map_some]
    refine (All_ok t.a t.l t.most t.ts w hk.own).mono ?_
    rintro e w' ⟨v', rfl, r, hf⟩
    obtain ⟨p, k, rfl⟩ := own_shape r
    exact ⟨p, k, rfl, r, hf⟩
theorem sh_rall (h : Sh w0 w sh v c X) (j : Bool) : Calls Try.prog 24 #[.pointer (v j).2] w fun e w' => ∃ p k, e = .returned (.slice p (rTs (c j)).length k) ∧ w'.ownsRow w.heap.size 9 1 (.slice p (rTs (c j)).length k) (rTs (c j)).length ((rTs (c j)).map Value.string) ∧ Fr [] w w' := by
  cases hc : c j with
  | none =>
    rw [h.atNone hc]
    simp only [cN_none, cE_none, rN_none, rE_none, cTs_none, rTs_none]
    refine (rAll_nil w).mono ?_
    rintro e w' ⟨rfl, rfl⟩
    exact ⟨none, 0, rfl, World.ownsRow_nil _ _ _ _, Fr.refl _ _⟩
  | some x =>
    obtain ⟨o, t, h1, h2, h3, ho, hk, hv, rfl⟩ := h.atSome hc
    rw [hv]
    simp only [cN_some, cE_some, rN_some, rE_some, cTs_some, rTs_some, Option.map_some]
    exact rAll_ok t.r t.p t.cap t.most t.us w hk.ref
def backE (c : Cont) (l : List ByteArray) (n : Int) : Int := if c.isNone then 2 else if n < 0 ∨ (l.length : Int) < n then 1 else 0
def backT (l : List ByteArray) (n : Int) : List ByteArray := if n < 0 ∨ (l.length : Int) < n then l else l.take n.toNat
theorem backE_none (l : List ByteArray) (n : Int) : backE none l n = 2 := by rfl
theorem sh_back (h : Sh w0 w sh v c X) (j : Bool) (n : Int) :
    Calls Try.prog 11 #[.pointer (v j).1, .int .i64 n] w fun e w' => e = .returned (.int .i64 (backE (c j) (cTs (c j)) n)) ∧ Sh w0 w' sh v (updB c j ((c j).map fun x => (x.1, backT x.2.1 n, x.2.2))) X := by
  cases hc : c j with
  | none =>
    rw [h.atNone hc]
    simp only [backE_none]
    refine (Back_nil none n w (Or.inl rfl)).mono ?_
    rintro e w' ⟨rfl, rfl⟩
    refine ⟨rfl, ?_⟩
    rw [show (Option.map (fun x : Nat × List ByteArray × List ByteArray => (x.1, backT x.2.1 n, x.2.2)) none) = c j from hc.symm, updB_self]
    exact h
  | some x =>
    obtain ⟨o, t, h1, h2, h3, ho, hk, hv, rfl⟩ := h.atSome hc
    rw [hv]
    simp only [cN_some, cE_some, rN_some, rE_some, cTs_some, rTs_some, Option.map_some]
    unfold backE
    by_cases hn : n < 0 ∨ (t.ts.length : Int) < n
    · refine (Back_no n t.a t.l t.most t.ts w hk.own hn).mono ?_
      rintro e w' ⟨rfl, rfl⟩
      rw [if_neg (by simp), if_pos hn]
      refine ⟨rfl, ?_⟩
      have e1 : some (t.most, backT t.ts n, t.us) = c j := by
        rw [hc]; simp [backT, hn]
      rw [e1, updB_self]
      exact h
    · obtain ⟨m, rfl⟩ : ∃ m : Nat, n = (m : Int) := ⟨n.toNat, by omega⟩
      refine (Back_in m t.a t.l t.most t.ts w hk.own (by omega)).mono ?_
      rintro e w' ⟨rfl, r, n⟩
      rw [if_neg (by simp), if_neg hn]
      obtain ⟨k1, k2, k3⟩ := hk.ownNext r ⟨n, fun g hg => Or.inl hg⟩
      refine ⟨rfl, ?_⟩
      have := Sh.change (t' := { t with ts := t.ts.take m }) h1 h2 h3 ho rfl rfl k1 k2 k3
      have e1 : backT t.ts (m : Int) = t.ts.take m := by unfold backT; rw [if_neg hn]; simp
      simpa [e1] using this
theorem sh_rback (h : Sh w0 w sh v c X) (j : Bool) (n : Int) :
    Calls Try.prog 41 #[.pointer (v j).2, .int .i64 n] w fun e w' => e = .returned (.int .i64 (backE (c j) (rTs (c j)) n)) ∧ Sh w0 w' sh v (updB c j ((c j).map fun x => (x.1, x.2.1, backT x.2.2 n))) X := by
  cases hc : c j with
  | none =>
    rw [h.atNone hc]
    simp only [backE_none]
    refine (rBack_nil n w).mono ?_
    rintro e w' ⟨rfl, rfl⟩
    refine ⟨rfl, ?_⟩
    rw [show (Option.map (fun x : Nat × List ByteArray × List ByteArray => (x.1, x.2.1, backT x.2.2 n)) none) = c j from hc.symm, updB_self]
    exact h
  | some x =>
    obtain ⟨o, t, h1, h2, h3, ho, hk, hv, rfl⟩ := h.atSome hc
    rw [hv]
    simp only [cN_some, cE_some, rN_some, rE_some, cTs_some, rTs_some, Option.map_some]
    unfold backE
    by_cases hn : n < 0 ∨ (t.us.length : Int) < n
    · refine (rBack_no n t.r t.p t.cap t.most t.us w hk.ref hn).mono ?_
      rintro e w' ⟨rfl, rfl⟩
      rw [if_neg (by simp), if_pos hn]
      refine ⟨rfl, ?_⟩
      have e1 : some (t.most, t.ts, backT t.us n) = c j := by
        rw [hc]; simp [backT, hn]
      rw [e1, updB_self]
      exact h
    · obtain ⟨m, rfl⟩ : ∃ m : Nat, n = (m : Int) := ⟨n.toNat, by omega⟩
      refine (rBack_in m t.r t.p t.cap t.most t.us w hk.ref (by omega)).mono ?_
      rintro e w' ⟨rfl, p', cap', r, n⟩
      rw [if_neg (by simp), if_neg hn]
      obtain ⟨k1, k2, k3⟩ := hk.refNext r n
      refine ⟨rfl, ?_⟩
      have := Sh.change (t' := { t with p := p', cap := cap', us := t.us.take m }) h1 h2 h3 ho rfl rfl k1 k2 k3
      have e1 : backT t.us (m : Int) = t.us.take m := by unfold backT; rw [if_neg hn]; simp
      simpa [e1] using this
end
end Go.Proofs.Ytjeeibokdnepgaa
