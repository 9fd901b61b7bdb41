import Derived.Test.YtjeeibokdnepgaaSLong
namespace Go.Proofs.Ytjeeibokdnepgaa
open Go.RowKit Go.Maps Go.WideMaps
set_option linter.unusedVariables false
set_option linter.unusedSimpArgs false
/-- two tables, the program's and the document's, or none; they lie from block B on -/
structure Po (B : Nat) (w : World) (va vr : Option Addr) (c : Cont) : Prop where
  at_ : ∃ o : Option TS, (∀ t, o = some t → TOk w t) ∧ (∀ g ∈ ofoot o, B ≤ g) ∧ va = vOwn o ∧ vr = vRef o ∧ c = cont o
  le : B ≤ w.heap.size
theorem Po.keep {B : Nat} {w w' : World} {va vr : Option Addr} {c : Cont} {S : List Nat} (h : Po B w va vr c) (hf : Fr S w w') (hS : ∀ g ∈ S, g < B) : Po B w' va vr c := by
  obtain ⟨o, h1, h2, h3, h4, h5⟩ := h.at_
  refine ⟨⟨o, fun t ht => (h1 t ht).keep hf (fun g hg hm => ?_), h2, h3, h4, h5⟩, Nat.le_trans h.le hf.size⟩
  have := hS g hm
  have := h2 g (by rw [ht]; exact hg)
  omega
theorem Po.idle {B : Nat} {w w' : World} {va vr : Option Addr} {c : Cont} (h : Po B w va vr c) (hf : Fr [] w w') : Po B w' va vr c := h.keep hf (by simp)
section
variable {B : Nat} {w : World} {va vr : Option Addr} {c : Cont}
theorem Po.isNone (h : Po B w va vr none) : va = none ∧ vr = none := by
  obtain ⟨o, h1, h2, h3, h4, h5⟩ := h.at_
  cases o with
  | none => exact ⟨h3, h4⟩
  | some t => cases h5
theorem Po.isSome {x : Nat × List ByteArray × List ByteArray} (h : Po B w va vr (some x)) : ∃ t : TS, TOk w t ∧ (∀ g ∈ t.foot, B ≤ g) ∧ va = some ⟨t.a, 0, none⟩ ∧ vr = some ⟨t.r, 0, none⟩ ∧ x = (t.most, t.ts, t.us) := by
  obtain ⟨o, h1, h2, h3, h4, h5⟩ := h.at_
  cases o with
  | none => cases h5
  | some t =>
    injection h5 with h5
    exact ⟨t, h1 t rfl, h2, h3, h4, h5⟩
theorem Po.mk' {w' : World} {t' : TS} (k : TOk w' t') (hg : ∀ g ∈ t'.foot, B ≤ g) (hB : B ≤ w'.heap.size) : Po B w' (some ⟨t'.a, 0, none⟩) (some ⟨t'.r, 0, none⟩) (some (t'.most, t'.ts, t'.us)) :=
  ⟨⟨some t', fun t ht => by injection ht with ht; subst ht; exact k, hg, rfl, rfl, rfl⟩, hB⟩
theorem po_add (h : Po B w va vr c) (s : ByteArray) (hs : s.size ≤ 140737488355328) :
    Calls Try.prog 10 #[.pointer va, .string s] w fun e w' => e = .returned (.tuple #[.int .i64 (cN c s), .int .i64 (cE c s)]) ∧ Po B w' va vr (c.map fun x => (x.1, addT x.1 x.2.1 s, x.2.2)) ∧ Below B w w' := by
  cases c with
  | none =>
    obtain ⟨rfl, rfl⟩ := h.isNone
    simp only [cN_none, cE_none, Option.map_none]
    refine (Add_nil none s w (Or.inl rfl)).mono ?_
    rintro e w' ⟨rfl, rfl⟩
    exact ⟨rfl, h, Below.refl _ _⟩
  | some x =>
    obtain ⟨t, hk, hB, rfl, rfl, rfl⟩ := h.isSome
    simp only [cN_some, cE_some, Option.map_some]
    refine (Add_ok s t.a t.l t.most t.ts w hk.own hs).mono ?_
    rintro e w' ⟨rfl, l', r, n⟩
    obtain ⟨k1, k2, k3⟩ := hk.ownNext r n
    refine ⟨rfl, Po.mk' (t' := { t with l := l', ts := addT t.most t.ts s }) k1 (fun g hg => ?_) (Nat.le_trans h.le k2.size), k2.below h.le hB⟩
    rcases k3 g hg with h1 | h1
    · exact hB g h1
    · exact Nat.le_trans h.le h1
theorem po_radd (h : Po B w va vr c) (s : ByteArray) :
    Calls Try.prog 25 #[.pointer vr, .string s] w fun e w' => e = .returned (.tuple #[.int .i64 (rN c s), .int .i64 (rE c s)]) ∧ Po B w' va vr (c.map fun x => (x.1, x.2.1, addT x.1 x.2.2 s)) ∧ Below B w w' := by
  cases c with
  | none =>
    obtain ⟨rfl, rfl⟩ := h.isNone
    simp only [rN_none, rE_none, Option.map_none]
    refine (rAdd_nil s w).mono ?_
    rintro e w' ⟨rfl, rfl⟩
    exact ⟨rfl, h, Below.refl _ _⟩
  | some x =>
    obtain ⟨t, hk, hB, rfl, rfl, rfl⟩ := h.isSome
    simp only [rN_some, rE_some, Option.map_some]
    refine (rAdd_ok s t.r t.p t.cap t.most t.us w hk.ref).mono ?_
    rintro e w' ⟨rfl, p', cap', r, n⟩
    obtain ⟨k1, k2, k3⟩ := hk.refNext r n
    refine ⟨rfl, Po.mk' (t' := { t with p := p', cap := cap', us := addT t.most t.us s }) k1 (fun g hg => ?_) (Nat.le_trans h.le k2.size), k2.below h.le hB⟩
    rcases k3 g hg with h1 | h1
    · exact hB g h1
    · exact Nat.le_trans h.le h1
theorem po_count (h : Po B w va vr c) : Calls Try.prog 9 #[.pointer va] w fun e w' => e = .returned (.int .i64 ((cTs c).length : Int)) ∧ w' = w := by
  cases c with
  | none =>
    obtain ⟨rfl, rfl⟩ := h.isNone
    simp only [cTs_none, List.length_nil]
    exact Count_nil none w (Or.inl rfl)
  | some x =>
    obtain ⟨t, hk, hB, rfl, rfl, rfl⟩ := h.isSome
    simp only [cTs_some]
    exact Count_any t.a t.l t.most t.ts w hk.own
theorem po_rcount (h : Po B w va vr c) : Calls Try.prog 26 #[.pointer vr] w fun e w' => e = .returned (.int .i64 ((rTs c).length : Int)) ∧ w' = w := by
  cases c with
  | none =>
    obtain ⟨rfl, rfl⟩ := h.isNone
    simp only [rTs_none, List.length_nil]
    exact rCount_nil w
  | some x =>
    obtain ⟨t, hk, hB, rfl, rfl, rfl⟩ := h.isSome
    simp only [rTs_some]
    exact rCount_any t.r t.p t.cap t.most t.us w hk.ref
theorem po_all (h : Po B w va vr c) : Calls Try.prog 14 #[.pointer va] w fun e w' => ∃ p k, e = .returned (.slice p (cTs c).length k) ∧ RdS w' (.slice p (cTs c).length k) (cTs c) ∧ Fr [] w w' := by
  cases c with
  | none =>
    obtain ⟨rfl, rfl⟩ := h.isNone
    simp only [cTs_none, List.length_nil]
    refine (All_nil none w (Or.inl rfl)).mono ?_
    rintro e w' ⟨rfl, rfl⟩
    exact ⟨none, 0, rfl, own_rd (base := 0) (World.ownsRow_nil _ _ _ _) (by simp), Fr.refl _ _⟩
  | some x =>
    obtain ⟨t, hk, hB, rfl, rfl, rfl⟩ := h.isSome
    simp only [cTs_some]
    refine (All_ok t.a t.l t.most t.ts w hk.own).mono ?_
    rintro e w' ⟨v', rfl, r, hf⟩
    obtain ⟨p, k, rfl⟩ := own_shape r
    exact ⟨p, k, rfl, own_rd r (by have := hk.own.len; have := hk.own.most; omega), hf⟩
theorem po_rall (h : Po B w va vr c) : Calls Try.prog 24 #[.pointer vr] w fun e w' => ∃ p k, e = .returned (.slice p (rTs c).length k) ∧ RdS w' (.slice p (rTs c).length k) (rTs c) ∧ Fr [] w w' := by
  cases c with
  | none =>
    obtain ⟨rfl, rfl⟩ := h.isNone
    simp only [rTs_none, List.length_nil]
    refine (rAll_nil w).mono ?_
    rintro e w' ⟨rfl, rfl⟩
    exact ⟨none, 0, rfl, own_rd (base := 0) (World.ownsRow_nil _ _ _ _) (by simp), Fr.refl _ _⟩
  | some x =>
    obtain ⟨t, hk, hB, rfl, rfl, rfl⟩ := h.isSome
    simp only [rTs_some]
    refine (rAll_ok t.r t.p t.cap t.most t.us w hk.ref).mono ?_
    rintro e w' ⟨p, k, rfl, r, hf⟩
    exact ⟨p, k, rfl, own_rd r (by have := hk.ref.len; have := hk.ref.most; omega), hf⟩
end
end Go.Proofs.Ytjeeibokdnepgaa
