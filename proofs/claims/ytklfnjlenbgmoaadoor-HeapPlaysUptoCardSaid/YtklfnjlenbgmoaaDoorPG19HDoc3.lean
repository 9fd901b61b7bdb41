import Derived.Test.YtklfnjlenbgmoaaDoorPG18RKeepP
import Derived.Test.YtklfnjlenbgmoaaDoorPG13HAg1
set_option linter.unusedVariables false
namespace Go.Proofs.YtklfnjlenbgmoaaDoor
open Go.RowKit
def rv (o : RO) : Nat × Nat × Nat × Int × List Int := (o.oop, o.fmt, o.place, o.cls, o.slots)
def tv (S : List Th) (x : Nat) : Nat × Nat × Nat × Int × List Int := (x, (S.getD (x - 1) noTh).fmt, (S.getD (x - 1) noTh).place, (S.getD (x - 1) noTh).cls, (S.getD (x - 1) noTh).slots)
structure Srt (S : List Th) (L : List Nat) : Prop where
 up : L.Pairwise (fun x y => plO S x + lnO S x ≤ plO S y)
 mem : ∀ x, x ∈ L ↔ 1 ≤ x ∧ (S.getD (x - 1) noTh).there = true
theorem InvV.srt {H : HS} {M : MS} (h : InvV H M) : Srt M.things (liveO H) := ⟨h.lives, h.live⟩
theorem Srt.one {S : List Th} {L L' : List Nat} (h : Srt S L) (h' : Srt S L') : L = L' := by
 refine rise_one (plO S) _ _ (h.up.imp (fun {x y} hr => ?_)) (h'.up.imp (fun {x y} hr => ?_)) (fun x => by rw [h.mem, h'.mem])
 ·have := lnO_two S x; omega
 ·have := lnO_two S x; omega
theorem Srt.nodup {S : List Th} {L : List Nat} (h : Srt S L) : L.Nodup := h.up.imp (fun {x y} hr e => by have := lnO_two S x; subst e; omega)
structure Doc (M : MS) (R : RS) : Prop where
 words : R.words = M.words
 oops : R.oops = M.oops
 mark : R.mark = M.mark
 ex : ∃ L, Srt M.things L ∧ R.objs.map rv = L.map (tv M.things)
 rise : (R.objs.map RO.born).Pairwise (· < ·)
 old : ∀ b ∈ R.objs.map RO.born, b < R.born
 lone : Lone R
theorem Doc.oopsL {M : MS} {R : RS} (h : Doc M R) {L : List Nat} (hs : Srt M.things L) : R.objs.map rv = L.map (tv M.things) ∧ R.objs.map (fun o => o.oop) = L := by
 obtain ⟨L', hs', he⟩ := h.ex
 have e := hs'.one hs
 subst e
 refine ⟨he, ?_⟩
 have := congrArg (List.map (fun t : Nat × Nat × Nat × Int × List Int => t.1)) he
 rw [List.map_map, List.map_map] at this
 have e2 : L'.map ((fun t : Nat × Nat × Nat × Int × List Int => t.1) ∘ tv M.things) = L' := by
  conv => rhs; rw [← List.map_id L']
  exact List.map_congr_left fun x _ => rfl
 rw [e2] at this
 exact this
theorem roD_in {l : List RO} {k : Nat} (hk : k < l.length) : l.getD k noRO = l[k] := by rw [List.getD_eq_getElem?_getD, List.getElem?_eq_getElem hk]; rfl
theorem Doc.no {M : MS} {R : RS} (h : Doc M R) (q : Int) : RNo R q ↔ mhas M q = false := by
 obtain ⟨L, hs, -⟩ := h.ex
 obtain ⟨-, ho⟩ := h.oopsL hs
 constructor
 ·intro hn
  cases hb : mhas M q with
  | false => rfl
  | true =>
   obtain ⟨k, e, hk, hb2⟩ := mhas_yes hb
   have hx : k + 1 ∈ L := (hs.mem _).2 ⟨by omega, hb2⟩
   rw [← ho] at hx
   obtain ⟨o, o1, o2⟩ := List.mem_map.1 hx
   obtain ⟨j, hj, ej⟩ := List.mem_iff_getElem.1 o1
   exact absurd (by rw [roD_in hj, ej]; omega) (hn j hj)
 ·intro hb j hj e
  rw [roD_in hj] at e
  have hx : (R.objs[j]).oop ∈ L := by rw [← ho]; exact List.mem_map_of_mem (List.getElem_mem hj)
  obtain ⟨h1, h2⟩ := (hs.mem _).1 hx
  have := mhas_of (M := M) ((R.objs[j]).oop - 1) (th_in h2) h2
  rw [show ((R.objs[j].oop - 1 : Nat) : Int) + 1 = q from by omega, hb] at this
  cases this
theorem Doc.yes {M : MS} {R : RS} (h : Doc M R) {q : Int} (hb : mhas M q = true) : ¬ RNo R q := fun hn => by
 rw [(h.no q).1 hn] at hb
 cases hb
theorem Doc.is {M : MS} {R : RS} (h : Doc M R) {q : Int} {k : Nat} (hk : RIs R q k) : 1 ≤ q ∧ (M.things.getD (q.toNat - 1) noTh).there = true ∧ rv (R.objs.getD k noRO) = tv M.things q.toNat := by
 obtain ⟨L, hs, -⟩ := h.ex
 obtain ⟨he, ho⟩ := h.oopsL hs
 obtain ⟨h1, h2⟩ := hk
 rw [roD_in h1] at h2 ⊢
 have hl : R.objs.length = L.length := by have := congrArg List.length ho; simpa using this
 have e1 : (R.objs[k]).oop = L[k]'(by omega) := by
  have := congrArg (fun l => l[k]?) ho
  simp only [List.getElem?_map, List.getElem?_eq_getElem h1, List.getElem?_eq_getElem (show k < L.length by omega), Option.map_some, Option.some.injEq] at this
  exact this
 have e2 : rv (R.objs[k]) = tv M.things (L[k]'(by omega)) := by
  have := congrArg (fun l => l[k]?) he
  simp only [List.getElem?_map, List.getElem?_eq_getElem h1, List.getElem?_eq_getElem (show k < L.length by omega), Option.map_some, Option.some.injEq] at this
  exact this
 have hq : q.toNat = L[k]'(by omega) := by omega
 have hx := (hs.mem (L[k]'(by omega))).1 (List.getElem_mem _)
 rw [← hq] at e2 hx
 exact ⟨by omega, hx.2, e2⟩
theorem rv_parts {o : RO} {S : List Th} {x : Nat} (h : rv o = tv S x) : o.oop = x ∧ o.fmt = (S.getD (x - 1) noTh).fmt ∧ o.place = (S.getD (x - 1) noTh).place ∧ o.cls = (S.getD (x - 1) noTh).cls ∧ o.slots = (S.getD (x - 1) noTh).slots := by
 unfold rv tv at h
 simp only [Prod.mk.injEq] at h
 exact h
theorem Srt.len {S : List Th} {L : List Nat} (h : Srt S L) : L.length = thereTo S S.length := by
 have key : ∀ n, n ≤ S.length → (((List.range n).filter (fun i => (S.getD i noTh).there)).length = thereTo S n) := by
  intro n
  induction n with
  | zero => intro _; rfl
  | succ n ih =>
   intro hn
   rw [List.range_succ, List.filter_append, List.length_append, ih (by omega), thereTo_succ _ _ (by omega), List.filter_cons, List.filter_nil]
   cases hb : (S.getD n noTh).there <;> rfl
 rw [← key _ (Nat.le_refl _), show ((List.range S.length).filter (fun i => (S.getD i noTh).there)).length = (((List.range S.length).filter (fun i => (S.getD i noTh).there)).map (fun i => i + 1)).length from (List.length_map _).symm]
 refine List.Perm.length_eq ((List.perm_ext_iff_of_nodup h.nodup ?_).2 (fun x => ?_))
 ·have hnd : ((List.range S.length).filter (fun i => (S.getD i noTh).there)).Nodup := List.Nodup.sublist (List.filter_sublist) List.nodup_range
  exact (List.pairwise_map).2 (hnd.imp (fun {a b} hab e => hab (by omega)))
 ·rw [h.mem, List.mem_map]
  constructor
  ·rintro ⟨h1, h2⟩
   exact ⟨x - 1, List.mem_filter.2 ⟨List.mem_range.2 (th_in h2), h2⟩, by omega⟩
  ·rintro ⟨i, i1, i2⟩
   obtain ⟨-, i3⟩ := List.mem_filter.1 i1
   subst i2
   exact ⟨by omega, by rw [Nat.add_sub_cancel]; exact i3⟩
theorem Doc.len {M : MS} {R : RS} (h : Doc M R) : R.objs.length = thereTo M.things M.things.length := by
 obtain ⟨L, hs, he⟩ := h.ex
 rw [← hs.len]
 have := congrArg List.length he
 simpa using this
theorem Srt.last {S : List Th} {L : List Nat} {x : Nat} (h : Srt S (L ++ [x])) : endTo S S.length = plO S x + lnO S x := by
 refine endTo_is S _ S.length (fun j hj hb => ?_) (.inr ?_)
 ·have hm : j + 1 ∈ L ++ [x] := (h.mem _).2 ⟨by omega, hb⟩
  rcases List.mem_append.1 hm with h1 | h1
  ·have := (List.pairwise_append.1 h.up).2.2 (j + 1) h1 x (by simp)
   show plO S (j + 1) + lnO S (j + 1) ≤ _
   omega
  ·have e : j + 1 = x := by simpa using h1
   subst e
   exact Nat.le_refl _
 ·obtain ⟨h1, h2⟩ := (h.mem x).1 (by simp)
  exact ⟨x - 1, th_in h2, h2, rfl⟩
theorem Srt.empty {S : List Th} (h : Srt S []) : endTo S S.length = 0 :=
 endTo_is S 0 S.length (fun j hj hb => absurd ((h.mem (j + 1)).2 ⟨by omega, hb⟩) (by simp)) (.inl rfl)
theorem rEnd_snoc2 (l : List RO) (o : RO) : rEnd (l ++ [o]) = o.place + lenN o.slots.length o.fmt := by
 unfold rEnd
 rw [if_neg (by simp), List.length_append]
 simp
theorem snoc_or {α : Type} (l : List α) : l = [] ∨ ∃ a x, l = a ++ [x] := by
 rcases List.eq_nil_or_concat l with h | ⟨a, x, h⟩
 ·exact .inl h
 ·exact .inr ⟨a, x, by rw [h, List.concat_eq_append]⟩
theorem Doc.fin {M : MS} {R : RS} (h : Doc M R) : rEnd R.objs = endTo M.things M.things.length := by
 obtain ⟨L, hs, he⟩ := h.ex
 rcases snoc_or L with e | ⟨a, x, e⟩
 ·subst e
  have : R.objs = [] := by simpa using he
  rw [this, hs.empty]
  rfl
 ·subst e
  rcases snoc_or R.objs with e2 | ⟨b, o, e2⟩
  ·rw [e2] at he; simp at he
  ·rw [e2, List.map_append, List.map_append] at he
   have := List.append_inj' he rfl
   have h2 : rv o = tv M.things x := by simpa using this.2
   obtain ⟨-, p2, p3, -, p5⟩ := rv_parts h2
   rw [e2, rEnd_snoc2, hs.last, p2, p3, p5]
   rfl
theorem Doc.keys {M : MS} {R : RS} (h : Doc M R) {L : List Nat} (hs : Srt M.things L) : R.objs.map roKey = (L.map (keyO M.things)).map natKey2 := by
 obtain ⟨he, -⟩ := h.oopsL hs
 have := congrArg (List.map (fun t : Nat × Nat × Nat × Int × List Int => (((t.1 : Int), t.2.2.2.1, (t.2.1 : Int), t.2.2.2.2) : Key))) he
 rw [List.map_map, List.map_map] at this
 rw [List.map_map]
 exact this
structure Plc (S T : List Th) : Prop where
 at_ : ∀ i, (T.getD i noTh).there = (S.getD i noTh).there ∧ (T.getD i noTh).place = (S.getD i noTh).place ∧ (T.getD i noTh).fmt = (S.getD i noTh).fmt ∧ (T.getD i noTh).slots.length = (S.getD i noTh).slots.length
theorem Plc.pl {S T : List Th} (h : Plc S T) (x : Nat) : plO T x = plO S x ∧ lnO T x = lnO S x := by
 obtain ⟨-, h2, h3, h4⟩ := h.at_ (x - 1)
 unfold plO lnO
 rw [h2, h3, h4]
 exact ⟨rfl, rfl⟩
theorem Srt.plc {S T : List Th} {L : List Nat} (h : Srt S L) (hp : Plc S T) : Srt T L :=
 ⟨h.up.imp (fun {x y} hr => by rw [(hp.pl x).1, (hp.pl x).2, (hp.pl y).1]; exact hr), fun x => by rw [(hp.at_ (x - 1)).1]; exact h.mem x⟩
theorem plc_set {S : List Th} {k : Nat} (hk : k < S.length) (t : Th) (h1 : t.there = (S.getD k noTh).there) (h2 : t.place = (S.getD k noTh).place) (h3 : t.fmt = (S.getD k noTh).fmt) (h4 : t.slots.length = (S.getD k noTh).slots.length) : Plc S (S.set k t) := by
 refine ⟨fun i => ?_⟩
 rw [getD_set _ _ _ _ hk]
 split
 ·rename_i e; subst e; exact ⟨h1, h2, h3, h4⟩
 ·exact ⟨rfl, rfl, rfl, rfl⟩
theorem Alk.borns {R R' : RS} (h : Alk R R') : R'.objs.map RO.born = R.objs.map RO.born := by
 have := congrArg (List.map (fun t : Nat × Nat × Nat × Nat × Nat × Value => t.2.2.2.1)) h.objs
 rw [List.map_map, List.map_map] at this
 exact this
theorem Doc.upd {M : MS} {R : RS} (h : Doc M R) {q m : Nat} (hk : RIs R ((q : Int) + 1) m) (c : Int) (ss : List Int) (hl : ss.length = (M.things.getD q noTh).slots.length) : Doc { M with things := M.things.set q { (M.things.getD q noTh) with cls := c, slots := ss } } (R.upd m c ss) := by
 obtain ⟨-, hb, hr⟩ := h.is hk
 rw [show ((q : Int) + 1).toNat = q + 1 from by omega] at hr hb
 rw [Nat.add_sub_cancel] at hb
 have hq := th_in hb
 obtain ⟨p1, p2, p3, p4, p5⟩ := rv_parts hr
 rw [Nat.add_sub_cancel] at p2 p3 p4 p5
 obtain ⟨L, hs, -⟩ := h.ex
 obtain ⟨he, ho⟩ := h.oopsL hs
 have hpl : Plc M.things (M.things.set q { (M.things.getD q noTh) with cls := c, slots := ss }) := plc_set hq _ rfl rfl rfl hl
 have hlen : R.objs.length = L.length := by have := congrArg List.length ho; simpa using this
 have hm := hk.1
 refine ⟨h.words, h.oops, h.mark, ⟨L, hs.plc hpl, ?_⟩, ?_, ?_, (Alk.upd R m c ss (by rw [hl, p5])).lone h.lone⟩
 ·show (R.objs.set m _).map rv = L.map (tv (M.things.set q _))
  refine List.ext_getElem (by simp [hlen]) (fun i h1 h2 => ?_)
  simp only [List.length_map, List.length_set] at h1 h2
  rw [List.getElem_map, List.getElem_map, List.getElem_set]
  have e2 : rv (R.objs[i]) = tv M.things (L[i]) := by
   have := congrArg (fun l => l[i]?) he
   simp only [List.getElem?_map, List.getElem?_eq_getElem h1, List.getElem?_eq_getElem h2, Option.map_some, Option.some.injEq] at this
   exact this
  have hLi := (hs.mem (L[i])).1 (List.getElem_mem _)
  by_cases e : m = i
  ·subst e
   rw [if_pos rfl]
   rw [roD_in hm] at p1 p2 p3 p4 p5 ⊢
   have e3 : L[m] = q + 1 := by have := (rv_parts e2).1; omega
   unfold tv
   rw [e3, Nat.add_sub_cancel, getD_set _ _ _ _ hq, if_pos rfl]
   show ((R.objs[m]).oop, (R.objs[m]).fmt, (R.objs[m]).place, c, ss) = _
   rw [p1, p2, p3]
  ·rw [if_neg e, e2]
   have e3 : L[i] ≠ q + 1 := fun e4 => by
    have e5 : (R.objs.map (fun o => o.oop))[i]'(by simpa using h1) = (R.objs.map (fun o => o.oop))[m]'(by simpa using hm) := by
     rw [List.getElem_map, List.getElem_map, (rv_parts e2).1, e4]
     rw [roD_in hm] at p1
     exact p1.symm
    have hnd : (R.objs.map (fun o => o.oop)).Nodup := by rw [ho]; exact hs.nodup
    rcases Nat.lt_or_gt_of_ne e with hlt | hlt
    ·exact List.pairwise_iff_getElem.1 hnd m i (by simpa using hm) (by simpa using h1) hlt e5.symm
    ·exact List.pairwise_iff_getElem.1 hnd i m (by simpa using h1) (by simpa using hm) hlt e5
   unfold tv
   rw [getD_set _ _ _ _ hq, if_neg (by omega)]
 ·have hbo : (R.upd m c ss).objs.map RO.born = R.objs.map RO.born := (Alk.upd R m c ss (by rw [hl, p5])).borns
  rw [hbo]
  exact h.rise
 ·have hbo : (R.upd m c ss).objs.map RO.born = R.objs.map RO.born := (Alk.upd R m c ss (by rw [hl, p5])).borns
  rw [hbo]
  exact h.old
theorem Doc.setMark {M : MS} {R : RS} (h : Doc M R) (n : Nat) : Doc { M with mark := n } { R with mark := n } := ⟨h.words, h.oops, rfl, h.ex, h.rise, h.old, h.lone⟩
theorem Doc.each {M : MS} {R : RS} (h : Doc M R) : ∀ o ∈ R.objs, rv o = tv M.things o.oop ∧ 1 ≤ o.oop ∧ (M.things.getD (o.oop - 1) noTh).there = true := by
 intro o ho
 obtain ⟨k, hk, e⟩ := List.mem_iff_getElem.1 ho
 have hr : RIs R (o.oop : Int) k := ⟨hk, by rw [roD_in hk, e]⟩
 obtain ⟨h1, h2, h3⟩ := h.is hr
 rw [roD_in hk, e, Int.toNat_natCast] at h3
 rw [Int.toNat_natCast] at h2
 exact ⟨h3, by omega, h2⟩
theorem Doc.sub {M : MS} {R : RS} (h : Doc M R) (os : List RO) (hsub : os.Sublist R.objs) (T : List Th) (hT1 : ∀ o ∈ os, T.getD (o.oop - 1) noTh = M.things.getD (o.oop - 1) noTh) (hT2 : ∀ i, (T.getD i noTh).there = true → ∃ o ∈ os, o.oop = i + 1) (ov : Value) (tn : Nat) : Doc { M with things := T } { R with objs := os, ov := ov, turn := tn } := by
 obtain ⟨L, hs, -⟩ := h.ex
 obtain ⟨he, ho⟩ := h.oopsL hs
 have hsubL : (os.map (fun o => o.oop)).Sublist L := by rw [← ho]; exact hsub.map _
 have hpl : ∀ x ∈ os.map (fun o => o.oop), plO T x = plO M.things x ∧ lnO T x = lnO M.things x := fun x hx => by
  obtain ⟨o, o1, o2⟩ := List.mem_map.1 hx
  have := hT1 o o1
  unfold plO lnO
  rw [← o2, this]
  exact ⟨rfl, rfl⟩
 refine ⟨h.words, h.oops, h.mark, ⟨os.map (fun o => o.oop), ⟨?_, fun x => ?_⟩, ?_⟩, h.rise.sublist (hsub.map _), fun b hb => h.old b ((hsub.map _).subset hb), h.lone.sublist hsub⟩
 ·refine (hs.up.sublist hsubL).imp_of_mem (fun {x y} hx hy hr => ?_)
  rw [(hpl x hx).1, (hpl x hx).2, (hpl y hy).1]
  exact hr
 ·constructor
  ·intro hx
   obtain ⟨o, o1, o2⟩ := List.mem_map.1 hx
   obtain ⟨-, e2, e3⟩ := h.each o (hsub.subset o1)
   rw [← o2]
   exact ⟨e2, by show (T.getD _ noTh).there = true; rw [hT1 o o1]; exact e3⟩
  ·rintro ⟨h1, h2⟩
   obtain ⟨o, o1, o2⟩ := hT2 (x - 1) h2
   rw [show x - 1 + 1 = x from by omega] at o2
   rw [← o2]
   exact List.mem_map_of_mem o1
 ·show os.map rv = (os.map (fun o => o.oop)).map (tv T)
  rw [List.map_map]
  refine List.map_congr_left fun o o1 => ?_
  rw [(h.each o (hsub.subset o1)).1]
  show tv M.things o.oop = tv T o.oop
  unfold tv
  rw [hT1 o o1]
theorem Doc.freed {M : MS} {R : RS} (h : Doc M R) {q k : Nat} (hk : RIs R ((q : Int) + 1) k) (ov : Value) (tn : Nat) : Doc { M with things := M.things.set q (gone (M.things.getD q noTh)) } { R with objs := R.objs.take k ++ R.objs.drop (k + 1), ov := ov, turn := tn } := by
 obtain ⟨-, hb, hr⟩ := h.is hk
 rw [show ((q : Int) + 1).toNat = q + 1 from by omega] at hr hb
 rw [Nat.add_sub_cancel] at hb
 have hq := th_in hb
 have hkl := hk.1
 obtain ⟨L, hs, -⟩ := h.ex
 obtain ⟨he, ho⟩ := h.oopsL hs
 have hnd : (R.objs.map (fun o => o.oop)).Nodup := by rw [ho]; exact hs.nodup
 have hsplit : R.objs = R.objs.take k ++ R.objs[k] :: R.objs.drop (k + 1) := by rw [← List.drop_eq_getElem_cons hkl, List.take_append_drop]
 have hk2 : (R.objs[k]).oop = q + 1 := by have := (rv_parts hr).1; rw [roD_in hkl] at this; exact this
 have hsub : (R.objs.take k ++ R.objs.drop (k + 1)).Sublist R.objs := by
  conv => rhs; rw [hsplit]
  exact List.Sublist.append (List.Sublist.refl _) (List.sublist_cons_self _ _)
 have hne : ∀ o ∈ R.objs.take k ++ R.objs.drop (k + 1), o.oop ≠ q + 1 := by
  intro o ho2 e
  rw [hsplit, List.map_append, List.map_cons] at hnd
  have hp := List.pairwise_append.1 hnd
  rcases List.mem_append.1 ho2 with h1 | h1
  ·exact hp.2.2 o.oop (List.mem_map_of_mem h1) (R.objs[k]).oop (by simp) (by rw [e, hk2])
  ·exact (List.pairwise_cons.1 hp.2.1).1 o.oop (List.mem_map_of_mem h1) (by rw [e, hk2])
 refine h.sub _ hsub _ (fun o ho2 => ?_) (fun i hi => ?_) ov tn
 ·have := hne o ho2
  have := (h.each o (hsub.subset ho2)).2.1
  rw [getD_set _ _ _ _ hq, if_neg (by omega)]
 ·rw [getD_set _ _ _ _ hq] at hi
  split at hi
  ·simp [gone] at hi
  ·rename_i hne2
   have hx : i + 1 ∈ L := (hs.mem _).2 ⟨by omega, by rw [Nat.add_sub_cancel]; exact hi⟩
   rw [← ho] at hx
   obtain ⟨o, o1, o2⟩ := List.mem_map.1 hx
   refine ⟨o, ?_, o2⟩
   rw [hsplit] at o1
   rcases List.mem_append.1 o1 with h1 | h1
   ·exact List.mem_append_left _ h1
   ·rcases List.mem_cons.1 h1 with h3 | h3
    ·rw [h3, hk2] at o2; omega
    ·exact List.mem_append_right _ h3
theorem Doc.taken {M : MS} {R : RS} (h : Doc M R) {L : List Nat} (hs : Srt M.things L) (c : Nat) (T : List Th) (hT1 : ∀ i, i + 1 ∈ L.take c → T.getD i noTh = M.things.getD i noTh) (hT2 : ∀ i, (T.getD i noTh).there = true → i + 1 ∈ L.take c) (ov : Value) (tn : Nat) : Doc { M with things := T } { R with objs := R.objs.take c, ov := ov, turn := tn } := by
 obtain ⟨he, ho⟩ := h.oopsL hs
 have e : (R.objs.take c).map (fun o => o.oop) = L.take c := by rw [List.map_take, ho]
 refine h.sub _ (List.take_sublist _ _) T (fun o ho2 => ?_) (fun i hi => ?_) ov tn
 ·have h1 := (h.each o ((List.take_sublist _ _).subset ho2)).2.1
  refine hT1 _ ?_
  rw [show o.oop - 1 + 1 = o.oop from by omega, ← e]
  exact List.mem_map_of_mem ho2
 ·have := hT2 i hi
  rw [← e] at this
  obtain ⟨o, o1, o2⟩ := List.mem_map.1 this
  exact ⟨o, o1, o2⟩
theorem Srt.ends {S : List Th} {L : List Nat} (h : Srt S L) : ∀ x ∈ L, plO S x + lnO S x ≤ endTo S S.length := by
 rcases snoc_or L with e | ⟨a, y, e⟩
 ·subst e; simp
 ·subst e
  rw [h.last]
  intro x hx
  rcases List.mem_append.1 hx with h1 | h1
  ·have := (List.pairwise_append.1 h.up).2.2 x h1 y (by simp)
   omega
  ·have : x = y := by simpa using h1
   rw [this]
   exact Nat.le_refl _
theorem putTh_get2 (S : List Th) (k : Nat) (t : Th) (hk : k ≤ S.length) (i : Nat) : (putTh S k t).getD i noTh = if i = k then t else S.getD i noTh := by
 by_cases hi : i < (putTh S k t).length
 ·exact putTh_at S k t hk i hi
 ·have h1 := (putTh_len S k t hk).1
  rw [if_neg (by omega), List.getD_eq_getElem?_getD, List.getElem?_eq_none (by omega), List.getD_eq_getElem?_getD, List.getElem?_eq_none]
  unfold putTh at hi
  split at hi
  ·rw [List.length_set] at hi; omega
  ·rw [List.length_append] at hi; omega
theorem Doc.made {M : MS} {R : RS} (h : Doc M R) (X : Int) (n f mk : Nat) (p : Option Addr) (c : Nat) (o : RO) (ov : Value) (ho : rv o = (lowTo M.things, f, endTo M.things M.things.length, X, List.replicate n (newX f))) (hb : o.born = R.born) (hfr : ∀ x ∈ R.objs, ∀ g, o.v.ownBlock = some g → x.v.ownBlock ≠ some g) :
  Doc { M with mark := mk, things := putTh M.things (lowTo M.things - 1) ⟨true, X, f, endTo M.things M.things.length, List.replicate n (newX f), p, c⟩ } { R with mark := mk, born := R.born + 1, objs := R.objs ++ [o], ov := ov } := by
 obtain ⟨L, hs, -⟩ := h.ex
 obtain ⟨he, hoo⟩ := h.oopsL hs
 have hle := lowTo_le M.things
 obtain ⟨f1, -⟩ := lowTo_free M.things
 have hp1 : 1 ≤ lowTo M.things := by unfold lowTo; omega
 have hg := putTh_get2 M.things (lowTo M.things - 1) ⟨true, X, f, endTo M.things M.things.length, List.replicate n (newX f), p, c⟩ (by omega)
 generalize putTh M.things (lowTo M.things - 1) ⟨true, X, f, endTo M.things M.things.length, List.replicate n (newX f), p, c⟩ = S' at *
 have hnl : ∀ x ∈ L, x - 1 ≠ lowTo M.things - 1 := fun x hx e => by
  have := ((hs.mem x).1 hx).2
  rw [e, f1] at this
  cases this
 have hpl : ∀ x ∈ L, S'.getD (x - 1) noTh = M.things.getD (x - 1) noTh := fun x hx => by rw [hg, if_neg (hnl x hx)]
 refine ⟨h.words, h.oops, rfl, ⟨L ++ [lowTo M.things], ⟨?_, fun x => ?_⟩, ?_⟩, ?_, fun b hb2 => ?_, ?_⟩
 ·refine List.pairwise_append.2 ⟨hs.up.imp_of_mem (fun {x y} hx hy hr => ?_), List.pairwise_singleton _ _, fun x hx y hy => ?_⟩
  ·show plO S' x + lnO S' x ≤ plO S' y
   unfold plO lnO at *
   rw [hpl x hx, hpl y hy]
   exact hr
  ·have e : y = lowTo M.things := by simpa using hy
   have := hs.ends x hx
   show plO S' x + lnO S' x ≤ plO S' y
   unfold plO lnO at *
   rw [hpl x hx, e, hg, if_pos rfl]
   exact this
 ·show x ∈ L ++ [lowTo M.things] ↔ 1 ≤ x ∧ (S'.getD (x - 1) noTh).there = true
  rw [List.mem_append, hg]
  constructor
  ·rintro (h1 | h1)
   ·rw [if_neg (hnl x h1)]; exact (hs.mem x).1 h1
   ·have e : x = lowTo M.things := by simpa using h1
    rw [e, if_pos rfl]
    exact ⟨hp1, rfl⟩
  ·rintro ⟨h1, h2⟩
   by_cases e : x - 1 = lowTo M.things - 1
   ·right; simp; omega
   ·rw [if_neg e] at h2
    exact .inl ((hs.mem x).2 ⟨h1, h2⟩)
 ·show (R.objs ++ [o]).map rv = (L ++ [lowTo M.things]).map (tv S')
  rw [List.map_append, List.map_append, he]
  congr 1
  ·refine List.map_congr_left fun x hx => ?_
   unfold tv
   rw [hpl x hx]
  ·simp only [List.map_cons, List.map_nil]
   rw [ho]
   unfold tv
   rw [hg, if_pos rfl]
 ·show ((R.objs ++ [o]).map RO.born).Pairwise _
  rw [List.map_append]
  refine List.pairwise_append.2 ⟨h.rise, List.pairwise_singleton _ _, fun x hx y hy => ?_⟩
  have e : y = o.born := by simpa using hy
  rw [e, hb]
  exact h.old x hx
 ·have hb3 : b ∈ (R.objs ++ [o]).map RO.born := hb2
  rw [List.map_append] at hb3
  show b < R.born + 1
  rcases List.mem_append.1 hb3 with h1 | h1
  ·have := h.old b h1; omega
  ·have e : b = o.born := by simpa using h1
   omega
 ·show (R.objs ++ [o]).Pairwise _
  exact List.pairwise_append.2 ⟨h.lone, List.pairwise_singleton _ _, fun x hx y hy => by rw [List.mem_singleton.1 hy]; exact hfr x hx⟩
def swO (x y o : Nat) : Nat := if o = x + 1 then y + 1 else if o = y + 1 then x + 1 else o
theorem swO_at (S : List Th) (x y : Nat) (hx : x < S.length) (hy : y < S.length) (o : Nat) (ho : 1 ≤ o) : ((S.set x (S.getD y noTh)).set y (S.getD x noTh)).getD (swO x y o - 1) noTh = S.getD (o - 1) noTh := by
 rw [getD_set _ _ _ _ (by rw [List.length_set]; exact hy), getD_set _ _ _ _ hx]
 unfold swO
 by_cases e1 : o = x + 1
 ·rw [if_pos e1, Nat.add_sub_cancel, if_pos rfl, e1, Nat.add_sub_cancel]
 ·rw [if_neg e1]
  by_cases e2 : o = y + 1
  ·rw [if_pos e2, Nat.add_sub_cancel]
   by_cases e3 : x = y
   ·omega
   ·rw [if_neg e3, if_pos rfl, e2, Nat.add_sub_cancel]
  ·rw [if_neg e2, if_neg (by omega), if_neg (by omega)]
theorem swO_inv (x y o : Nat) : swO x y (swO x y o) = o := by
 unfold swO
 (repeat' split); all_goals omega
theorem swO_pos (x y o : Nat) (ho : 1 ≤ o) : 1 ≤ swO x y o := by
 unfold swO
 split
 ·omega
 ·split <;> omega
theorem Doc.exch {M : MS} {R : RS} (h : Doc M R) {x y i j : Nat} (hi : RIs R ((x : Int) + 1) i) (hj : RIs R ((y : Int) + 1) j) : Doc { M with things := (M.things.set x (M.things.getD y noTh)).set y (M.things.getD x noTh) } (rExchR R i j (x + 1) (y + 1)) := by
 obtain ⟨-, hbx, hrx⟩ := h.is hi
 obtain ⟨-, hby, hry⟩ := h.is hj
 rw [show ((x : Int) + 1).toNat = x + 1 from by omega] at hrx hbx
 rw [show ((y : Int) + 1).toNat = y + 1 from by omega] at hry hby
 rw [Nat.add_sub_cancel] at hbx hby
 have hx := th_in hbx
 have hy := th_in hby
 obtain ⟨L, hs, -⟩ := h.ex
 obtain ⟨he, ho⟩ := h.oopsL hs
 have hil := hi.1
 have hjl := hj.1
 have hlen : R.objs.length = L.length := by have := congrArg List.length ho; simpa using this
 have hnd : (R.objs.map (fun o => o.oop)).Nodup := by rw [ho]; exact hs.nodup
 have hin : ∀ (a b : Nat) (ha : a < R.objs.length) (hb : b < R.objs.length), (R.objs[a]).oop = (R.objs[b]).oop → a = b := fun a b ha hb e => by
  rcases Nat.lt_trichotomy a b with h1 | h1 | h1
  ·exact absurd (by rw [List.getElem_map, List.getElem_map]; exact e) (List.pairwise_iff_getElem.1 hnd a b (by simpa using ha) (by simpa using hb) h1)
  ·exact h1
  ·exact absurd (by rw [List.getElem_map, List.getElem_map]; exact e.symm) (List.pairwise_iff_getElem.1 hnd b a (by simpa using hb) (by simpa using ha) h1)
 have hix : (R.objs[i]).oop = x + 1 := by have := (rv_parts hrx).1; rw [roD_in hil] at this; exact this
 have hjy : (R.objs[j]).oop = y + 1 := by have := (rv_parts hry).1; rw [roD_in hjl] at this; exact this
 have hat := swO_at M.things x y hx hy
 generalize hS' : (M.things.set x (M.things.getD y noTh)).set y (M.things.getD x noTh) = S' at *
 have e4 : (R.objs.set i ((R.objs.getD i noRO).named (y + 1))).getD j noRO = if i = j then (R.objs.getD i noRO).named (y + 1) else R.objs[j] := by
  rw [List.getD_eq_getElem?_getD, List.getElem?_set]
  by_cases e : i = j
  ·rw [if_pos e, if_pos e, if_pos hil]; rfl
  ·rw [if_neg e, if_neg e, List.getElem?_eq_getElem hjl]; rfl
 have hmap : (rExchR R i j (x + 1) (y + 1)).objs = R.objs.map (fun o => o.named (swO x y o.oop)) := by
  refine List.ext_getElem? (fun k => ?_)
  show ((R.objs.set i ((R.objs.getD i noRO).named (y + 1))).set j (((R.objs.set i ((R.objs.getD i noRO).named (y + 1))).getD j noRO).named (x + 1)))[k]? = _
  rw [e4, List.getElem?_set, List.getElem?_set, List.length_set, roD_in hil, List.getElem?_map]
  by_cases hk : k < R.objs.length
  ·rw [List.getElem?_eq_getElem hk, Option.map_some]
   unfold swO
   by_cases ej : j = k
   ·subst ej
    rw [if_pos rfl, if_pos hk, hjy]
    by_cases ei : i = j
    ·subst ei
     rw [if_pos rfl, if_pos (by omega)]
     show some ({ ({ R.objs[i] with oop := y + 1 } : RO) with oop := x + 1 } : RO) = some { R.objs[i] with oop := y + 1 }
     rw [show x + 1 = y + 1 from by omega]
    ·rw [if_neg ei]
     by_cases e : y + 1 = x + 1
     ·exact absurd (hin i j hil hjl (by omega)) ei
     ·rw [if_neg e, if_pos rfl]
   ·rw [if_neg ej]
    by_cases ei : i = k
    ·subst ei
     rw [if_pos rfl, if_pos hk, hix, if_pos rfl]
    ·rw [if_neg ei, if_neg (fun e => ei (hin i k hil hk (by omega))), if_neg (fun e => ej (hin j k hjl hk (by omega)))]
     rfl
  ·rw [List.getElem?_eq_none (by omega), if_neg (by omega), if_neg (by omega)]
   rfl
 refine ⟨h.words, h.oops, h.mark, ⟨L.map (swO x y), ⟨?_, fun z => ?_⟩, ?_⟩, ?_, ?_, ?_⟩
 ·refine List.pairwise_map.2 (hs.up.imp_of_mem (fun {a b} ha hb hr => ?_))
  have h1 := ((hs.mem a).1 ha).1
  have h2 := ((hs.mem b).1 hb).1
  show plO S' (swO x y a) + lnO S' (swO x y a) ≤ plO S' (swO x y b)
  unfold plO lnO at *
  rw [hat a h1, hat b h2]
  exact hr
 ·show z ∈ L.map (swO x y) ↔ 1 ≤ z ∧ (S'.getD (z - 1) noTh).there = true
  rw [List.mem_map]
  constructor
  ·rintro ⟨o, o1, o2⟩
   obtain ⟨m1, m2⟩ := (hs.mem o).1 o1
   rw [← o2, hat o m1]
   exact ⟨swO_pos x y o m1, m2⟩
  ·rintro ⟨z1, z2⟩
   refine ⟨swO x y z, (hs.mem _).2 ⟨swO_pos x y z z1, ?_⟩, swO_inv x y z⟩
   rw [← hat _ (swO_pos x y z z1), swO_inv]
   exact z2
 ·show (rExchR R i j (x + 1) (y + 1)).objs.map rv = (L.map (swO x y)).map (tv S')
  rw [hmap, List.map_map, List.map_map, ← ho, List.map_map]
  refine List.map_congr_left fun o o1 => ?_
  obtain ⟨e1, e2, e3⟩ := h.each o o1
  obtain ⟨p1, p2, p3, p4, p5⟩ := rv_parts e1
  show ((swO x y o.oop, o.fmt, o.place, o.cls, o.slots) : Nat × Nat × Nat × Int × List Int) = tv S' (swO x y o.oop)
  unfold tv
  rw [hat _ e2, p2, p3, p4, p5]
 ·have e : (rExchR R i j (x + 1) (y + 1)).objs.map RO.born = R.objs.map RO.born := by rw [hmap, List.map_map]; rfl
  rw [e]
  exact h.rise
 ·have e : (rExchR R i j (x + 1) (y + 1)).objs.map RO.born = R.objs.map RO.born := by rw [hmap, List.map_map]; rfl
  rw [e]
  exact h.old
 ·show (rExchR R i j (x + 1) (y + 1)).objs.Pairwise _
  rw [hmap]
  exact List.pairwise_map.2 (h.lone.imp (fun {a b} hr => hr))
def kvF (S : List Th) : Nat → List Nat → List (Nat × Nat × Nat × Int × List Int)
 | _, [] => []
 | A, x :: t => (x, (S.getD (x - 1) noTh).fmt, A, (S.getD (x - 1) noTh).cls, (S.getD (x - 1) noTh).slots) :: kvF S (A + lnO S x) t
theorem kvF_snoc (S : List Th) : ∀ (l : List Nat) (A x : Nat), kvF S A (l ++ [x]) = kvF S A l ++ [(x, (S.getD (x - 1) noTh).fmt, A + sumO S l, (S.getD (x - 1) noTh).cls, (S.getD (x - 1) noTh).slots)] := by
 intro l
 induction l with
 | nil => intro A x; simp [kvF, sumO]
 | cons y t ih =>
  intro A x
  show _ :: kvF S (A + lnO S y) (t ++ [x]) = _ :: (kvF S (A + lnO S y) t ++ _)
  rw [ih]
  show _ = (y, _, A, _, _) :: (kvF S (A + lnO S y) t ++ [(x, _, A + (lnO S y + sumO S t), _, _)])
  rw [Nat.add_assoc]
theorem kst_kv (S : List Th) (js : List Nat) : ∀ (l : List RO), (∀ o ∈ l, rv o = tv S o.oop) → (kst js l).1.map rv = kvF S 0 ((l.map (fun o => o.oop)).filter (fun x => decide (x ∈ js))) ∧ (kst js l).2 = sumO S ((l.map (fun o => o.oop)).filter (fun x => decide (x ∈ js))) := by
 refine snoc_ind (P := fun l => (∀ o ∈ l, rv o = tv S o.oop) → (kst js l).1.map rv = kvF S 0 ((l.map (fun o => o.oop)).filter (fun x => decide (x ∈ js))) ∧ (kst js l).2 = sumO S ((l.map (fun o => o.oop)).filter (fun x => decide (x ∈ js)))) (fun _ => ⟨rfl, rfl⟩) ?_
 intro l o ih hall
 obtain ⟨i1, i2⟩ := ih (fun x hx => hall x (List.mem_append_left _ hx))
 have ho := hall o (by simp)
 obtain ⟨p1, p2, p3, p4, p5⟩ := rv_parts ho
 rw [kst_snoc, List.map_append, List.filter_append]
 by_cases e : o.oop ∈ js
 ·rw [if_pos e]
  have e2 : (List.map (fun o : RO => o.oop) [o]).filter (fun x => decide (x ∈ js)) = [o.oop] := by simp [e]
  rw [e2, kvF_snoc, sumO_append, List.map_append, i1]
  refine ⟨?_, ?_⟩
  ·congr 1
   show [((o.oop, o.fmt, (kst js l).2, o.cls, o.slots) : Nat × Nat × Nat × Int × List Int)] = _
   rw [p2, p4, p5, i2, Nat.zero_add]
  ·rw [i2]
   show _ + lenN o.slots.length o.fmt = _ + (lnO S o.oop + 0)
   rw [p5, p2]
   rfl
 ·rw [if_neg e]
  have e2 : (List.map (fun o : RO => o.oop) [o]).filter (fun x => decide (x ∈ js)) = [] := by simp [e]
  rw [e2, List.append_nil]
  exact ⟨i1, i2⟩
theorem slid_to (S : List Th) (L : List Nat) (hs : Srt S L) : ∀ (a b : List Nat), L = a ++ b → ∃ T, (∀ r, slidN S 0 (a.length + r) = slidN T (sumO S a) r) ∧ T.length = S.length ∧ (∀ i, i + 1 ∉ a → T.getD i noTh = S.getD i noTh) ∧ (∀ a1 x a2, a = a1 ++ x :: a2 → T.getD (x - 1) noTh = placed (S.getD (x - 1) noTh) (sumO S a1)) := by
 intro a
 refine snoc_ind (P := fun a => ∀ b, L = a ++ b → ∃ T, (∀ r, slidN S 0 (a.length + r) = slidN T (sumO S a) r) ∧ T.length = S.length ∧ (∀ i, i + 1 ∉ a → T.getD i noTh = S.getD i noTh) ∧ (∀ a1 x a2, a = a1 ++ x :: a2 → T.getD (x - 1) noTh = placed (S.getD (x - 1) noTh) (sumO S a1))) ?_ ?_ a
 ·intro b _
  exact ⟨S, fun r => by simp [sumO], rfl, fun _ _ => rfl, fun a1 x a2 e => by simp at e⟩
 ·intro a x ih b e
  obtain ⟨T, t1, t2, t3, t4⟩ := ih (x :: b) (by rw [e]; simp)
  have hup := hs.up
  rw [e] at hup
  have hnd := hs.nodup
  rw [e] at hnd
  have hxL : x ∈ L := by rw [e]; simp
  obtain ⟨hx1, hx2⟩ := (hs.mem x).1 hxL
  have hxa : x ∉ a := fun hh => (List.pairwise_append.1 (List.pairwise_append.1 hnd).1).2.2 x hh x (by simp) rfl
  have hTx : T.getD (x - 1) noTh = S.getD (x - 1) noTh := t3 (x - 1) (by rw [show x - 1 + 1 = x from by omega]; exact hxa)
  have hpa := (List.pairwise_append.1 hup).1
  obtain ⟨q1, q2, q3⟩ := List.pairwise_append.1 hpa
  have hsum : sumO S a ≤ plO S x := sum_le S a (plO S x) q1 (fun y hy => q3 y hy x (by simp))
  have hpick : pickTo T (sumO S a) T.length = some (x - 1) := by
   refine pickTo_is T (sumO S a) (x - 1) (by rw [hTx]; exact hx2) (by rw [hTx]; exact hsum) (fun i hi hb hA => ?_) T.length (by have := th_in hx2; omega)
   by_cases hia : i + 1 ∈ a
   ·exfalso
    obtain ⟨a1, a2, ea⟩ := List.append_of_mem hia
    have h5 := t4 a1 (i + 1) a2 ea
    rw [Nat.add_sub_cancel] at h5
    rw [h5] at hA
    have hA2 : sumO S a ≤ sumO S a1 := hA
    rw [ea, sumO_append] at hA2
    have h6 : sumO S ((i + 1) :: a2) = lnO S (i + 1) + sumO S a2 := rfl
    have := lnO_two S (i + 1)
    omega
   ·have h5 := t3 i hia
    rw [h5] at hb ⊢
    rw [hTx]
    have hm : i + 1 ∈ L := (hs.mem _).2 ⟨by omega, by rw [Nat.add_sub_cancel]; exact hb⟩
    rw [e] at hm
    have hmb : i + 1 ∈ b := by
     rcases List.mem_append.1 hm with h6 | h6
     ·rcases List.mem_append.1 h6 with h7 | h7
      ·exact absurd h7 hia
      ·have : i + 1 = x := by simpa using h7
       omega
     ·exact h6
    have h8 := (List.pairwise_append.1 hup).2.2 x (by simp) (i + 1) hmb
    have := lnO_two S x
    have h9 : plO S (i + 1) = (S.getD i noTh).place := by unfold plO; rw [Nat.add_sub_cancel]
    have h10 : plO S x = (S.getD (x - 1) noTh).place := rfl
    omega
  have hxT : x - 1 < T.length := by have := th_in hx2; omega
  refine ⟨T.set (x - 1) (placed (T.getD (x - 1) noTh) (sumO S a)), fun r => ?_, by rw [List.length_set]; exact t2, fun i hi => ?_, fun a1 z a2 ea => ?_⟩
  ·rw [List.length_append, Nat.add_assoc, t1, show [x].length + r = r + 1 from by simp; omega, slidN_some T (sumO S a) r (x - 1) hpick, sumO_append]
   congr 1
   rw [hTx]
   show _ = sumO S a + (lnO S x + 0)
   rfl
  ·have h1 : i + 1 ∉ a := fun hh => hi (List.mem_append_left _ hh)
   have h2 : i + 1 ≠ x := fun hh => hi (by rw [hh]; simp)
   rw [getD_set _ _ _ _ hxT, if_neg (by omega)]
   exact t3 i h1
  ·rw [getD_set _ _ _ _ hxT]
   rcases snoc_or a2 with e2 | ⟨a3, u, e2⟩
   ·subst e2
    have := List.append_inj' ea rfl
    have hzx : z = x := by simpa using this.2.symm
    rw [hzx, if_pos rfl, hTx, this.1]
   ·subst e2
    have e3 : a ++ [x] = (a1 ++ z :: a3) ++ [u] := by rw [ea]; simp
    have := List.append_inj' e3 rfl
    have hza : z ∈ a := by rw [this.1]; simp
    have hz1 : 1 ≤ z := ((hs.mem z).1 (by rw [e]; simp [hza])).1
    rw [if_neg (fun hh => hxa (by rw [show x = z from by omega]; exact hza))]
    exact t4 a1 z a3 this.1
theorem slid_kv (S : List Th) (L : List Nat) (hs : Srt S L) : Srt (slidN S 0 (thereTo S S.length)) L ∧ L.map (tv (slidN S 0 (thereTo S S.length))) = kvF S 0 L := by
 obtain ⟨T, t1, t2, t3, t4⟩ := slid_to S L hs L [] (by simp)
 have h0 := t1 0
 rw [Nat.add_zero, hs.len] at h0
 have hT : slidN S 0 (thereTo S S.length) = T := h0
 rw [hT]
 have hpl : ∀ a x b, L = a ++ x :: b → plO T x = sumO S a ∧ lnO T x = lnO S x := fun a x b e => by
  have h5 := t4 a x b e
  unfold plO lnO
  rw [h5]
  exact ⟨rfl, rfl⟩
 refine ⟨⟨?_, fun x => ?_⟩, ?_⟩
 ·rw [List.pairwise_iff_getElem]
  intro i j hi hj hij
  have ei : L = L.take i ++ L[i] :: L.drop (i + 1) := by rw [← List.drop_eq_getElem_cons hi, List.take_append_drop]
  have ej : L = L.take j ++ L[j] :: L.drop (j + 1) := by rw [← List.drop_eq_getElem_cons hj, List.take_append_drop]
  obtain ⟨a1, a2⟩ := hpl _ _ _ ei
  obtain ⟨b1, b2⟩ := hpl _ _ _ ej
  rw [a1, a2, b1]
  have e3 : L.take j = L.take i ++ L[i] :: (L.take j).drop (i + 1) := by
   have h1 : (L.take j).take i = L.take i := by rw [List.take_take, Nat.min_eq_left (by omega)]
   have h2 : i < (L.take j).length := by rw [List.length_take]; omega
   have h3 : (L.take j)[i]'h2 = L[i] := List.getElem_take
   rw [← h1, ← h3, ← List.drop_eq_getElem_cons h2, List.take_append_drop]
  rw [e3, sumO_append]
  show _ ≤ sumO S (L.take i) + (lnO S L[i] + _)
  omega
 ·by_cases hx : x ∈ L
  ·obtain ⟨a, b, e⟩ := List.append_of_mem hx
   have := t4 a x b e
   rw [this]
   exact hs.mem x
  ·constructor
   ·intro h; exact absurd h hx
   ·rintro ⟨h1, h2⟩
    rw [t3 (x - 1) (by rw [show x - 1 + 1 = x from by omega]; exact hx)] at h2
    exact (hs.mem x).2 ⟨h1, h2⟩
 ·have main : ∀ (b a : List Nat), L = a ++ b → b.map (tv T) = kvF S (sumO S a) b := by
   intro b
   induction b with
   | nil => intro a _; rfl
   | cons x t ih =>
    intro a e
    have h5 := t4 a x t e
    rw [List.map_cons, ih (a ++ [x]) (by rw [e]; simp), sumO_append]
    show tv T x :: kvF S (sumO S a + (lnO S x + 0)) t = _ :: kvF S (sumO S a + lnO S x) t
    rw [Nat.add_zero]
    congr 1
    unfold tv
    rw [h5]
    rfl
  exact main L [] (by simp)
theorem stay_srt (S : List Th) (L : List Nat) (hs : Srt S L) (js : List Nat) : Srt (stayTo S js S.length) (L.filter (fun x => decide (x ∈ js))) ∧ ∀ x, lnO (stayTo S js S.length) x = lnO S x ∧ ∀ i, ((stayTo S js S.length).getD i noTh).fmt = (S.getD i noTh).fmt ∧ ((stayTo S js S.length).getD i noTh).cls = (S.getD i noTh).cls ∧ ((stayTo S js S.length).getD i noTh).slots = (S.getD i noTh).slots := by
 have hat := stayTo_at S js S.length (Nat.le_refl _)
 have hf : ∀ i, ((stayTo S js S.length).getD i noTh).fmt = (S.getD i noTh).fmt ∧ ((stayTo S js S.length).getD i noTh).cls = (S.getD i noTh).cls ∧ ((stayTo S js S.length).getD i noTh).slots = (S.getD i noTh).slots ∧ ((stayTo S js S.length).getD i noTh).place = (S.getD i noTh).place := fun i => by
  rw [hat]
  split <;> exact ⟨rfl, rfl, rfl, rfl⟩
 have hpl : ∀ x, plO (stayTo S js S.length) x = plO S x ∧ lnO (stayTo S js S.length) x = lnO S x := fun x => by
  obtain ⟨f1, f2, f3, f4⟩ := hf (x - 1)
  unfold plO lnO
  rw [f1, f3, f4]
  exact ⟨rfl, rfl⟩
 refine ⟨⟨(hs.up.filter _).imp (fun {x y} hr => by rw [(hpl x).1, (hpl x).2, (hpl y).1]; exact hr), fun x => ?_⟩, fun x => ⟨(hpl x).2, fun i => ⟨(hf i).1, (hf i).2.1, (hf i).2.2.1⟩⟩⟩
 rw [List.mem_filter, hs.mem, hat]
 constructor
 ·rintro ⟨⟨h1, h2⟩, h3⟩
  have h4 : x ∈ js := by simpa using h3
  refine ⟨h1, ?_⟩
  rw [if_pos (th_in h2)]
  show ((S.getD (x - 1) noTh).there && decide (x - 1 + 1 ∈ js)) = true
  rw [h2, show x - 1 + 1 = x from by omega]
  simpa using h4
 ·rintro ⟨h1, h2⟩
  split at h2
  ·have h3 : ((S.getD (x - 1) noTh).there && decide (x - 1 + 1 ∈ js)) = true := h2
   rw [show x - 1 + 1 = x from by omega] at h3
   simp only [Bool.and_eq_true] at h3
   exact ⟨⟨h1, h3.1⟩, h3.2⟩
  ·rename_i hc
   exact absurd (th_in h2) hc
theorem kvF_congr {S T : List Th} (h : ∀ x, lnO T x = lnO S x ∧ ∀ i, (T.getD i noTh).fmt = (S.getD i noTh).fmt ∧ (T.getD i noTh).cls = (S.getD i noTh).cls ∧ (T.getD i noTh).slots = (S.getD i noTh).slots) : ∀ (l : List Nat) (A : Nat), kvF T A l = kvF S A l := by
 intro l
 induction l with
 | nil => intro A; rfl
 | cons x t ih =>
  intro A
  obtain ⟨h1, h2⟩ := h x
  obtain ⟨f1, f2, f3⟩ := h2 (x - 1)
  show (x, _, A, _, _) :: kvF T (A + lnO T x) t = (x, _, A, _, _) :: kvF S (A + lnO S x) t
  rw [h1, ih, f1, f2, f3]
theorem Doc.kept {M : MS} {R : RS} (h : Doc M R) (js : List Nat) (ov : Value) (tn : Nat) : Doc { M with things := keptTh M.things js } { R with objs := (kst js R.objs).1, ov := ov, turn := tn } := by
 obtain ⟨L, hs, -⟩ := h.ex
 obtain ⟨he, ho⟩ := h.oopsL hs
 obtain ⟨k1, k2⟩ := kst_kv M.things js R.objs (fun o o1 => (h.each o o1).1)
 obtain ⟨s1, s2⟩ := stay_srt M.things L hs js
 obtain ⟨g1, g2⟩ := slid_kv _ _ s1
 rw [ho] at k1
 rw [stayTo_len] at g1 g2
 have hk : ∀ l : List RO, ∃ f : List RO, f.Sublist l ∧ (kst js l).1.map (fun o => (o.born, o.v)) = f.map (fun o => (o.born, o.v)) := by
  refine snoc_ind (P := fun l => ∃ f : List RO, f.Sublist l ∧ (kst js l).1.map (fun o => (o.born, o.v)) = f.map (fun o => (o.born, o.v))) ⟨[], List.Sublist.refl _, rfl⟩ ?_
  rintro l o ⟨f, f1, f2⟩
  rw [kst_snoc]
  by_cases e : o.oop ∈ js
  ·rw [if_pos e]
   exact ⟨f ++ [o], List.Sublist.append f1 (List.Sublist.refl _), by rw [List.map_append, List.map_append, f2]; rfl⟩
  ·rw [if_neg e]
   exact ⟨f, f1.trans (List.sublist_append_left _ _), f2⟩
 obtain ⟨f, f1, f2⟩ := hk R.objs
 have hborn : (kst js R.objs).1.map RO.born = f.map RO.born := by
  have := congrArg (List.map (fun t : Nat × Value => t.1)) f2
  rw [List.map_map, List.map_map] at this
  exact this
 have hv : (kst js R.objs).1.map RO.v = f.map RO.v := by
  have := congrArg (List.map (fun t : Nat × Value => t.2)) f2
  rw [List.map_map, List.map_map] at this
  exact this
 refine ⟨h.words, h.oops, h.mark, ⟨_, g1, ?_⟩, ?_, ?_, ?_⟩
 ·show (kst js R.objs).1.map rv = _
  rw [k1]
  refine Eq.trans ?_ g2.symm
  exact (kvF_congr s2 _ 0).symm
 ·show ((kst js R.objs).1.map RO.born).Pairwise _
  rw [hborn]
  exact h.rise.sublist (f1.map _)
 ·show ∀ b ∈ (kst js R.objs).1.map RO.born, b < R.born
  rw [hborn]
  exact fun b hb => h.old b ((f1.map _).subset hb)
 ·have h1 : (f.map RO.v).Pairwise (fun x o => ∀ g, o.ownBlock = some g → x.ownBlock ≠ some g) := List.pairwise_map.2 (h.lone.sublist f1)
  rw [← hv] at h1
  exact List.pairwise_map.1 h1
end Go.Proofs.YtklfnjlenbgmoaaDoor
