import Derived.Test.YtklfnjlenbgmoaaDoorPG29HPlW
import Derived.Test.YtklfnjlenbgmoaaDoorPHRefL
import Derived.Test.YtklfnjlenbgmoaaDoorPG28HLast
import Derived.Test.YtklfnjlenbgmoaaDoorPG26HPlN
import Derived.Test.YtklfnjlenbgmoaaDoorPHDcA
import Derived.Test.YtklfnjlenbgmoaaDoorPG23HDcD
import Derived.Test.YtklfnjlenbgmoaaDoorPG18RKeepP
set_option linter.unusedSimpArgs false
set_option linter.unusedVariables false
namespace Go.Proofs.YtklfnjlenbgmoaaDoor
open Go.RowKit
def loadN (M : MS) : MS := { M with things := slidN M.things 0 (thereTo M.things M.things.length) }
theorem slide_keys {H : HS} {M : MS} (h : Inv H M) : keysH (slideH H) (loadN M) = keysH H M ∧ liveO (slideH H) = liveO H := by
 have h1 := (h.toInvV.slide).toInvV.srt
 have h2 := (slid_kv M.things (liveO H) h.toInvV.srt).1
 have e : liveO (slideH H) = liveO H := h1.one h2
 refine ⟨?_, e⟩
 unfold keysH
 rw [e]
 congr 1
 refine List.map_congr_left fun x _ => ?_
 obtain ⟨a1, a2, a3, a4, a5, a6⟩ := (slidN_alike (thereTo M.things M.things.length) M.things 0).at_ (x - 1)
 unfold keyO
 show (x, ((slidN M.things 0 (thereTo M.things M.things.length)).getD (x - 1) noTh).cls, ((slidN M.things 0 (thereTo M.things M.things.length)).getD (x - 1) noTh).fmt, ((slidN M.things 0 (thereTo M.things M.things.length)).getD (x - 1) noTh).slots) = _
 rw [a2, a3, a4]
theorem pLoad {H : HS} {M : MS} (ov : Value) (la : List OI) (w : World) (hi : Inv H M) (hg : Good M) (ha : SAt w ov la) (hk : la.map oiKey = keysH H M) (hT : Tab w) (hT0 : 0 < w.heap.size) :
  Calls Tryd.prog 17 #[.agg #[.int .i64 (M.words : Int), .int .i64 (M.oops : Int), .int .i64 (M.mark : Int), ov]] w fun e w' => e = .returned (.tuple #[.pointer (some ⟨w.heap.size + 1, 0, none⟩), .int .i64 0]) ∧ ∃ l G, Rep w' (w.heap.size + 1) l G ∧ Inv G (loadN M) ∧ Fr [] w w' ∧ (∀ b ∈ foot (w.heap.size + 1) l, w.heap.size ≤ b) ∧ G.age = 0 := by
 have hsm := hi.safe.small
 have hw := hi.words
 have ho := hi.oops
 have hm := hi.mark
 have hall := hi.takesAll hg
 rw [← hk, hw, ho] at hall
 have hle := keysH_le hi
 rw [← hk] at hle
 refine Calls.mono (Load_all M.words M.oops M.mark ov la w ha hT hT0 (by have := hi.room; omega) (by have := hsm.oops; omega) (by have := hsm.mark; omega) hall M.things.length hle) ?_
 rintro e w' ⟨rfl, l, G, Mg, hr, hf, hn, hkof, hB⟩
 have hs := hi.toInvV.slide
 have hc := hi.toInvV.slide_cov
 rw [hk, ← (slide_keys hi).1] at hkof
 have e1 : (slideH H).words = M.words := hs.words
 have e2 : (slideH H).oops = M.oops := hs.oops
 have e3 : (slideH H).mark = M.mark := hs.mark
 have hkof2 : KOf (slideH H).words (slideH H).oops (slideH H).mark (keysH (slideH H) (loadN M)) G Mg := by rw [e1, e2, e3]; exact hkof
 have hl : (loadN M).things.length = M.things.length := (slidN_alike (thereTo M.things M.things.length) M.things 0).len
 exact ⟨rfl, l, G, hr, loaded_inv hs hc hkof2 (by show Mg.things.length ≤ (loadN M).things.length; omega) (Lk.refl _) hs.model, hf, hn, hkof.age⟩
theorem loaded_kv (S : List Th) (L : List Nat) (os : List RO) (hk : os.map roKey = (L.map (keyO S)).map natKey2) (hp : ∀ a x b, os = a ++ x :: b → x.place = rEnd a) : os.map rv = kvF S 0 L := by
 have hlen : os.length = L.length := by have := congrArg List.length hk; simpa using this
 have main : ∀ a : List RO, ∀ b, os = a ++ b → a.map rv = kvF S 0 (L.take a.length) ∧ rEnd a = sumO S (L.take a.length) := by
  refine snoc_ind (P := fun a => ∀ b, os = a ++ b → a.map rv = kvF S 0 (L.take a.length) ∧ rEnd a = sumO S (L.take a.length)) (fun b _ => ⟨rfl, rfl⟩) ?_
  intro a x ih b e
  have e' : os = a ++ x :: b := by rw [e]; simp
  obtain ⟨i1, i2⟩ := ih (x :: b) e'
  have hal : a.length < L.length := by rw [← hlen, e']; simp
  have hx : roKey x = natKey2 (keyO S (L[a.length])) := by
   have := congrArg (fun l => l[a.length]?) hk
   simp only [List.getElem?_map] at this
   rw [e', List.getElem?_append_right (Nat.le_refl _), Nat.sub_self, List.getElem?_cons_zero, List.getElem?_eq_getElem hal] at this
   simpa using this
  have hpx := hp a x b e'
  unfold roKey natKey2 keyO at hx
  simp only [Prod.mk.injEq] at hx
  obtain ⟨k1, k2, k3, k4⟩ := hx
  have t : L.take (a ++ [x]).length = L.take a.length ++ [L[a.length]] := by rw [List.length_append]; exact List.take_succ_eq_append_getElem hal
  rw [t, kvF_snoc, sumO_append, List.map_append, i1, rEnd_snoc2]
  refine ⟨?_, ?_⟩
  ·congr 1
   show [rv x] = _
   unfold rv
   rw [hpx, i2, k2, k4, show x.oop = L[a.length] from by omega, show x.fmt = (S.getD (L[a.length] - 1) noTh).fmt from by omega, Nat.zero_add]
  ·rw [hpx, i2, k4, show x.fmt = (S.getD (L[a.length] - 1) noTh).fmt from by omega]
   rfl
 have := (main os [] (by simp)).1
 rw [hlen, List.take_length] at this
 exact this
theorem rLoadM {H : HS} {M : MS} (ov : Value) (la : List OI) (w : World) (hi : Inv H M) (hg : Good M) (ha : SAt w ov la) (hk : la.map oiKey = keysH H M) :
  Calls Tryd.prog 18 #[.agg #[.int .i64 (M.words : Int), .int .i64 (M.oops : Int), .int .i64 (M.mark : Int), ov]] w fun e w' => e = .returned (.tuple #[.pointer (some ⟨w.heap.size + 1, 0, none⟩), .int .i64 0]) ∧ ∃ R, RRep w' (w.heap.size + 1) (w.heap.size + 1) R ∧ Doc (loadN M) R ∧ Fr [] w w' ∧ R.turn = 0 ∧ R.born ≤ 65538 := by
 have hsm := hi.safe.small
 have hw := hi.words
 have ho := hi.oops
 have hm := hi.mark
 have hall := hi.takesAll hg
 rw [← hk, hw, ho] at hall
 refine Calls.mono (rLoad_any M.words M.oops M.mark ov la w ha (by have := hi.room; omega) (by have := hsm.oops; omega) (by have := hsm.mark; omega)) ?_
 rintro e w' (⟨R, rfl, hl⟩ | ⟨k, o, -, -, ho2, ht⟩)
 ·have hof := hl.of
  rw [List.take_length, hk] at hof
  have hkv := loaded_kv M.things (liveO H) R.objs hof.keys hof.pls
  obtain ⟨s1, s2⟩ := slid_kv M.things (liveO H) hi.toInvV.srt
  refine ⟨rfl, R, hl.rep, ⟨hof.eWords, hof.eOops, hof.eMark, ⟨liveO H, s1, hkv.trans s2.symm⟩, hof.rise, fun b hb => ?_, hof.lone⟩, hl.fr, hof.turn, ?_⟩
  ·obtain ⟨z, z1, z2⟩ := List.mem_map.1 hb
   rw [← z2]
   exact hof.old z z1
  ·rw [hof.born]
   unfold keysH
   rw [List.length_map, List.length_map]
   have h1 := hi.toInvV.srt.len
   have h2 := hi.count
   have h3 := hsm.count
   have h4 := hsm.oops
   omega
 ·exfalso
  have h5 := hall k (oiKey o) (by rw [List.getElem?_map, ho2]; rfl)
  rw [← List.map_take, ht] at h5
  cases h5
theorem cutO_le {H : HS} {M : MS} {R : RS} (hi : Inv H M) (hd : Doc M R) (n : Nat) : cutO H n ≤ R.objs.length := by
 obtain ⟨-, ho⟩ := hd.oopsL hi.toInvV.srt
 have h1 : R.objs.length = (liveO H).length := by have := congrArg List.length ho; simpa using this
 rw [h1]
 unfold cutO liveO
 have e : H.order.filter (fun o => o != 0) = (H.order.take n).filter (fun o => o != 0) ++ (H.order.drop n).filter (fun o => o != 0) := by rw [← List.filter_append, List.take_append_drop]
 rw [e, List.length_append]
 omega
structure PtOk (H : HS) (R : RS) (ag n pb tn : Nat) : Prop where
 age : ag ≤ H.age
 turn : tn ≤ R.turn
 alike : ag = H.age ↔ tn = R.turn
 born : pb ≤ R.born
 cut : ag = H.age → n ≤ H.order.length ∧ (∀ j, n ≤ j → j < H.order.length → H.order.getD j 0 ≠ 0) ∧ ∀ k, k < R.objs.length → ((R.objs.getD k noRO).born < pb ↔ k < cutO H n)
theorem PtOk.new {H : HS} {M : MS} {R : RS} (hi : Inv H M) (hd : Doc M R) : PtOk H R H.age H.order.length R.born R.turn := by
 refine ⟨Nat.le_refl _, Nat.le_refl _, ⟨fun _ => rfl, fun _ => rfl⟩, Nat.le_refl _, fun _ => ⟨Nat.le_refl _, fun j h1 h2 => by omega, fun k hk => ⟨fun _ => ?_, fun _ => ?_⟩⟩⟩
 ·obtain ⟨-, ho⟩ := hd.oopsL hi.toInvV.srt
  have h1 : R.objs.length = (liveO H).length := by have := congrArg List.length ho; simpa using this
  unfold cutO
  rw [List.take_length]
  show k < (liveO H).length
  omega
 ·rw [roD_in hk]
  exact hd.old _ (List.mem_map_of_mem (List.getElem_mem hk))
theorem PtOk.step {H H' : HS} {M : MS} {R R' : RS} {b : Bool} {ag n pb tn : Nat} (h : PtOk H R ag n pb tn) (hi : Inv H M) (hd : Doc M R) (ho : Old b H H') (hr : OldR b R R') : PtOk H' R' ag n pb tn := by
 obtain ⟨hr1, hr2, hr3⟩ := hr
 have h1 := h.age
 have h2 := h.turn
 have h3 := h.born
 cases b with
 | true =>
  rcases ho with ⟨h4, -⟩ | ⟨-, h4⟩
  ·cases h4
  rcases hr1 with ⟨h5, -⟩ | ⟨-, h5⟩
  ·cases h5
  refine ⟨by omega, by omega, ⟨fun e => by omega, fun e => by omega⟩, by omega, fun e => by omega⟩
 | false =>
  rcases ho with ⟨-, h4, t, h5, h6⟩ | ⟨h4, -⟩
  rotate_left
  ·cases h4
  rcases hr1 with ⟨-, h7, u, h8, h9⟩ | ⟨h7, -⟩
  rotate_left
  ·cases h7
  refine ⟨by omega, by omega, by rw [h4, h7]; exact h.alike, by omega, fun e => ?_⟩
  obtain ⟨c1, c2, c3⟩ := h.cut (by omega)
  have hcl := cutO_le hi hd n
  have hlen : R'.objs.length = R.objs.length + u.length := by have := congrArg List.length h8; simpa using this
  have hcut : cutO H' n = cutO H n := by unfold cutO; rw [h5, List.take_append_of_le_length c1]
  have hborn : ∀ k (hk : k < R'.objs.length), (R'.objs.getD k noRO).born = (R.objs.map RO.born ++ u).getD k 0 := fun k hk => by
   rw [← h8, roD_in hk, List.getD_eq_getElem?_getD, List.getElem?_map, List.getElem?_eq_getElem hk]
   rfl
  refine ⟨by rw [h5, List.length_append]; omega, fun j j1 j2 => ?_, fun k hk => ?_⟩
  ·rw [h5] at j2 ⊢
   rw [List.length_append] at j2
   by_cases e3 : j < H.order.length
   ·rw [List.getD_eq_getElem?_getD, List.getElem?_append_left e3, ← List.getD_eq_getElem?_getD]
    exact c2 j j1 e3
   ·rw [List.getD_eq_getElem?_getD, List.getElem?_append_right (by omega), List.getElem?_eq_getElem (by omega)]
    exact h6 _ (List.getElem_mem _)
  ·rw [hborn k hk, hcut]
   by_cases e3 : k < R.objs.length
   ·have : (R.objs.map RO.born ++ u).getD k 0 = (R.objs.getD k noRO).born := by
     rw [List.getD_eq_getElem?_getD, List.getElem?_append_left (by simpa using e3), List.getElem?_map, List.getElem?_eq_getElem e3, roD_in e3]
     rfl
    rw [this]
    exact c3 k e3
   ·have hge : R.born ≤ (R.objs.map RO.born ++ u).getD k 0 := by
     rw [List.getD_eq_getElem?_getD, List.getElem?_append_right (by simpa using e3), List.getElem?_eq_getElem (by simp; omega)]
     exact h9 _ (List.getElem_mem _)
    constructor
    ·intro hlt; omega
    ·intro hlt; omega
structure Du where
 a : Nat
 l : Lay
 H : HS
 r : Nat
 R : RS
 M : MS
def Du.f (d : Du) : List Nat := foot d.a d.l ++ rfoot d.r d.R
structure DuOk (w : World) (n : Nat) (d : Du) : Prop where
 rep : Rep w d.a d.l d.H
 inv : Inv d.H d.M
 good : Good d.M
 rrep : RRep w 0 d.r d.R
 doc : Doc d.M d.R
 ap : ∀ g ∈ foot d.a d.l, g ∉ rfoot d.r d.R
 lo : ∀ g ∈ d.f, 2 ≤ g
 age : d.H.age ≤ n
 turn : d.R.turn ≤ n
 born : d.R.born ≤ 65538 + n
def duF : Option Du → List Nat
 | none => []
 | some d => d.f
def vO : Option Du → Value
 | none => .pointer none
 | some d => .pointer (some ⟨d.a, 0, none⟩)
def vR : Option Du → Value
 | none => .pointer none
 | some d => .pointer (some ⟨d.r, 0, none⟩)
def PrOk (w : World) (n : Nat) : Option Du → Prop
 | none => True
 | some d => DuOk w n d
structure Tbs (w : World) : Prop where
 t : Tab w
 u : Tab64 w
 s : 1 < w.heap.size
theorem Tbs.keep {w w' : World} {X : List Nat} (h : Tbs w) (hf : Fr X w w') (hX : ∀ g ∈ X, 2 ≤ g) : Tbs w' :=
 ⟨h.t.keep hf (by have := h.s; omega) (fun hm => by have := hX 0 hm; omega), h.u.keep hf h.s (fun hm => by have := hX 1 hm; omega), by have := h.s; have := hf.size; omega⟩
theorem DuOk.lt {w : World} {n : Nat} {d : Du} (h : DuOk w n d) : ∀ g ∈ d.f, g < w.heap.size := fun g hg => by
 rcases List.mem_append.1 hg with hg | hg
 ·exact h.rep.lt g hg
 ·exact h.rrep.ltF g hg
theorem DuOk.keep {w w' : World} {n : Nat} {d : Du} {X : List Nat} (h : DuOk w n d) (hf : Fr X w w') (hd : ∀ g ∈ d.f, g ∉ X) : DuOk w' n d :=
 ⟨h.rep.keep hf fun g hg => hd g (List.mem_append.2 (.inl hg)), h.inv, h.good, h.rrep.keepF hf fun g hg => hd g (List.mem_append.2 (.inr hg)), h.doc, h.ap, h.lo, h.age, h.turn, h.born⟩
theorem DuOk.more {w : World} {n n' : Nat} {d : Du} (h : DuOk w n d) (hn : n ≤ n') : DuOk w n' d :=
 ⟨h.rep, h.inv, h.good, h.rrep, h.doc, h.ap, h.lo, by have := h.age; omega, by have := h.turn; omega, by have := h.born; omega⟩
theorem PrOk.lt {w : World} {n : Nat} {D : Option Du} (h : PrOk w n D) : ∀ g ∈ duF D, g < w.heap.size := by
 cases D with
 | none => intro g hg; cases hg
 | some d => exact DuOk.lt h
theorem PrOk.keep {w w' : World} {n : Nat} {D : Option Du} {X : List Nat} (h : PrOk w n D) (hf : Fr X w w') (hd : ∀ g ∈ duF D, g ∉ X) : PrOk w' n D := by
 cases D with
 | none => trivial
 | some d => exact DuOk.keep h hf hd
theorem PrOk.idle {w w' : World} {n : Nat} {D : Option Du} (h : PrOk w n D) (hf : Fr [] w w') : PrOk w' n D := h.keep hf (by simp)
theorem PrOk.more {w : World} {n n' : Nat} {D : Option Du} (h : PrOk w n D) (hn : n ≤ n') : PrOk w n' D := by
 cases D with
 | none => trivial
 | some d => exact DuOk.more h hn
structure PrNext (w w' : World) (n' : Nat) (D D' : Option Du) : Prop where
 ok : PrOk w' n' D'
 fr : Fr (duF D) w w'
 foot : ∀ g ∈ duF D', g ∈ duF D ∨ w.heap.size ≤ g
 pO : vO D' = vO D
 pR : vR D' = vR D
 pts : ∀ d, D = some d → ∃ d', D' = some d' ∧ ∀ ag n pb tn, PtOk d.H d.R ag n pb tn → PtOk d'.H d'.R ag n pb tn
theorem PrNext.idle {w w' : World} {n n' : Nat} {D : Option Du} (h : PrOk w n D) (hn : n ≤ n') (hf : Fr [] w w') : PrNext w w' n' D D :=
 ⟨(h.idle hf).more hn, hf.mono (by simp), fun g hg => .inl hg, rfl, rfl, fun d hd => ⟨d, hd, fun _ _ _ _ h => h⟩⟩
structure Hf (d : Du) (M' : MS) (b : Bool) (p q : Bool) (w w' : World) (l' : Lay) (H' : HS) (R' : RS) : Prop where
 rep : Rep w' d.a l' H'
 rrep : RRep w' 0 d.r R'
 fr : Fr d.f w w'
 fP : ∀ g ∈ foot d.a l', g ∈ foot d.a d.l ∨ w.heap.size ≤ g
 fR : ∀ g ∈ rfoot d.r R', g ∈ rfoot d.r d.R ∨ w.heap.size ≤ g
 ap : ∀ g ∈ foot d.a l', g ∉ rfoot d.r R'
 pst : if p = true then Inv H' M' ∧ Old b d.H H' else l' = d.l ∧ H' = d.H
 rst : if q = true then Doc M' R' ∧ OldR b d.R R' else R' = d.R
section
variable {d : Du} {M' : MS} {b p q : Bool} {w w' w'' : World} {l' : Lay} {H' : HS} {R' : RS} {n : Nat}
theorem Hf.start (h : DuOk w n d) : Hf d M' b false false w w d.l d.H d.R := ⟨h.rep, h.rrep, Fr.refl _ _, fun g hg => .inl hg, fun g hg => .inl hg, h.ap, ⟨rfl, rfl⟩, rfl⟩
theorem Hf.idle (h : Hf d M' b p q w w' l' H' R') (hf : Fr [] w' w'') : Hf d M' b p q w w'' l' H' R' :=
 ⟨h.rep.keep hf (by simp), h.rrep.keepF hf (by simp), h.fr.trans hf (by simp), h.fP, h.fR, h.ap, h.pst, h.rst⟩
theorem Hf.prog (h : Hf d M' b false q w w' l' H' R') (hp : PN b d.a d.l d.H M' w' w'') : ∃ l'' H'', Hf d M' b true q w w'' l'' H'' R' := by
 obtain ⟨l2, H2, h1, h2, h3, h4⟩ := hp
 obtain ⟨e1, e2⟩ : l' = d.l ∧ H' = d.H := h.pst
 have hs := h.fr.size
 have hap := h.ap
 rw [e1] at hap
 refine ⟨l2, H2, h1, h.rrep.keepF h3.1 fun g hg hm => hap g hm hg, h.fr.trans h3.1 fun g hg => .inl (List.mem_append.2 (.inl hg)), fun g hg => ?_, h.fR, fun g hg hm => ?_, ⟨h2, h4⟩, h.rst⟩
 ·rcases h3.2 g hg with q | q
  ·exact .inl q
  ·exact .inr (by omega)
 ·rcases h3.2 g hg with q | q
  ·exact hap g q hm
  ·have := h.rrep.ltF g hm; omega
theorem Hf.docu (h : Hf d M' b p false w w' l' H' R') (hp : RN b d.r d.R M' w' w'') : ∃ R'', Hf d M' b p true w w'' l' H' R'' := by
 obtain ⟨R2, h1, h2, h3, h4, h5⟩ := hp
 have e1 : R' = d.R := h.rst
 have hs := h.fr.size
 have hap := h.ap
 rw [e1] at hap
 refine ⟨R2, h.rep.keep h3 fun g hg hm => hap g hg hm, h1, h.fr.trans h3 fun g hg => .inl (List.mem_append.2 (.inr hg)), h.fP, fun g hg => ?_, fun g hg hm => ?_, h.pst, ⟨h2, h5⟩⟩
 ·rcases h4 g hg with q | q
  ·exact .inl q
  ·exact .inr (by omega)
 ·rcases h4 g hm with q | q
  ·exact hap g hg q
  ·have := h.rep.lt g hg; omega
theorem Old.bound {H H' : HS} (h : Old b H H') : H'.age ≤ H.age + 1 := by
 rcases h with ⟨-, h, -⟩ | ⟨-, h⟩ <;> omega
theorem OldR.bound {R R' : RS} (h : OldR b R R') : R'.turn ≤ R.turn + 1 ∧ R'.born ≤ R.born + 1 := by
 obtain ⟨h1, h2, h3⟩ := h
 refine ⟨?_, h3⟩
 rcases h1 with ⟨-, h, -⟩ | ⟨-, h⟩ <;> omega
theorem Hf.done (h : Hf d M' b true true w w' l' H' R') (h0 : DuOk w n d) (hs : 2 ≤ w.heap.size) (hg : Good M') : PrNext w w' (n + 1) (some d) (some ⟨d.a, l', H', d.r, R', M'⟩) := by
 obtain ⟨i1, o1⟩ : Inv H' M' ∧ Old b d.H H' := h.pst
 obtain ⟨i2, o2⟩ : Doc M' R' ∧ OldR b d.R R' := h.rst
 have a1 := o1.bound
 have a2 := o2.bound
 have b1 := h0.age
 have b2 := h0.turn
 have b3 := h0.born
 have ff : ∀ g ∈ foot d.a l' ++ rfoot d.r R', g ∈ d.f ∨ w.heap.size ≤ g := fun g hg => by
  rcases List.mem_append.1 hg with hg | hg
  ·rcases h.fP g hg with q | q
   ·exact .inl (List.mem_append.2 (.inl q))
   ·exact .inr q
  ·rcases h.fR g hg with q | q
   ·exact .inl (List.mem_append.2 (.inr q))
   ·exact .inr q
 refine ⟨⟨h.rep, i1, hg, h.rrep, i2, h.ap, fun g hg => ?_, by show H'.age ≤ _; omega, by show R'.turn ≤ _; omega, by show R'.born ≤ _; omega⟩, h.fr, ff, rfl, rfl, fun d1 hd1 => ?_⟩
 ·rcases ff g hg with q | q
  ·exact h0.lo g q
  ·omega
 ·injection hd1 with hd1
  subst hd1
  exact ⟨_, rfl, fun ag k pb tn hp => hp.step h0.inv h0.doc o1 o2⟩
end
structure Both (w : World) (n' : Nat) (D : Option Du) (fp fr : FuncId) (aP aR : Array Value) (eP eR : Value) (Q : Bool → Bool → World → Prop) : Prop where
 start : Q false false w
 idle : ∀ {p q w' w''}, Q p q w' → Fr [] w' w'' → Q p q w''
 prog : ∀ {q w'}, Q false q w' → Calls Tryd.prog fp aP w' fun e w'' => e = .returned eP ∧ Q true q w''
 docu : ∀ {p w'}, Q p false w' → Calls Tryd.prog fr aR w' fun e w'' => e = .returned eR ∧ Q p true w''
 frm : ∀ {p q w'}, Q p q w' → Fr (duF D) w w'
 done : ∀ {w'}, Q true true w' → ∃ D', PrNext w w' n' D D'
theorem Both.some {w : World} {n : Nat} {d : Du} {fp fr : FuncId} {aP aR : Array Value} {eP eR : Value} (h : DuOk w n d) (hT : Tbs w) (M' : MS) (b : Bool) (hg : Good M')
  (hp : ∀ w', Rep w' d.a d.l d.H → Tbs w' → Fr d.f w w' → Calls Tryd.prog fp aP w' fun e w'' => e = .returned eP ∧ PN b d.a d.l d.H M' w' w'')
  (hr : ∀ w', RRep w' 0 d.r d.R → Fr d.f w w' → Calls Tryd.prog fr aR w' fun e w'' => e = .returned eR ∧ RN b d.r d.R M' w' w'') :
  Both w (n + 1) (some d) fp fr aP aR eP eR (fun p q w' => ∃ l' H' R', Hf d M' b p q w w' l' H' R') := by
 refine ⟨⟨_, _, _, Hf.start h⟩, ?_, ?_, ?_, ?_, ?_⟩
 ·rintro p q w' w'' ⟨l', H', R', h1⟩ hf
  exact ⟨l', H', R', h1.idle hf⟩
 ·rintro q w' ⟨l', H', R', h1⟩
  obtain ⟨e1, e2⟩ : l' = d.l ∧ H' = d.H := h1.pst
  have hrep := h1.rep
  rw [e1, e2] at hrep
  refine (hp w' hrep (hT.keep h1.fr h.lo) h1.fr).mono ?_
  rintro e w'' ⟨h2, h3⟩
  obtain ⟨l2, H2, h4⟩ := h1.prog h3
  exact ⟨h2, l2, H2, R', h4⟩
 ·rintro p w' ⟨l', H', R', h1⟩
  have e1 : R' = d.R := h1.rst
  have hrep := h1.rrep
  rw [e1] at hrep
  refine (hr w' hrep h1.fr).mono ?_
  rintro e w'' ⟨h2, h3⟩
  obtain ⟨R2, h4⟩ := h1.docu h3
  exact ⟨h2, l', H', R2, h4⟩
 ·rintro p q w' ⟨l', H', R', h1⟩
  exact h1.fr
 ·rintro w' ⟨l', H', R', h1⟩
  exact ⟨_, h1.done h (by have := hT.s; omega) hg⟩
theorem Both.none {w : World} {n : Nat} {fp fr : FuncId} {aP aR : Array Value} {eP eR : Value}
  (hp : ∀ w', Calls Tryd.prog fp aP w' fun e w'' => e = .returned eP ∧ Fr [] w' w'') (hr : ∀ w', Calls Tryd.prog fr aR w' fun e w'' => e = .returned eR ∧ Fr [] w' w'') :
  Both w n none fp fr aP aR eP eR (fun _ _ w' => Fr [] w w') := by
 refine ⟨Fr.refl _ _, fun h hf => h.trans hf (by simp), ?_, ?_, fun h => h, fun h => ⟨Option.none, PrNext.idle (n := n) (D := Option.none) trivial (Nat.le_refl _) h⟩⟩
 ·intro q w' h
  refine (hp w').mono ?_
  rintro e w'' ⟨h2, h3⟩
  exact ⟨h2, h.trans h3 (by simp)⟩
 ·intro p w' h
  refine (hr w').mono ?_
  rintro e w'' ⟨h2, h3⟩
  exact ⟨h2, h.trans h3 (by simp)⟩
section
variable (w : World) (n : Nat) (D : Option Du)
theorem calls_same {f : FuncId} {av : Array Value} {w : World} {v : Value} (h : Calls Tryd.prog f av w fun e w' => e = .returned v ∧ w' = w) : Calls Tryd.prog f av w fun e w' => e = .returned v ∧ Fr [] w w' :=
 h.mono fun e w' ⟨h1, h2⟩ => ⟨h1, by rw [h2]; exact Fr.refl _ _⟩
theorem allocA_in (M : MS) (X A B : Int) : 0 ≤ (allocA M X A B).2 ∧ (allocA M X A B).2 ≤ 1000 := by
 unfold allocA
 split
 ·simp
 ·split
  ·simp
  ·split
   ·simp
   ·split <;> simp
theorem both_alloc (X A B : Int) (h : PrOk w n D) (hT : Tbs w) (hn : n ≤ 100000000) : ∃ x y Q, (0 ≤ y ∧ y ≤ 1000) ∧ Both w (n + 1) D 14 77 #[vO D, .int .i64 X, .int .i64 A, .int .i64 B] #[vR D, .int .i64 X, .int .i64 A, .int .i64 B] (.tuple #[.int .i64 x, .int .i64 y]) (.tuple #[.int .i64 x, .int .i64 y]) Q := by
 cases D with
 | none => exact ⟨_, _, _, ⟨by omega, by omega⟩, Both.none (fun w' => nAlloc _ X A B w' (noH_nil w')) (fun w' => by first | exact rAlloc_nil X A B w' | exact calls_same (rAlloc_nil X A B w'))⟩
 | some d =>
  have h : DuOk w n d := h
  have b1 := h.born
  have hg : Good (allocN d.M X A B) := by have := h.good.next 1 A B X []; simpa [nextM] using this
  exact ⟨_, _, _, allocA_in d.M X A B, Both.some h hT (allocN d.M X A B) false hg (fun w' hr ht _ => pAlloc X A B d.a d.l d.H d.M w' hr h.inv ht.t ht.u (h.lo d.a (by simp [Du.f, foot]))) (fun w' hr _ => rAllocM X A B d.r d.R d.M w' hr h.inv h.doc (h.doc.bd h.inv) (by omega))⟩
theorem both_mark (A : Int) (h : PrOk w n D) (hT : Tbs w) : ∃ x Q, (0 ≤ x ∧ x ≤ 1000) ∧ Both w (n + 1) D 12 78 #[vO D, .int .i64 A] #[vR D, .int .i64 A] (.int .i64 x) (.int .i64 x) Q := by
 cases D with
 | none => exact ⟨_, _, ⟨by omega, by omega⟩, Both.none (fun w' => nMark _ A w' (noH_nil w')) (fun w' => calls_same (rMarks_nil A w'))⟩
 | some d =>
  have h : DuOk w n d := h
  have hg : Good (markN d.M A) := by have := h.good.next 2 A 0 0 []; simpa [nextM] using this
  exact ⟨_, _, by repeat' split <;> omega, Both.some h hT (markN d.M A) false hg (fun w' hr ht _ => pMark A d.a d.l d.H d.M w' hr h.inv) (fun w' hr _ => rMarksM A d.r d.R d.M w' hr h.doc)⟩
theorem both_free (A : Int) (h : PrOk w n D) (hT : Tbs w) (hn : n ≤ 100000000) : ∃ x Q, (0 ≤ x ∧ x ≤ 1000) ∧ Both w (n + 1) D 64 79 #[vO D, .int .i64 A] #[vR D, .int .i64 A] (.int .i64 x) (.int .i64 x) Q := by
 cases D with
 | none => exact ⟨_, _, ⟨by omega, by omega⟩, Both.none (fun w' => nFree _ A w' (noH_nil w')) (fun w' => rFree_nil A w')⟩
 | some d =>
  have h : DuOk w n d := h
  have b1 := h.age
  have b2 := h.turn
  have hg : Good (freeN d.M A) := by have := h.good.next 3 A 0 0 []; simpa [nextM] using this
  exact ⟨_, _, by repeat' split <;> omega, Both.some h hT (freeN d.M A) (mhas d.M A) hg (fun w' hr ht _ => pFree A d.a d.l d.H d.M w' hr h.inv (by omega)) (fun w' hr _ => rFreeM A d.r d.R d.M w' hr h.doc (h.doc.bd h.inv) (by omega))⟩
theorem both_cls (A X : Int) (h : PrOk w n D) (hT : Tbs w) : ∃ x Q, (0 ≤ x ∧ x ≤ 1000) ∧ Both w (n + 1) D 30 83 #[vO D, .int .i64 A, .int .i64 X] #[vR D, .int .i64 A, .int .i64 X] (.int .i64 x) (.int .i64 x) Q := by
 cases D with
 | none => exact ⟨_, _, ⟨by omega, by omega⟩, Both.none (fun w' => nSetClass _ A X w' (noH_nil w')) (fun w' => rSetClass_nil A X w')⟩
 | some d =>
  have h : DuOk w n d := h
  have hg : Good (clsN d.M A X) := by have := h.good.next 5 A 0 X []; simpa [nextM] using this
  exact ⟨_, _, by repeat' split <;> omega, Both.some h hT (clsN d.M A X) false hg (fun w' hr ht _ => pSetClass A X d.a d.l d.H d.M w' hr h.inv ht.t) (fun w' hr _ => rSetClassM A X d.r d.R d.M w' hr h.doc (h.doc.bd h.inv))⟩
theorem both_put (A B X : Int) (h : PrOk w n D) (hT : Tbs w) : ∃ x Q, (0 ≤ x ∧ x ≤ 1000) ∧ Both w (n + 1) D 29 85 #[vO D, .int .i64 A, .int .i64 B, .int .i64 X] #[vR D, .int .i64 A, .int .i64 B, .int .i64 X] (.int .i64 x) (.int .i64 x) Q := by
 cases D with
 | none => exact ⟨_, _, ⟨by omega, by omega⟩, Both.none (fun w' => nPut _ A B X w' (noH_nil w')) (fun w' => rPut_nil A B X w')⟩
 | some d =>
  have h : DuOk w n d := h
  have hg : Good (putN d.M A B X) := by have := h.good.next 7 A B X []; simpa [nextM] using this
  exact ⟨_, _, by unfold putA; repeat' split <;> omega, Both.some h hT (putN d.M A B X) false hg (fun w' hr ht _ => pPut A B X d.a d.l d.H d.M w' hr h.inv ht.t) (fun w' hr _ => rPutM A B X d.r d.R d.M w' hr h.doc (h.doc.bd h.inv))⟩
theorem both_exch (A B : Int) (h : PrOk w n D) (hT : Tbs w) (hn : n ≤ 100000000) : ∃ x Q, (0 ≤ x ∧ x ≤ 1000) ∧ Both w (n + 1) D 46 86 #[vO D, .int .i64 A, .int .i64 B] #[vR D, .int .i64 A, .int .i64 B] (.int .i64 x) (.int .i64 x) Q := by
 cases D with
 | none => exact ⟨_, _, ⟨by omega, by omega⟩, Both.none (fun w' => nExch _ A B w' (noH_nil w')) (fun w' => rExch_nil A B w')⟩
 | some d =>
  have h : DuOk w n d := h
  have b1 := h.age
  have b2 := h.turn
  have hg : Good (exchN d.M A B) := by have := h.good.next 8 A B 0 []; simpa [nextM] using this
  exact ⟨_, _, by repeat' split <;> omega, Both.some h hT (exchN d.M A B) (mhas d.M A && mhas d.M B) hg (fun w' hr ht _ => pExch A B d.a d.l d.H d.M w' hr h.inv (by omega)) (fun w' hr _ => rExchM A B d.r d.R d.M w' hr h.doc (h.doc.bd h.inv) (by omega))⟩
theorem both_keep (ss : List Int) (p : Option Addr) (c : Nat) (p2 : Option Addr) (c2 : Nat) (h : PrOk w n D) (hT : Tbs w) (hn : n ≤ 100000000) (hl : ss.length ≤ 1048576)
  (hr : Rd w (.slice p ss.length c) ss) (ha : 0 < ss.length → ∀ g, (Value.slice p ss.length c).ownBlock = some g → g ∉ duF D) (h0 : ∀ g off t, p = some ⟨g, off, t⟩ → off = 0) (hr2 : Rd w (.slice p2 ss.length c2) ss) (ha2 : 0 < ss.length → ∀ g, (Value.slice p2 ss.length c2).ownBlock = some g → g ∉ duF D) :
  ∃ x y z Q, (0 ≤ z ∧ z ≤ 1000) ∧ Both w (n + 1) D 34 111 #[vO D, .slice p ss.length c] #[vR D, .slice p2 ss.length c2] (.tuple #[.int .i64 x, .int .i64 y, .int .i64 z]) (.tuple #[.int .i64 x, .int .i64 y, .int .i64 z]) Q := by
 cases D with
 | none => exact ⟨_, _, _, _, ⟨by omega, by omega⟩, Both.none (fun w' => nKeep _ _ w' (noH_nil w')) (fun w' => rKeep_nil _ w')⟩
 | some d =>
  have h : DuOk w n d := h
  have b1 := h.age
  have b2 := h.turn
  have hg : Good (keepN d.M ss) := by have := h.good.next 11 0 0 0 ss; simpa [nextM] using this
  refine ⟨(keepA d.M ss).1, (keepA d.M ss).2.1, (keepA d.M ss).2.2, _, by unfold keepA; split <;> simp, Both.some h hT (keepN d.M ss) (ss.all (mhas d.M)) hg (fun w' hrp ht hf => ?_) (fun w' hrr hf => ?_)⟩
  ·refine pKeep ss p c d.a d.l d.H d.M w' hrp h.inv (by omega) ?_ (by omega)
   intro j hj
   obtain ⟨p', c', e, hc⟩ := hr.at_
   injection e with e1 e2 e3
   subst e1
   obtain ⟨g, off, e4, hgl, hcell⟩ := hc (by omega)
   have e0 := h0 g off none e4
   subst e0
   subst e4
   have hng : g ∉ d.f := ha (by omega) g (by simp [Value.ownBlock])
   refine ⟨g, rfl, by have := hf.size; omega, fun hm => hng (List.mem_append.2 (.inl hm)), ?_⟩
   rw [hf.cell (p := ⟨g, j, none⟩) hgl hng]
   have := hcell j hj
   rw [Nat.zero_add] at this
   exact this
  ·exact rKeepM ss p2 c2 d.r d.R d.M w' hrr h.inv h.doc (h.doc.bd h.inv) (by omega) (hr2.keep hf fun h0 g hg => ha2 h0 g hg) hl
theorem ro_class (A : Int) (h : PrOk w n D) : ∃ x y, (0 ≤ y ∧ y ≤ 1000) ∧ (∀ w', Hid (Fr [] w w') → Calls Tryd.prog 68 #[vO D, .int .i64 A] w' fun e w'' => e = .returned (.tuple #[.int .i64 x, .int .i64 y]) ∧ Hid (Fr [] w w'')) ∧ ∀ w', Hid (Fr [] w w') → Calls Tryd.prog 80 #[vR D, .int .i64 A] w' fun e w'' => e = .returned (.tuple #[.int .i64 x, .int .i64 y]) ∧ Hid (Fr [] w w'') := by
 cases D with
 | none => exact ⟨_, _, ⟨by omega, by omega⟩, fun w' hf => (nClass _ A w' (noH_nil w')).mono fun e w'' ⟨h1, h2⟩ => ⟨h1, hf.out.trans h2 (by simp)⟩, fun w' hf => (rClass_nil A w').mono fun e w'' ⟨h1, h2⟩ => ⟨h1, hf.out.trans h2 (by simp)⟩⟩
 | some d =>
  have h : DuOk w n d := h
  exact ⟨_, _, by split <;> omega, fun w' hf => (pClass A d.a d.l d.H d.M w' (h.rep.keep hf.out (by simp)) h.inv).mono fun e w'' ⟨h1, h2⟩ => ⟨h1, hf.out.trans h2 (by simp)⟩, fun w' hf => (rClassM A d.r d.R d.M w' (h.rrep.keepF hf.out (by simp)) h.doc (h.doc.bd h.inv)).mono fun e w'' ⟨h1, h2⟩ => ⟨h1, hf.out.trans h2 (by simp)⟩⟩
theorem ro_size (A : Int) (h : PrOk w n D) : ∃ x y z, (0 ≤ z ∧ z ≤ 1000) ∧ (∀ w', Hid (Fr [] w w') → Calls Tryd.prog 81 #[vO D, .int .i64 A] w' fun e w'' => e = .returned (.tuple #[.int .i64 x, .int .i64 y, .int .i64 z]) ∧ Hid (Fr [] w w'')) ∧ ∀ w', Hid (Fr [] w w') → Calls Tryd.prog 82 #[vR D, .int .i64 A] w' fun e w'' => e = .returned (.tuple #[.int .i64 x, .int .i64 y, .int .i64 z]) ∧ Hid (Fr [] w w'') := by
 cases D with
 | none => exact ⟨_, _, _, ⟨by omega, by omega⟩, fun w' hf => (nSize _ A w' (noH_nil w')).mono fun e w'' ⟨h1, h2⟩ => ⟨h1, hf.out.trans h2 (by simp)⟩, fun w' hf => (rSize_nil A w').mono fun e w'' ⟨h1, h2⟩ => ⟨h1, hf.out.trans h2 (by simp)⟩⟩
 | some d =>
  have h : DuOk w n d := h
  exact ⟨_, _, _, by split <;> omega, fun w' hf => (pSize A d.a d.l d.H d.M w' (h.rep.keep hf.out (by simp)) h.inv).mono fun e w'' ⟨h1, h2⟩ => ⟨h1, hf.out.trans h2 (by simp)⟩, fun w' hf => (rSizeM A d.r d.R d.M w' (h.rrep.keepF hf.out (by simp)) h.doc (h.doc.bd h.inv)).mono fun e w'' ⟨h1, h2⟩ => ⟨h1, hf.out.trans h2 (by simp)⟩⟩
theorem ro_at (A B : Int) (h : PrOk w n D) : ∃ x y, (0 ≤ y ∧ y ≤ 1000) ∧ (∀ w', Hid (Fr [] w w') → Calls Tryd.prog 47 #[vO D, .int .i64 A, .int .i64 B] w' fun e w'' => e = .returned (.tuple #[.int .i64 x, .int .i64 y]) ∧ Hid (Fr [] w w'')) ∧ ∀ w', Hid (Fr [] w w') → Calls Tryd.prog 84 #[vR D, .int .i64 A, .int .i64 B] w' fun e w'' => e = .returned (.tuple #[.int .i64 x, .int .i64 y]) ∧ Hid (Fr [] w w'') := by
 cases D with
 | none => exact ⟨_, _, ⟨by omega, by omega⟩, fun w' hf => (nAt _ A B w' (noH_nil w')).mono fun e w'' ⟨h1, h2⟩ => ⟨h1, hf.out.trans h2 (by simp)⟩, fun w' hf => (rAt_nil A B w').mono fun e w'' ⟨h1, h2⟩ => ⟨h1, hf.out.trans h2 (by simp)⟩⟩
 | some d =>
  have h : DuOk w n d := h
  exact ⟨_, _, by unfold atA; repeat' split <;> simp, fun w' hf => (pAt A B d.a d.l d.H d.M w' (h.rep.keep hf.out (by simp)) h.inv).mono fun e w'' ⟨h1, h2⟩ => ⟨h1, hf.out.trans h2 (by simp)⟩, fun w' hf => (rAtM A B d.r d.R d.M w' (h.rrep.keepF hf.out (by simp)) h.doc (h.doc.bd h.inv)).mono fun e w'' ⟨h1, h2⟩ => ⟨h1, hf.out.trans h2 (by simp)⟩⟩
theorem ro_room (h : PrOk w n D) : ∃ x y, (∀ w', Hid (Fr [] w w') → Calls Tryd.prog 20 #[vO D] w' fun e w'' => e = .returned (.tuple #[.int .i64 x, .int .i64 y]) ∧ Hid (Fr [] w w'')) ∧ ∀ w', Hid (Fr [] w w') → Calls Tryd.prog 21 #[vR D] w' fun e w'' => e = .returned (.tuple #[.int .i64 x, .int .i64 y]) ∧ Hid (Fr [] w w'') := by
 cases D with
 | none => exact ⟨_, _, fun w' hf => (nRoom _ w' (noH_nil w')).mono fun e w'' ⟨h1, h2⟩ => ⟨h1, hf.out.trans h2 (by simp)⟩, fun w' hf => (calls_same (rRoom_nil w')).mono fun e w'' ⟨h1, h2⟩ => ⟨h1, hf.out.trans h2 (by simp)⟩⟩
 | some d =>
  have h : DuOk w n d := h
  exact ⟨_, _, fun w' hf => (pRoom d.a d.l d.H d.M w' (h.rep.keep hf.out (by simp)) h.inv).mono fun e w'' ⟨h1, h2⟩ => ⟨h1, hf.out.trans h2 (by simp)⟩, fun w' hf => (rRoomM d.r d.R d.M w' (h.rrep.keepF hf.out (by simp)) h.doc (h.doc.bd h.inv)).mono fun e w'' ⟨h1, h2⟩ => ⟨h1, hf.out.trans h2 (by simp)⟩⟩
theorem ro_marked (h : PrOk w n D) : ∃ x, (∀ w', Hid (Fr [] w w') → Calls Tryd.prog 15 #[vO D] w' fun e w'' => e = .returned (.int .i64 x) ∧ Hid (Fr [] w w'')) ∧ ∀ w', Hid (Fr [] w w') → Calls Tryd.prog 90 #[vR D] w' fun e w'' => e = .returned (.int .i64 x) ∧ Hid (Fr [] w w'') := by
 cases D with
 | none => exact ⟨_, fun w' hf => (nMarked _ w' (noH_nil w')).mono fun e w'' ⟨h1, h2⟩ => ⟨h1, hf.out.trans h2 (by simp)⟩, fun w' hf => (calls_same (rMarked_nil w')).mono fun e w'' ⟨h1, h2⟩ => ⟨h1, hf.out.trans h2 (by simp)⟩⟩
 | some d =>
  have h : DuOk w n d := h
  exact ⟨_, fun w' hf => (pMarked d.a d.l d.H d.M w' (h.rep.keep hf.out (by simp)) h.inv).mono fun e w'' ⟨h1, h2⟩ => ⟨h1, hf.out.trans h2 (by simp)⟩, fun w' hf => (calls_same (rMarkedM d.r d.R d.M w' (h.rrep.keepF hf.out (by simp)) h.doc)).mono fun e w'' ⟨h1, h2⟩ => ⟨h1, hf.out.trans h2 (by simp)⟩⟩
theorem ro_all (h : PrOk w n D) : ∃ xs : List Int, xs.length ≤ 1100000 ∧ (∀ w', Hid (Fr [] w w') → Calls Tryd.prog 35 #[vO D] w' fun e w'' => ∃ v, e = .returned v ∧ w''.ownsRow w'.heap.size 3 1 v xs.length (xs.map (Value.int .i64)) ∧ Fr [] w' w'') ∧ ∀ w', Hid (Fr [] w w') → Calls Tryd.prog 92 #[vR D] w' fun e w'' => ∃ v, e = .returned v ∧ w''.ownsRow w'.heap.size 3 1 v xs.length (xs.map (Value.int .i64)) ∧ Fr [] w' w'' := by
 cases D with
 | none =>
  exact ⟨[], by simp, fun w' hf => (nAll _ w' (noH_nil w')).mono fun e w'' ⟨h1, h2⟩ => ⟨_, h1, World.ownsRow_nil .., h2⟩, fun w' hf => (rAll_nil w').mono fun e w'' ⟨h1, h2⟩ => ⟨_, h1, World.ownsRow_nil .., h2⟩⟩
 | some d =>
  have h : DuOk w n d := h
  have hb := h.doc.bd h.inv
  have hm : (allM d.M).map I = ((allM d.M).map (fun o : Nat => (o : Int))).map (Value.int .i64) := by rw [List.map_map]; rfl
  have hl : ((allM d.M).map (fun o : Nat => (o : Int))).length = (allM d.M).length := by simp
  refine ⟨(allM d.M).map (fun o : Nat => (o : Int)), ?_, fun w' hf => ?_, fun w' hf => ?_⟩
  ·rw [hl]
   have := List.length_filter_le (fun o => decide (1 ≤ o) && (d.M.things.getD (o - 1) noTh).there) (List.range (d.M.things.length + 1))
   have := hb.things
   unfold allM
   rw [List.length_range] at *
   omega
  ·rw [hl, ← hm]
   exact pAll d.a d.l d.H d.M w' (h.rep.keep hf.out (by simp)) h.inv
  ·rw [hl, ← hm]
   exact rAllM d.r d.R d.M w' (h.rrep.keepF hf.out (by simp)) h.doc hb
end
end Go.Proofs.YtklfnjlenbgmoaaDoor
