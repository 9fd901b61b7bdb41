import Derived.Test.YtklfnjlenbgmoaaDoorPG13HAg1
import Derived.Test.YtklfnjlenbgmoaaDoorPG21HPlQ
import Derived.Test.YtklfnjlenbgmoaaDoorPG31HPr1
import Derived.Test.YtklfnjlenbgmoaaDoorPHStateY
import Derived.Test.YtklfnjlenbgmoaaDoorPG24HRefO
import Derived.Test.YtklfnjlenbgmoaaDoorPG26HPlN
import Derived.Test.YtklfnjlenbgmoaaDoorPHLay
import Derived.Test.YtklfnjlenbgmoaaDoorPG15HLoadW
import Derived.Deep.DeepAppendWide
import Derived.Maps.AppendAt
import Derived.Test.YtklfnjlenbgmoaaDoorPG18RKeepP
set_option linter.unusedSimpArgs false
set_option linter.unusedVariables false
namespace Go.Proofs.YtklfnjlenbgmoaaDoor
open Go.RowKit
attribute [local go_sem ↓] Go.wp_at_zero Go.wp_at_succ
end Go.Proofs.YtklfnjlenbgmoaaDoor
namespace Go.Proofs.YtklfnjlenbgmoaaDoor
open Go.RowKit
theorem RRep.base {w : World} {B r : Nat} {R : RS} (h : RRep w B r R) : RRep w 0 r R ∧ ∀ g ∈ rfoot r R, B ≤ g := by
 refine ⟨⟨Nat.zero_le _, h.top, own_base h.row (Nat.zero_le _), fun o ho => own_base (h.slots o ho) (Nat.zero_le _)⟩, fun g hg => ?_⟩
 rcases List.mem_cons.1 hg with hg | hg
 ·rw [hg]; exact h.lo
 ·rcases List.mem_append.1 hg with hg | hg
  ·exact (h.row.lt g (by simpa using hg)).1
  ·obtain ⟨o, ho, hg⟩ := List.mem_flatMap.1 hg
   exact ((h.slots o ho).lt g (by simpa using hg)).1
structure StOf (w : World) (D : Option Du) (x y z : Nat) (ks : List (Nat × Int × Nat × List Int)) (M' : MS) : Prop where
 good : Good M'
 bnd : ∀ {w' B ov ls}, SRep w' B ov ls → ls.map osKey = ks → ls.length ≤ 1048576 ∧ ∀ o ∈ ls, o.slots.length ≤ 8192
 prog : ∀ w', Hid (Fr [] w w') → Calls Tryd.prog 23 #[vO D] w' fun e w'' => ∃ ov ls, e = .returned (.agg #[.int .i64 (x : Int), .int .i64 (y : Int), .int .i64 (z : Int), ov]) ∧ SRep w'' w'.heap.size ov ls ∧ ls.map osKey = ks ∧ Fr [] w' w'' ∧ ApO ls
 docu : ∀ w', Hid (Fr [] w w') → Calls Tryd.prog 24 #[vR D] w' fun e w'' => ∃ ov ls, e = .returned (.agg #[.int .i64 (x : Int), .int .i64 (y : Int), .int .i64 (z : Int), ov]) ∧ SRep w'' w'.heap.size ov ls ∧ ls.map osKey = ks ∧ Fr [] w' w''
 load : ∀ {w' B ov ls}, SRep w' B ov ls → ls.map osKey = ks → Tbs w' → Calls Tryd.prog 17 #[.agg #[.int .i64 (x : Int), .int .i64 (y : Int), .int .i64 (z : Int), ov]] w' fun e w'' => e = .returned (.tuple #[.pointer (some ⟨w'.heap.size + 1, 0, none⟩), .int .i64 0]) ∧ ∃ l G, Rep w'' (w'.heap.size + 1) l G ∧ Inv G M' ∧ Fr [] w' w'' ∧ (∀ b ∈ foot (w'.heap.size + 1) l, w'.heap.size ≤ b) ∧ G.age = 0
 rload : ∀ {w' B ov ls}, SRep w' B ov ls → ls.map osKey = ks → Calls Tryd.prog 18 #[.agg #[.int .i64 (x : Int), .int .i64 (y : Int), .int .i64 (z : Int), ov]] w' fun e w'' => e = .returned (.tuple #[.pointer (some ⟨w'.heap.size + 1, 0, none⟩), .int .i64 0]) ∧ ∃ R, RRep w'' 0 (w'.heap.size + 1) R ∧ Doc M' R ∧ Fr [] w' w'' ∧ (∀ b ∈ rfoot (w'.heap.size + 1) R, w'.heap.size ≤ b) ∧ R.turn = 0 ∧ R.born ≤ 65538
theorem srep_nil (w : World) (B : Nat) : SRep w B (.slice none 0 0) [] := ⟨World.ownsRow_nil .., fun o ho => by cases ho⟩
theorem good_empty (x y : Nat) : Good (emptyM x y) := fun i => by
 have e : (emptyM x y).things.getD i noTh = noTh := by simp [emptyM]
 rw [e]
 exact fine_no
theorem keys_empty (x y : Nat) : keysH (emptyH x y) (emptyM x y) = [] := rfl
theorem good_load {M : MS} (h : Good M) : Good (loadN M) := slid_good h
theorem st_any {w : World} {n : Nat} {D : Option Du} (h : PrOk w n D) : ∃ x y z ks M', StOf w D x y z ks M' := by
 cases D with
 | none =>
  have hi := inv_empty 0 0 (by omega) (by omega)
  refine ⟨0, 0, 0, [], loadN (emptyM 0 0), good_load (good_empty 0 0), fun hs hk => by have hl := List.map_eq_nil_iff.1 hk; subst hl; simp, fun w' hf => ?_, fun w' hf => ?_, ?_, ?_⟩
  ·exact (nState _ w' (noH_nil w')).mono fun e w'' ⟨h1, h2⟩ => ⟨_, [], h1, srep_nil _ _, rfl, h2, List.Pairwise.nil⟩
  ·exact (rState_nil w').mono fun e w'' ⟨h1, h2⟩ => ⟨_, [], h1, srep_nil _ _, rfl, h2⟩
  ·intro w' B ov ls hs hk ht
   have hl : ls = [] := List.map_eq_nil_iff.1 hk
   subst hl
   exact pLoad (H := emptyH 0 0) (M := emptyM 0 0) ov [] w' hi (good_empty 0 0) (by have := hs.sat (by simp) (by simp); simpa using this) (keys_empty 0 0).symm ht.t (by have := ht.s; omega)
  ·intro w' B ov ls hs hk
   have hl : ls = [] := List.map_eq_nil_iff.1 hk
   subst hl
   refine (rLoadM (H := emptyH 0 0) (M := emptyM 0 0) ov [] w' hi (good_empty 0 0) (by have := hs.sat (by simp) (by simp); simpa using this) (keys_empty 0 0).symm).mono ?_
   rintro e w'' ⟨h1, R, h2, h3, h4, h5, h6⟩
   exact ⟨h1, R, h2.base.1, h3, h4, fun b hb => by have := h2.base.2 b hb; omega, h5, h6⟩
 | some d =>
  have h : DuOk w n d := h
  have e1 : stKeys d.H d.M.things d.H.order.length = (liveO d.H).map (keyO d.M.things) := stKeys_live ..
  have kk : ∀ {w' B ov ls}, SRep w' B ov ls → ls.map osKey = (liveO d.H).map (keyO d.M.things) → SAt w' ov (ls.map toOI) ∧ (ls.map toOI).map oiKey = keysH d.H d.M ∧ ls.length ≤ 1048576 ∧ ∀ o ∈ ls, o.slots.length ≤ 8192 := fun hs hk => hs.state h.inv (by rw [e1]; exact hk)
  refine ⟨d.M.words, d.M.oops, d.M.mark, (liveO d.H).map (keyO d.M.things), loadN d.M, good_load h.good, fun hs hk => (kk hs hk).2.2, fun w' hf => ?_, fun w' hf => ?_, ?_, ?_⟩
  ·have := State_ap d.a d.l d.H d.M w' (h.rep.keep hf.out (by simp)) h.inv.toInvV
   rw [e1, h.inv.words, h.inv.oops, h.inv.mark] at this
   exact this
  ·exact rStateM d.r d.R d.M w' (h.rrep.keepF hf.out (by simp)) h.inv h.doc (h.doc.bd h.inv)
  ·intro w' B ov ls hs hk ht
   obtain ⟨k1, k2, -, -⟩ := kk hs hk
   exact pLoad ov _ w' h.inv h.good k1 k2 ht.t (by have := ht.s; omega)
  ·intro w' B ov ls hs hk
   obtain ⟨k1, k2, -, -⟩ := kk hs hk
   refine (rLoadM ov _ w' h.inv h.good k1 k2).mono ?_
   rintro e w'' ⟨h1, R, h2, h3, h4, h5, h6⟩
   exact ⟨h1, R, h2.base.1, h3, h4, fun b hb => by have := h2.base.2 b hb; omega, h5, h6⟩
structure Pt where
 u : Option Addr
 ag : Nat
 n : Nat
 v : Option Addr
 pb : Nat
 tn : Nat
def Pt.P (p : Pt) : Value := .agg #[.pointer p.u, .int .i64 (p.ag : Int), .int .i64 (p.n : Int)]
def Pt.R (p : Pt) : Value := .agg #[.pointer p.v, .int .i64 (p.pb : Int), .int .i64 (p.tn : Int)]
def Pt.cP (p : Pt) : List Value := [.pointer p.u, .int .i64 (p.ag : Int), .int .i64 (p.n : Int)]
def Pt.cR (p : Pt) : List Value := [.pointer p.v, .int .i64 (p.pb : Int), .int .i64 (p.tn : Int)]
def PtMine (d : Du) (p : Pt) : Prop := p.u = some ⟨d.a, 0, none⟩ ∧ p.v = some ⟨d.r, 0, none⟩ ∧ PtOk d.H d.R p.ag p.n p.pb p.tn
def PtElse (w : World) (d : Du) (p : Pt) : Prop := (∀ x, p.u = some x → x.block ∉ d.f ∧ ∃ cs t, w.heap[x.block]? = some (.cells cs t (0, 0))) ∧ ∀ x, p.v = some x → x.block ∉ d.f ∧ ∃ cs t, w.heap[x.block]? = some (.cells cs t (0, 0))
theorem good_back {M : MS} (h : Good M) {X : List Th} {L : List Nat} (h1 : ∀ i, i + 1 ∈ L → X.getD i noTh = M.things.getD i noTh) (h2 : ∀ i, (X.getD i noTh).there = true → i + 1 ∈ L) : Good { M with things := X } := fun i hi => by
 have hm := h2 i hi
 have e := h1 i hm
 have hi' : (M.things.getD i noTh).there = true := by rw [← e]; exact hi
 have := h i hi'
 rw [← e] at this
 exact this
theorem pBackX (n : Nat) (a : Nat) (l : Lay) (H : HS) (M : MS) (hi : Inv H M) (hn : n ≤ H.order.length) (young : ∀ j, n ≤ j → j < H.order.length → H.order.getD j 0 ≠ 0) (hage : (H.age : Int) ≤ 1000000000) :
  ∃ X, (∀ i, i + 1 ∈ (liveO H).take (cutO H n) → X.getD i noTh = M.things.getD i noTh) ∧ (∀ i, (X.getD i noTh).there = true → i + 1 ∈ (liveO H).take (cutO H n)) ∧
  ∀ w, Rep w a l H → Calls Tryd.prog 31 #[.pointer (some ⟨a, 0, none⟩), .agg #[.pointer (some ⟨a, 0, none⟩), .int .i64 (H.age : Int), .int .i64 (n : Int)]] w fun e w' => e = .returned (.int .i64 0) ∧ PN true a l H { M with things := X } w w' := by
 obtain ⟨t, e0, X, hd, hinv, hx1, hx2⟩ := hi.backN n hn young
 refine ⟨X, hx1, hx2, fun w h => ?_⟩
 refine Calls.mono (Back_ok n t e0 a l H w h (hi.backOkN n hn young hage) hd) ?_
 rintro e w' ⟨rfl, hr, hx⟩
 exact ⟨rfl, l, _, hr, hinv, hx, .inr ⟨rfl, rfl⟩⟩
theorem both_back (w : World) (n : Nat) (D : Option Du) (p : Pt) (h : PrOk w n D) (hT : Tbs w) (hn : n ≤ 100000000) (hp : ∀ d, D = some d → PtMine d p ∨ PtElse w d p) : ∃ x Q, (0 ≤ x ∧ x ≤ 1000) ∧ Both w (n + 1) D 31 88 #[vO D, p.P] #[vR D, p.R] (.int .i64 x) (.int .i64 x) Q := by
 cases D with
 | none => exact ⟨_, _, ⟨by omega, by omega⟩, Both.none (fun w' => nBack _ _ _ _ w' (noH_nil w')) (fun w' => rBack_nil _ _ _ w')⟩
 | some d =>
  have h : DuOk w n d := h
  have b1 := h.age
  have b2 := h.turn
  have b3 := h.born
  rcases hp d rfl with ⟨e1, e2, hk⟩ | ⟨e1, e2⟩
  ·have eP : p.P = .agg #[.pointer (some ⟨d.a, 0, none⟩), .int .i64 (p.ag : Int), .int .i64 (p.n : Int)] := by unfold Pt.P; rw [e1]
   have eR : p.R = .agg #[.pointer (some ⟨d.r, 0, none⟩), .int .i64 (p.pb : Int), .int .i64 (p.tn : Int)] := by unfold Pt.R; rw [e2]
   by_cases ha : p.ag = d.H.age
   ·obtain ⟨c1, c2, c3⟩ := hk.cut ha
    have ht : p.tn = d.R.turn := hk.alike.1 ha
    have hb := hk.born
    obtain ⟨X, x1, x2, x3⟩ := pBackX p.n d.a d.l d.H d.M h.inv c1 c2 (by omega)
    rw [eP, eR, ha, ht]
    exact ⟨0, _, by omega, Both.some h hT { d.M with things := X } true (good_back h.good x1 x2) (fun w' hr _ _ => x3 w' hr) (fun w' hr _ => rBackM p.n p.pb X d.r d.R d.M w' hr h.inv h.doc (h.doc.bd h.inv) (by omega) c3 (by omega) (by omega) x1 x2)⟩
   ·have ht : p.tn ≠ d.R.turn := fun e => ha (hk.alike.2 e)
    rw [eP, eR]
    refine ⟨25, _, by omega, Both.some h hT d.M false h.good (fun w' hr _ _ => ?_) (fun w' hr _ => ?_)⟩
    ·exact (Back_no (p.ag : Int) (p.n : Int) d.a d.l d.H w' hr (by simp; omega)).mono fun e w'' ⟨h1, h2⟩ => ⟨h1, PN.same hr h.inv h2⟩
    ·exact (rBack_no (p.pb : Int) (p.tn : Int) 0 d.r d.R w' hr (by simp; omega)).mono fun e w'' ⟨h1, h2⟩ => ⟨h1, RN.same hr h.doc h2⟩
  ·have still : ∀ {w'} {x : Addr}, Fr d.f w w' → x.block ∉ d.f → (∃ cs t, w.heap[x.block]? = some (.cells cs t (0, 0))) → ∃ cs t, w'.heap[x.block]? = some (.cells cs t (0, 0)) := fun {w' x} hf hx ⟨cs, t, hc⟩ => ⟨cs, t, (hf.block _ (lt_of_heap hc) hx).trans hc⟩
   have da : d.a ∈ d.f := by simp [Du.f, foot]
   have dr : d.r ∈ d.f := by simp [Du.f, rfoot]
   refine ⟨25, _, by omega, Both.some h hT d.M false h.good (fun w' hr _ hf => ?_) (fun w' hr hf => ?_)⟩
   ·refine (Back_other p.u (p.ag : Int) (p.n : Int) d.a d.l d.H w' hr fun x hx => ?_).mono fun e w'' ⟨h1, h2⟩ => ⟨h1, PN.same hr h.inv h2⟩
    obtain ⟨q1, q2⟩ := e1 x hx
    exact ⟨fun e => q1 (by rw [e]; exact da), still hf q1 q2⟩
   ·refine (rBack_other p.v (p.pb : Int) (p.tn : Int) 0 d.r d.R w' hr fun x hx => ?_).mono fun e w'' ⟨h1, h2⟩ => ⟨h1, RN.same hr h.doc h2⟩
    obtain ⟨q1, q2⟩ := e2 x hx
    exact ⟨fun e => q1 (by rw [e]; exact dr), still hf q1 q2⟩
theorem ro_point (w : World) (n : Nat) (D : Option Du) (h : PrOk w n D) : ∃ p : Pt, (p.u = none ∧ p.v = none ∨ ∃ d, D = some d ∧ PtMine d p) ∧
  (∀ w', PrOk w' n D → Calls Tryd.prog 27 #[vO D] w' fun e w'' => e = .returned p.P ∧ Hid (Fr [] w' w'')) ∧ ∀ w', PrOk w' n D → Calls Tryd.prog 87 #[vR D] w' fun e w'' => e = .returned p.R ∧ Hid (Fr [] w' w'') := by
 cases D with
 | none => exact ⟨⟨none, 0, 0, none, 0, 0⟩, .inl ⟨rfl, rfl⟩, fun w' _ => nPoint _ w' (noH_nil w'), fun w' _ => rPoint_nil w'⟩
 | some d =>
  have h : DuOk w n d := h
  exact ⟨⟨some ⟨d.a, 0, none⟩, d.H.age, d.H.order.length, some ⟨d.r, 0, none⟩, d.R.born, d.R.turn⟩, .inr ⟨d, rfl, rfl, rfl, PtOk.new h.inv h.doc⟩, fun w' h' => Point_ok d.a d.l d.H w' (DuOk.rep h'), fun w' h' => rPoint_ok 0 d.r d.R w' (DuOk.rrep h')⟩
end Go.Proofs.YtklfnjlenbgmoaaDoor
namespace Go.Proofs.YtklfnjlenbgmoaaDoor
open Go.RowKit Go.Maps Go.WideMaps
theorem push2 {t e : TypeId} {i : TypeInfo} {z : Value} {bytes : Nat} (ht : Tryd.prog.underlying t = some (.slice e)) (hi : Tryd.prog.info? e = some i) (hz : i.zero = some z) (hsize : i.size = 1) (hby : i.bytes = bytes) (hzs : z.cells.size = 1)
  (w : World) (base : Nat) (p : Option Addr) (c : Nat) (xs : List Value) (x : Value) (h : w.ownsRow base e 1 (.slice p xs.length c) xs.length xs) (hx : x.oneCell' = true) (h63 : xs.length + 1 ≤ maxLen) (hb : ((xs.length + 1) + (xs.length + 1) / 4 + 192) * bytes ≤ 281474976710656) (hB : base ≤ w.heap.size) :
  ∃ p' c' w', (Builtin.append_ #[t, t] t #[.slice p xs.length c, .slice (some ⟨w.heap.size, 0, none⟩) 1 1]).run Tryd.prog (w.alloc (.cells #[x] e)) = .ok (.slice p' (xs.length + 1) c') w' ∧
   w'.ownsRow base e 1 (.slice p' (xs.length + 1) c') (xs.length + 1) (xs ++ [x]) ∧ ((p' = p ∧ c' = c ∧ Fr (blk p) w w') ∨ (Fr [] w w' ∧ ∀ g ∈ blk p', w.heap.size ≤ g)) := by
 have hA : (w.alloc (.cells #[x] e)).heap.size = w.heap.size + 1 := by simp
 have hown : (w.alloc (.cells #[x] e)).ownsRow base e 1 (.slice p xs.length c) xs.length xs := own_congr h (fun g hg => Below.heap_alloc _ _ _ (h.lt g hg).2)
 have hnews := cell_one_new w x e
 have h1 : ∀ u ∈ [x], u.oneCell' = true := fun u hu => by simp at hu; subst hu; exact hx
 obtain ⟨v', w', hr, h2, h3, _⟩ := run_append_own_wide (P := Tryd.prog) (w.alloc (.cells #[x] e)) base t t e i z 1 bytes ht hi hz hsize hby hzs (by decide) _ _ _ hown ⟨w.heap.size, 0, none⟩ 1 1 [x] rfl hnews h1 h63 hb (by omega)
 rcases h.2 with ⟨e1, e2⟩ | ⟨g, c0, cur, e1, q1, q2, q3, q4, q5, q6⟩
 ·injection e1 with e1 e3 e4
  subst e1
  subst e4
  have hnil : xs = [] := List.length_eq_zero_iff.1 e2
  subst hnil
  have hr2 := run_append_nil (P := Tryd.prog) (w.alloc (.cells #[x] e)) t t e i z ht hi hz ⟨w.heap.size, 0, none⟩ 1 1 [x] (by rw [hsize]; rfl) hnews (by decide) (by decide) (by rw [hby]; simp at hb; omega)
  have hr3 := hr
  rw [show (Value.slice none ([] : List Value).length 0) = .slice none 0 0 from rfl, hr2] at hr3
  injection hr3 with hv hw
  subst hv
  subst hw
  exact ⟨_, _, _, hr, h2, Or.inr ⟨(Fr.alloc [] w _).trans ((Fr.drew [] _).trans (Fr.alloc [] _ _) (by simp)) (by simp), fun g hg => by simp [blk] at hg; omega⟩⟩
 ·injection e1 with e1 _ e4
  subst e1
  subst e4
  by_cases hroom : xs.length + 1 ≤ c
  ·have hg : (w.alloc (.cells #[x] e)).heap[g]? = some (.cells cur e (0, 0)) := (Below.heap_alloc _ _ _ (lt_of_heap q2)).trans q2
   have hr2 := run_append_room (P := Tryd.prog) (w.alloc (.cells #[x] e)) t t e i ht hi g xs.length c cur hg ⟨w.heap.size, 0, none⟩ 1 1 [x] (by rw [hsize]; rfl) hnews h1 hroom (by rw [hsize, q5]; simp; omega)
   have hr3 := hr
   rw [hr2] at hr3
   injection hr3 with hv hw
   subst hv
   refine ⟨_, _, w', hr, h2, Or.inl ⟨rfl, rfl, (Fr.alloc (blk (some ⟨g, 0, none⟩)) w _).trans (Fr.grown (S := [g]) h3 (fun k hk => ?_)) (by simp [blk])⟩⟩
   simp [Value.ownBlock] at hk
   simp [hk]
  ·have holds : ∀ j u, xs[j]? = some u → (w.alloc (.cells #[x] e)).cell? ((⟨g, 0, none⟩ : Addr).add j) = some u := hown.cells (g := g) rfl
   have hr2 := run_append_grow (P := Tryd.prog) (w.alloc (.cells #[x] e)) t t e i z ht hi hz ⟨g, 0, none⟩ xs.length c xs (by rw [hsize]; simp) holds ⟨w.heap.size, 0, none⟩ 1 1 [x] (by rw [hsize]; rfl) hnews (by omega) (by unfold maxLen at h63; omega) (by rw [hby]; exact growslice_fits_wide (by omega) hb)
   have hr3 := hr
   rw [hr2] at hr3
   injection hr3 with hv hw
   subst hv
   subst hw
   exact ⟨_, _, _, hr, h2, Or.inr ⟨(Fr.alloc [] w _).trans ((Fr.drew [] _).trans (Fr.alloc [] _ _) (by simp)) (by simp), fun g hg => by simp [blk] at hg; omega⟩⟩
theorem push_int (w : World) (base : Nat) (p : Option Addr) (c : Nat) (ts : List Int) (s : Int) (h : w.ownsRow base 3 1 (.slice p ts.length c) ts.length (ts.map (Value.int .i64))) (hb : ts.length + 1 ≤ 8796093022208) (hB : base ≤ w.heap.size) :
  ∃ p' c' w', (Builtin.append_ #[22, 22] 22 #[.slice p ts.length c, .slice (some ⟨w.heap.size, 0, none⟩) 1 1]).run Tryd.prog (w.alloc (.cells #[.int .i64 s] 3)) = .ok (.slice p' (ts.length + 1) c') w' ∧
   w'.ownsRow base 3 1 (.slice p' (ts ++ [s]).length c') (ts ++ [s]).length ((ts ++ [s]).map (Value.int .i64)) ∧ ((p' = p ∧ c' = c ∧ Fr (blk p) w w') ∨ (Fr [] w w' ∧ ∀ g ∈ blk p', w.heap.size ≤ g)) := by
 obtain ⟨i3, ii, iz, is, ib⟩ := info_parts info3
 have := push2 Tryd.underlying22 ii iz is ib rfl w base p c (ts.map (Value.int .i64)) (.int .i64 s) (by rw [List.length_map]; exact h) rfl (by rw [List.length_map]; unfold maxLen; omega) (by rw [List.length_map]; omega) hB
 rw [List.length_map] at this
 obtain ⟨p', c', w', r1, r2, r3⟩ := this
 exact ⟨p', c', w', r1, by rw [List.length_append, List.map_append]; exact r2, r3⟩
theorem info36 : (Tryd.prog.info? 22).map (fun i => (i.zero, i.size, i.bytes)) = some (some (.slice none 0 0), 1, 24) := by kernel_rfl
theorem push_ints (w : World) (base : Nat) (p : Option Addr) (c : Nat) (xs : List Value) (x : Value) (h : w.ownsRow base 22 1 (.slice p xs.length c) xs.length xs) (hx : x.oneCell' = true) (hb : xs.length + 1 ≤ 8796093022208) (hB : base ≤ w.heap.size) :
  ∃ p' c' w', (Builtin.append_ #[78, 78] 78 #[.slice p xs.length c, .slice (some ⟨w.heap.size, 0, none⟩) 1 1]).run Tryd.prog (w.alloc (.cells #[x] 22)) = .ok (.slice p' (xs.length + 1) c') w' ∧
   w'.ownsRow base 22 1 (.slice p' (xs ++ [x]).length c') (xs ++ [x]).length (xs ++ [x]) ∧ ((p' = p ∧ c' = c ∧ Fr (blk p) w w') ∨ (Fr [] w w' ∧ ∀ g ∈ blk p', w.heap.size ≤ g)) := by
 obtain ⟨i36, ii, iz, is, ib⟩ := info_parts info36
 obtain ⟨p', c', w', r1, r2, r3⟩ := push2 Tryd.underlying78 ii iz is ib rfl w base p c xs x h hx (by unfold maxLen; omega) (by omega) hB
 exact ⟨p', c', w', r1, by rw [List.length_append]; exact r2, r3⟩
end Go.Proofs.YtklfnjlenbgmoaaDoor
namespace Go.Proofs.YtklfnjlenbgmoaaDoor
open Go.RowKit
structure Le where
 p : Option Addr
 n : Nat
 c : Nat
def Le.v (x : Le) : Value := .slice x.p x.n x.c
def noLe : Le := ⟨none, 0, 0⟩
theorem le_own {w : World} {B : Nat} {e : TypeId} {s n : Nat} {x : Le} {xs : List Value} (h : w.ownsRow B e s x.v n xs) {g : Nat} (hg : g ∈ blk x.p) : B ≤ g ∧ ∃ cur, w.heap[g]? = some (.cells cur e (0, 0)) := by
 obtain ⟨p, k, c⟩ := x
 cases p with
 | none => simp [blk] at hg
 | some a =>
  have e1 : g = a.block := by simpa [blk] using hg
  have e2 : (Le.v ⟨some a, k, c⟩).ownBlock = some g := by
   rcases h.2 with ⟨h2, h3⟩ | ⟨g', cap, cur, h2, h3⟩
   ·cases h2
   ·have h2' : Value.slice (some a) k c = .slice (some ⟨g', 0, none⟩) _ cap := h2
    injection h2' with h2 _ _
    injection h2 with h2
    subst h2
    show some g' = some g
    rw [e1]
  exact ⟨(h.lt g e2).1, row_block h e2⟩
theorem own_blk_mem {x : Le} {g : Nat} (h : x.v.ownBlock = some g) : g ∈ blk x.p := by
 obtain ⟨p, k, c⟩ := x
 cases p with
 | none => simp [Le.v, Value.ownBlock] at h
 | some a =>
  obtain ⟨b, off, sp⟩ := a
  simp [Le.v, Value.ownBlock] at h
  simp [blk]
  first | exact h.symm | exact h.2.symm | (rcases h with ⟨h1, h2⟩; exact h2.symm) | simp_all
theorem ow_keep {w w' : World} {B : Nat} {e : TypeId} {s n : Nat} {x : Le} {xs : List Value} {S : List Nat} (h : w.ownsRow B e s x.v n xs) (hf : Fr S w w') (hd : ∀ g ∈ blk x.p, g ∉ S) : w'.ownsRow B e s x.v n xs :=
 own_congr h fun g hg => hf.block g (h.lt g hg).2 (hd g (own_blk_mem hg))
theorem ty_ne {w : World} {g h : Nat} {c1 c2 : Array Value} {t1 t2 : TypeId} (h1 : w.heap[g]? = some (.cells c1 t1 (0, 0))) (h2 : w.heap[h]? = some (.cells c2 t2 (0, 0))) (hn : t1 ≠ t2) : g ≠ h := fun e => by
 subst e
 rw [h1] at h2
 injection h2 with h2
 injection h2 with _ h2 _
 exact hn h2
section
variable {w w' : World} {B b : Nat} {Is Ms : List Le} {Ks : List Int} {vI vM vK : Le}
end
def Mv (x y : Le) (w w' : World) : Prop := (y.p = x.p ∧ Fr (blk x.p) w w') ∨ (Fr [] w w' ∧ ∀ g ∈ blk y.p, w.heap.size ≤ g)
theorem Mv.fr {x y : Le} {w w' : World} (h : Mv x y w w') : Fr (blk x.p) w w' := by
 rcases h with ⟨-, h⟩ | ⟨h, -⟩
 ·exact h
 ·exact h.mono (by simp)
theorem Mv.mem {x y : Le} {w w' : World} (h : Mv x y w w') {g : Nat} (hg : g ∈ blk y.p) : g ∈ blk x.p ∨ w.heap.size ≤ g := by
 rcases h with ⟨e, -⟩ | ⟨-, h⟩
 ·left; rw [← e]; exact hg
 ·right; exact h g hg
section
variable {w : World} {B b : Nat} {Is Ms : List Le} {Ks : List Int} {vI vM vK : Le}
end
structure Kd where
 e : TypeId
 t : TypeId
 m : TypeId
 s : Nat
 z : Int → List Value
def kInts : Kd := ⟨3, 22, 3, 1, fun m => [.int .i64 m]⟩
def kWords : Kd := ⟨33, 80, 33, 1, fun m => [.int .i64 m]⟩
def kObjs : Kd := ⟨106, 36, 3, 4, fun m => [.int .i64 m, .int .i64 0, .int .i64 0, .slice none 0 0]⟩
def zC (k : Kd) (n : Nat) (m : Int) : List Value := (List.replicate n (k.z m)).flatten
structure OwK (k : Kd) (w : World) (x : Le) (m : Int) : Prop where
 row : w.ownsRow 0 k.e k.s x.v x.n (zC k x.n m)
 short : x.n ≤ 1100000
structure FlK (k : Kd) (w : World) (x : Le) (m : Int) : Prop where
 at_ : (x.p = none ∧ x.n = 0 ∧ x.c = 0) ∨ ∃ g, x.p = some ⟨g, 0, none⟩ ∧ g < w.heap.size ∧ ∀ i, i < x.n * k.s → w.cell? ⟨g, i, none⟩ = (zC k x.n m)[i]?
 short : x.n ≤ 1200000
structure Sc where
 olds : List (Le × Le × Int)
 news : List (Le × Int)
 vI : Le
 vM : Le
 vK : Le
def Sc.Is (S : Sc) : List Le := S.olds.map (·.1) ++ S.news.map (·.1)
def Sc.Ms (S : Sc) : List Le := S.olds.map (·.2.1)
def Sc.Ks (S : Sc) : List Int := S.olds.map (·.2.2) ++ S.news.map (·.2)
def Sc.rows (S : Sc) : List Nat := blk S.vI.p ++ (blk S.vM.p ++ blk S.vK.p)
def Sc.fresh (S : Sc) : List Nat := S.news.flatMap fun o => blk o.1.p
def Sc.done (S : Sc) : List Nat := S.olds.flatMap fun o => blk o.1.p ++ blk o.2.1.p
def Sc.hot (S : Sc) : List Nat := S.rows ++ S.fresh
def Sc.all (S : Sc) : List Nat := S.hot ++ S.done
structure Sc.Ok (k : Kd) (w : World) (S : Sc) : Prop where
 nI : S.vI.n = S.olds.length + S.news.length
 nM : S.vM.n = S.olds.length
 nK : S.vK.n = S.olds.length + S.news.length
 rI : w.ownsRow 0 k.t 1 S.vI.v S.vI.n (S.Is.map Le.v)
 rM : w.ownsRow 0 k.t 1 S.vM.v S.vM.n (S.Ms.map Le.v)
 rK : w.ownsRow 0 k.m 1 S.vK.v S.vK.n (S.Ks.map (Value.int .i64))
 old : ∀ o ∈ S.olds, FlK k w o.1 o.2.2 ∧ FlK k w o.2.1 o.2.2
 new : ∀ o ∈ S.news, OwK k w o.1 o.2
 dIM : ∀ g ∈ blk S.vI.p, g ∉ blk S.vM.p
 dIK : ∀ g ∈ blk S.vI.p, g ∉ blk S.vK.p
 dMK : ∀ g ∈ blk S.vM.p, g ∉ blk S.vK.p
 dIN : ∀ g ∈ blk S.vI.p, g ∉ S.fresh
 dMN : ∀ g ∈ blk S.vM.p, g ∉ S.fresh
 dKN : ∀ g ∈ blk S.vK.p, g ∉ S.fresh
 dN : S.news.Pairwise fun a b => ∀ g ∈ blk a.1.p, g ∉ blk b.1.p
 apart : ∀ g ∈ S.done, g ∉ S.hot
theorem OwK.lt {k : Kd} {w : World} {x : Le} {m : Int} (h : OwK k w x m) {g : Nat} (hg : g ∈ blk x.p) : g < w.heap.size := by
 obtain ⟨-, cur, hc⟩ := le_own h.row hg
 exact lt_of_heap hc
theorem FlK.lt {k : Kd} {w : World} {x : Le} {m : Int} (h : FlK k w x m) {g : Nat} (hg : g ∈ blk x.p) : g < w.heap.size := by
 rcases h.at_ with ⟨h1, -, -⟩ | ⟨g', h1, h2, -⟩
 ·rw [h1] at hg; simp [blk] at hg
 ·rw [h1] at hg
  have : g = g' := by simpa [blk] using hg
  omega
theorem OwK.keep {k : Kd} {w w' : World} {x : Le} {m : Int} {X : List Nat} (h : OwK k w x m) (hf : Fr X w w') (hd : ∀ g ∈ blk x.p, g ∉ X) : OwK k w' x m := ⟨ow_keep h.row hf hd, h.short⟩
theorem FlK.keep {k : Kd} {w w' : World} {x : Le} {m : Int} {X : List Nat} (h : FlK k w x m) (hf : Fr X w w') (hd : ∀ g ∈ blk x.p, g ∉ X) : FlK k w' x m := by
 refine ⟨?_, h.short⟩
 rcases h.at_ with h1 | ⟨g, h1, h2, h3⟩
 ·exact .inl h1
 ·have hg : g ∈ blk x.p := by rw [h1]; simp [blk]
  refine .inr ⟨g, h1, by have := hf.size; omega, fun i hi => ?_⟩
  exact (hf.cell (p := ⟨g, i, none⟩) h2 (hd g hg)).trans (h3 i hi)
theorem zC_len (k : Kd) (hz : ∀ m, (k.z m).length = k.s) (n : Nat) (m : Int) : (zC k n m).length = n * k.s := by
 unfold zC
 induction n with
 | zero => simp
 | succ n ih => rw [List.replicate_succ, List.flatten_cons, List.length_append, ih, hz, Nat.succ_mul]; omega
theorem zC_snoc (k : Kd) (n : Nat) (m : Int) : zC k n m ++ k.z m = zC k (n + 1) m := by
 unfold zC
 rw [List.replicate_succ', List.flatten_append]
 simp
theorem OwK.fl {k : Kd} {w : World} {x : Le} {m : Int} (h : OwK k w x m) : FlK k w x m := by
 refine ⟨?_, by have := h.short; omega⟩
 obtain ⟨p, n, c⟩ := x
 have hr : w.ownsRow 0 k.e k.s (.slice p n c) n (zC k n m) := h.row
 rcases hr.2 with ⟨h2, h3⟩ | ⟨g, cap, cur, h2, h3⟩
 ·injection h2 with e1 e2 e3
  exact .inl ⟨e1, e2, e3⟩
 ·injection h2 with e1 e2 e3
  subst e1
  refine .inr ⟨g, rfl, lt_of_heap h3.2.1, fun i hi => ?_⟩
  exact hr.cellAt i (by have := hr.1; omega)
theorem blkFresh {S : Sc} {o : Le × Int} (ho : o ∈ S.news) {g : Nat} (hg : g ∈ blk o.1.p) : g ∈ S.hot := List.mem_append.2 (.inr (List.mem_flatMap.2 ⟨o, ho, hg⟩))
theorem blkDone1 {S : Sc} {o : Le × Le × Int} (ho : o ∈ S.olds) {g : Nat} (hg : g ∈ blk o.1.p) : g ∈ S.done := List.mem_flatMap.2 ⟨o, ho, List.mem_append.2 (.inl hg)⟩
theorem blkDone2 {S : Sc} {o : Le × Le × Int} (ho : o ∈ S.olds) {g : Nat} (hg : g ∈ blk o.2.1.p) : g ∈ S.done := List.mem_flatMap.2 ⟨o, ho, List.mem_append.2 (.inr hg)⟩
theorem blkI {S : Sc} {g : Nat} (hg : g ∈ blk S.vI.p) : g ∈ S.hot := List.mem_append.2 (.inl (List.mem_append.2 (.inl hg)))
theorem blkM {S : Sc} {g : Nat} (hg : g ∈ blk S.vM.p) : g ∈ S.hot := List.mem_append.2 (.inl (List.mem_append.2 (.inr (List.mem_append.2 (.inl hg)))))
theorem blkK {S : Sc} {g : Nat} (hg : g ∈ blk S.vK.p) : g ∈ S.hot := List.mem_append.2 (.inl (List.mem_append.2 (.inr (List.mem_append.2 (.inr hg)))))
theorem hotAll {S : Sc} {g : Nat} (hg : g ∈ S.hot) : g ∈ S.all := List.mem_append.2 (.inl hg)
theorem doneAll {S : Sc} {g : Nat} (hg : g ∈ S.done) : g ∈ S.all := List.mem_append.2 (.inr hg)
theorem Sc.mem_hot {S : Sc} {g : Nat} (h : g ∈ S.hot) : g ∈ blk S.vI.p ∨ g ∈ blk S.vM.p ∨ g ∈ blk S.vK.p ∨ ∃ o ∈ S.news, g ∈ blk o.1.p := by
 rcases List.mem_append.1 h with h | h
 ·rcases List.mem_append.1 h with h | h
  ·exact .inl h
  ·rcases List.mem_append.1 h with h | h
   ·exact .inr (.inl h)
   ·exact .inr (.inr (.inl h))
 ·exact .inr (.inr (.inr (List.mem_flatMap.1 h)))
theorem Sc.mem_done {S : Sc} {g : Nat} (h : g ∈ S.done) : ∃ o ∈ S.olds, g ∈ blk o.1.p ∨ g ∈ blk o.2.1.p := by
 obtain ⟨o, ho, hg⟩ := List.mem_flatMap.1 h
 exact ⟨o, ho, List.mem_append.1 hg⟩
section
variable {k : Kd} {w w' : World} {S : Sc}
theorem Sc.Ok.lt (h : S.Ok k w) {g : Nat} (hg : g ∈ S.all) : g < w.heap.size := by
 have row : ∀ {e : TypeId} {v : Le} {n : Nat} {xs : List Value}, w.ownsRow 0 e 1 v.v n xs → g ∈ blk v.p → g < w.heap.size := fun hr hm => by
  obtain ⟨-, cur, hc⟩ := le_own hr hm
  exact lt_of_heap hc
 rcases List.mem_append.1 hg with hg | hg
 ·rcases Sc.mem_hot hg with h1 | h1 | h1 | ⟨o, ho, h1⟩
  ·exact row h.rI h1
  ·exact row h.rM h1
  ·exact row h.rK h1
  ·exact (h.new o ho).lt h1
 ·obtain ⟨o, ho, h1 | h1⟩ := Sc.mem_done hg
  ·exact (h.old o ho).1.lt h1
  ·exact (h.old o ho).2.lt h1
theorem Sc.Ok.keep {X : List Nat} (h : S.Ok k w) (hf : Fr X w w') (hd : ∀ g ∈ S.all, g ∉ X) : S.Ok k w' :=
 ⟨h.nI, h.nM, h.nK, ow_keep h.rI hf fun g hg => hd g (hotAll (blkI hg)), ow_keep h.rM hf fun g hg => hd g (hotAll (blkM hg)), ow_keep h.rK hf fun g hg => hd g (hotAll (blkK hg)),
  fun o ho => ⟨(h.old o ho).1.keep hf fun g hg => hd g (doneAll (blkDone1 ho hg)), (h.old o ho).2.keep hf fun g hg => hd g (doneAll (blkDone2 ho hg))⟩,
  fun o ho => (h.new o ho).keep hf fun g hg => hd g (hotAll (blkFresh ho hg)), h.dIM, h.dIK, h.dMK, h.dIN, h.dMN, h.dKN, h.dN, h.apart⟩
end
def noSc : Sc := ⟨[], [], noLe, noLe, noLe⟩
theorem noSc_ok (k : Kd) (w : World) : noSc.Ok k w :=
 ⟨rfl, rfl, rfl, World.ownsRow_nil .., World.ownsRow_nil .., World.ownsRow_nil .., fun o ho => (by cases ho), fun o ho => (by cases ho), fun g hg => (by cases hg), fun g hg => (by cases hg), fun g hg => (by cases hg), fun g hg => (by cases hg), fun g hg => (by cases hg), fun g hg => (by cases hg), List.Pairwise.nil, fun g hg => (by cases hg)⟩
theorem noSc_all : noSc.all = [] := rfl
def Sc.add (S : Sc) (x : Le) (m : Int) (vI' vK' : Le) : Sc := ⟨S.olds, S.news ++ [(x, m)], vI', S.vM, vK'⟩
theorem Sc.add_Is (S : Sc) (x : Le) (m : Int) (vI' vK' : Le) : (S.add x m vI' vK').Is = S.Is ++ [x] := by unfold Sc.Is Sc.add; simp
theorem Sc.add_Ks (S : Sc) (x : Le) (m : Int) (vI' vK' : Le) : (S.add x m vI' vK').Ks = S.Ks ++ [m] := by unfold Sc.Ks Sc.add; simp
theorem Sc.add_fresh {S : Sc} {x : Le} {m : Int} {vI' vK' : Le} {g : Nat} (h : g ∈ (S.add x m vI' vK').fresh) : g ∈ S.fresh ∨ g ∈ blk x.p := by
 obtain ⟨o, ho, hg⟩ := List.mem_flatMap.1 h
 rcases List.mem_append.1 ho with ho | ho
 ·exact .inl (List.mem_flatMap.2 ⟨o, ho, hg⟩)
 ·have e : o = (x, m) := by simpa using ho
  rw [e] at hg
  exact .inr hg
section
variable {k : Kd} {w : World} {S : Sc}
theorem Sc.Ok.add (h : S.Ok k w) (x : Le) (m : Int) (hx : OwK k w x m) (ax : ∀ g ∈ blk x.p, g ∉ S.all) (b : Nat) (hb : b ∉ S.all) (hbx : b ∉ blk x.p) (hbl : b < w.heap.size)
  {w1 w2 w3 w4 : World} {vI' vK' : Le}
  (o1 : w1.ownsRow 0 k.t 1 vI'.v vI'.n ((S.Is ++ [x]).map Le.v)) (n1 : vI'.n = S.olds.length + S.news.length + 1) (m1 : Mv S.vI vI' w w1) (f2 : Fr [b] w1 w2)
  (o3 : w3.ownsRow 0 k.m 1 vK'.v vK'.n ((S.Ks ++ [m]).map (Value.int .i64))) (n3 : vK'.n = S.olds.length + S.news.length + 1) (m3 : Mv S.vK vK' w2 w3) (f4 : Fr [b] w3 w4) :
  (S.add x m vI' vK').Ok k w4 ∧ Fr (b :: S.hot) w w4 ∧ ∀ g ∈ (S.add x m vI' vK').all, g ∈ S.all ∨ g ∈ blk x.p ∨ w.heap.size ≤ g := by
 have f1 := m1.fr
 have f3 := m3.fr
 have s1 := f1.size
 have s2 := f2.size
 have s3 := f3.size
 have inI : ∀ g ∈ blk S.vI.p, g ∈ S.all := fun g hg => hotAll (blkI hg)
 have inM : ∀ g ∈ blk S.vM.p, g ∈ S.all := fun g hg => hotAll (blkM hg)
 have inK : ∀ g ∈ blk S.vK.p, g ∈ S.all := fun g hg => hotAll (blkK hg)
 have inN : ∀ g ∈ S.fresh, g ∈ S.all := fun g hg => hotAll (List.mem_append.2 (.inr hg))
 have nb : ∀ g ∈ S.all, g ∉ [b] := fun g hg hm => by
  have e : g = b := by simpa using hm
  exact hb (e ▸ hg)
 have nbx : ∀ g ∈ blk x.p, g ∉ [b] := fun g hg hm => by
  have e : g = b := by simpa using hm
  exact hbx (e ▸ hg)
 have F : Fr (b :: S.hot) w w4 := by
  refine Fr.trans (Fr.trans (Fr.trans (f1.mono fun g hg => .inl ?_) f2 fun g hg => .inl ?_) f3 fun g hg => .inl ?_) f4 fun g hg => .inl ?_
  ·exact List.mem_cons.2 (.inr (blkI hg))
  ·exact List.mem_cons.2 (.inl (by simpa using hg))
  ·exact List.mem_cons.2 (.inr (blkK hg))
  ·exact List.mem_cons.2 (.inl (by simpa using hg))
 have newI : ∀ g ∈ blk vI'.p, g ∈ blk S.vI.p ∨ w.heap.size ≤ g := fun g hg => m1.mem hg
 have newK : ∀ g ∈ blk vK'.p, g ∈ blk S.vK.p ∨ w.heap.size ≤ g := fun g hg => by
  rcases m3.mem hg with h1 | h1
  ·exact .inl h1
  ·exact .inr (by omega)
 have xlt : ∀ g ∈ blk x.p, g < w.heap.size := fun g hg => hx.lt hg
 have G : Fr (b :: (blk S.vI.p ++ blk S.vK.p)) w w4 := by
  refine Fr.trans (Fr.trans (Fr.trans (f1.mono fun g hg => .inl ?_) f2 fun g hg => .inl ?_) f3 fun g hg => .inl ?_) f4 fun g hg => .inl ?_
  ·exact List.mem_cons.2 (.inr (List.mem_append.2 (.inl hg)))
  ·exact List.mem_cons.2 (.inl (by simpa using hg))
  ·exact List.mem_cons.2 (.inr (List.mem_append.2 (.inr hg)))
  ·exact List.mem_cons.2 (.inl (by simpa using hg))
 have out : ∀ g, g ≠ b → g ∉ blk S.vI.p → g ∉ blk S.vK.p → g ∉ b :: (blk S.vI.p ++ blk S.vK.p) := fun g h1 h2 h3 hm => by
  rcases List.mem_cons.1 hm with hm | hm
  ·exact h1 hm
  ·rcases List.mem_append.1 hm with hm | hm
   ·exact h2 hm
   ·exact h3 hm
 have neb : ∀ g ∈ S.all, g ≠ b := fun g hg e => hb (e ▸ hg)
 have outD : ∀ g ∈ S.done, g ∉ b :: (blk S.vI.p ++ blk S.vK.p) := fun g hg => out g (neb g (doneAll hg)) (fun hm => h.apart g hg (blkI hm)) (fun hm => h.apart g hg (blkK hm))
 have outN : ∀ g ∈ S.fresh, g ∉ b :: (blk S.vI.p ++ blk S.vK.p) := fun g hg => out g (neb g (inN g hg)) (fun hm => h.dIN g hm hg) (fun hm => h.dKN g hm hg)
 have outX : ∀ g ∈ blk x.p, g ∉ b :: (blk S.vI.p ++ blk S.vK.p) := fun g hg => out g (fun e => hbx (e ▸ hg)) (fun hm => ax g hg (inI g hm)) (fun hm => ax g hg (inK g hm))
 have frl : ∀ o ∈ S.news, ∀ g ∈ blk o.1.p, g ∈ S.fresh := fun o ho g hg => List.mem_flatMap.2 ⟨o, ho, hg⟩
 refine ⟨⟨?_, h.nM, ?_, ?_, ?_, ?_, ?_, ?_, ?_, ?_, ?_, ?_, ?_, ?_, ?_, ?_⟩, F, ?_⟩
 ·show vI'.n = _; rw [n1]; simp [Sc.add]; omega
 ·show vK'.n = _; rw [n3]; simp [Sc.add]; omega
 ·rw [Sc.add_Is]
  show w4.ownsRow 0 k.t 1 vI'.v vI'.n _
  have q2 := ow_keep (x := vI') o1 f2 fun g hg hm => by
   have e : g = b := by simpa using hm
   rcases newI g hg with h1 | h1
   ·exact neb g (inI g h1) e
   ·omega
  have q3 := ow_keep (x := vI') q2 f3 fun g hg hm => by
   rcases newI g hg with h1 | h1
   ·exact h.dIK g h1 hm
   ·have := h.lt (inK g hm); omega
  exact ow_keep (x := vI') q3 f4 fun g hg hm => by
   have e : g = b := by simpa using hm
   rcases newI g hg with h1 | h1
   ·exact neb g (inI g h1) e
   ·omega
 ·exact ow_keep h.rM G fun g hg => out g (neb g (inM g hg)) (fun hm => h.dIM g hm hg) (h.dMK g hg)
 ·rw [Sc.add_Ks]
  show w4.ownsRow 0 k.m 1 vK'.v vK'.n _
  exact ow_keep (x := vK') o3 f4 fun g hg hm => by
   have e : g = b := by simpa using hm
   rcases newK g hg with h1 | h1
   ·exact neb g (inK g h1) e
   ·omega
 ·exact fun o ho => ⟨(h.old o ho).1.keep G fun g hg => outD g (blkDone1 ho hg), (h.old o ho).2.keep G fun g hg => outD g (blkDone2 ho hg)⟩
 ·intro o ho
  rcases List.mem_append.1 ho with ho | ho
  ·exact (h.new o ho).keep G fun g hg => outN g (frl o ho g hg)
  ·have e : o = (x, m) := by simpa using ho
   rw [e]
   exact hx.keep G outX
 ·intro g hg hm
  rcases newI g hg with h1 | h1
  ·exact h.dIM g h1 hm
  ·have := h.lt (inM g hm); omega
 ·intro g hg hm
  rcases newI g hg with h1 | h1
  ·rcases newK g hm with h2 | h2
   ·exact h.dIK g h1 h2
   ·have := h.lt (inI g h1); omega
  ·rcases m3.mem hm with h2 | h2
   ·have := h.lt (inK g h2); omega
   ·obtain ⟨-, cur, hc⟩ := le_own (x := vI') o1 hg
    have := lt_of_heap hc
    omega
 ·intro g hg hm
  rcases newK g hm with h2 | h2
  ·exact h.dMK g hg h2
  ·have := h.lt (inM g hg); omega
 ·intro g hg hm
  rcases Sc.add_fresh hm with h2 | h2
  ·rcases newI g hg with h1 | h1
   ·exact h.dIN g h1 h2
   ·have := h.lt (inN g h2); omega
  ·rcases newI g hg with h1 | h1
   ·exact ax g h2 (inI g h1)
   ·have := xlt g h2; omega
 ·intro g hg hm
  rcases Sc.add_fresh hm with h2 | h2
  ·exact h.dMN g hg h2
  ·exact ax g h2 (inM g hg)
 ·intro g hg hm
  rcases Sc.add_fresh hm with h2 | h2
  ·rcases newK g hg with h1 | h1
   ·exact h.dKN g h1 h2
   ·have := h.lt (inN g h2); omega
  ·rcases newK g hg with h1 | h1
   ·exact ax g h2 (inK g h1)
   ·have := xlt g h2; omega
 ·show (S.news ++ [(x, m)]).Pairwise _
  rw [List.pairwise_append]
  refine ⟨h.dN, List.pairwise_singleton .., fun o ho y hy g hg hm => ?_⟩
  have e : y = (x, m) := by simpa using hy
  rw [e] at hm
  exact ax g hm (inN g (frl o ho g hg))
 ·intro g hg hm
  have hg : g ∈ S.done := hg
  have gl := h.lt (doneAll hg)
  rcases Sc.mem_hot hm with h1 | h1 | h1 | ⟨o, ho, h1⟩
  ·rcases newI g h1 with h2 | h2
   ·exact h.apart g hg (blkI h2)
   ·omega
  ·exact h.apart g hg (blkM h1)
  ·rcases newK g h1 with h2 | h2
   ·exact h.apart g hg (blkK h2)
   ·omega
  ·rcases List.mem_append.1 ho with ho | ho
   ·exact h.apart g hg (blkFresh ho h1)
   ·have e : o = (x, m) := by simpa using ho
    rw [e] at h1
    exact ax g h1 (doneAll hg)
 ·intro g hg
  rcases List.mem_append.1 hg with hg | hg
  ·rcases Sc.mem_hot hg with h1 | h1 | h1 | ⟨o, ho, h1⟩
   ·rcases newI g h1 with h2 | h2
    ·exact .inl (inI g h2)
    ·exact .inr (.inr h2)
   ·exact .inl (inM g h1)
   ·rcases newK g h1 with h2 | h2
    ·exact .inl (inK g h2)
    ·exact .inr (.inr h2)
   ·rcases List.mem_append.1 ho with ho | ho
    ·exact .inl (hotAll (blkFresh ho h1))
    ·have e : o = (x, m) := by simpa using ho
     rw [e] at h1
     exact .inr (.inl h1)
  ·exact .inl (doneAll (S := S) hg)
end
end Go.Proofs.YtklfnjlenbgmoaaDoor
