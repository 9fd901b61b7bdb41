import Derived.Test.YtklfnjlenbgmoaaDoorPG33KSecA
import Derived.Test.YtklfnjlenbgmoaaDoorPG14HObj
set_option linter.unusedSimpArgs false
set_option linter.unusedVariables false
namespace Go.Proofs.YtklfnjlenbgmoaaDoor
open Go.RowKit
def Sc.grown (S : Sc) (x : Le) (m : Int) (rest : List (Le × Int)) (y vM' : Le) : Sc := ⟨S.olds ++ [(x, y, m)], rest, S.vI, vM', S.vK⟩
section
variable {k : Kd} {w : World} {S : Sc}
theorem Sc.Ok.grown (h : S.Ok k w) {x : Le} {m : Int} {rest : List (Le × Int)} (hn : S.news = (x, m) :: rest) (b : Nat) (hb : b ∉ S.all) (hbl : b < w.heap.size)
  {w1 w2 w3 : World} {y vM' : Le} (f1 : Fr (blk x.p) w w1) (oy : FlK k w1 y m) (fx : FlK k w1 x m) (ny : ∀ g ∈ blk y.p, g ∈ blk x.p ∨ w.heap.size ≤ g)
  (o2 : w2.ownsRow 0 k.t 1 vM'.v vM'.n ((S.Ms ++ [y]).map Le.v)) (n2 : vM'.n = S.olds.length + 1) (m2 : Mv S.vM vM' w1 w2) (f3 : Fr [b] w2 w3) :
  (S.grown x m rest y vM').Ok k w3 ∧ Fr (b :: S.hot) w w3 ∧ ∀ g ∈ (S.grown x m rest y vM').all, g ∈ S.all ∨ w.heap.size ≤ g := by
 have f2 := m2.fr
 have s1 := f1.size
 have s2 := f2.size
 have hx : (x, m) ∈ S.news := by rw [hn]; exact List.mem_cons_self
 have hr : ∀ o ∈ rest, o ∈ S.news := fun o ho => by rw [hn]; exact List.mem_cons_of_mem _ ho
 have xN : ∀ g ∈ blk x.p, g ∈ S.fresh := fun g hg => List.mem_flatMap.2 ⟨(x, m), hx, hg⟩
 have inI : ∀ g ∈ blk S.vI.p, g ∈ S.all := fun g hg => hotAll (blkI hg)
 have inM : ∀ g ∈ blk S.vM.p, g ∈ S.all := fun g hg => hotAll (blkM hg)
 have inK : ∀ g ∈ blk S.vK.p, g ∈ S.all := fun g hg => hotAll (blkK hg)
 have inN : ∀ g ∈ S.fresh, g ∈ S.all := fun g hg => hotAll (List.mem_append.2 (.inr hg))
 have neb : ∀ g ∈ S.all, g ≠ b := fun g hg e => hb (e ▸ hg)
 have dN := h.dN
 rw [hn, List.pairwise_cons] at dN
 have F : Fr (b :: S.hot) w w3 := by
  refine Fr.trans (Fr.trans (f1.mono fun g hg => .inl ?_) f2 fun g hg => .inl ?_) f3 fun g hg => .inl ?_
  ·exact List.mem_cons.2 (.inr (List.mem_append.2 (.inr (xN g hg))))
  ·exact List.mem_cons.2 (.inr (blkM hg))
  ·exact List.mem_cons.2 (.inl (by simpa using hg))
 have G : Fr (b :: (blk x.p ++ blk S.vM.p)) w w3 := by
  refine Fr.trans (Fr.trans (f1.mono fun g hg => .inl ?_) f2 fun g hg => .inl ?_) f3 fun g hg => .inl ?_
  ·exact List.mem_cons.2 (.inr (List.mem_append.2 (.inl hg)))
  ·exact List.mem_cons.2 (.inr (List.mem_append.2 (.inr hg)))
  ·exact List.mem_cons.2 (.inl (by simpa using hg))
 have G1 : Fr (b :: blk S.vM.p) w1 w3 := by
  refine Fr.trans (f2.mono fun g hg => .inl ?_) f3 fun g hg => .inl ?_
  ·exact List.mem_cons.2 (.inr hg)
  ·exact List.mem_cons.2 (.inl (by simpa using hg))
 have out : ∀ g, g ≠ b → g ∉ blk x.p → g ∉ blk S.vM.p → g ∉ b :: (blk x.p ++ blk S.vM.p) := fun g h1 h2 h3 hm => by
  rcases List.mem_cons.1 hm with hm | hm
  ·exact h1 hm
  ·rcases List.mem_append.1 hm with hm | hm
   ·exact h2 hm
   ·exact h3 hm
 have outX : ∀ g ∈ blk x.p, g ∉ b :: blk S.vM.p := fun g hg hm => by
  rcases List.mem_cons.1 hm with hm | hm
  ·exact neb g (inN g (xN g hg)) hm
  ·exact h.dMN g hm (xN g hg)
 have outY : ∀ g ∈ blk y.p, g ∉ b :: blk S.vM.p := fun g hg hm => by
  rcases ny g hg with h1 | h1
  ·exact outX g h1 hm
  ·rcases List.mem_cons.1 hm with hm | hm
   ·omega
   ·have := h.lt (inM g hm); omega
 have newM : ∀ g ∈ blk vM'.p, g ∈ blk S.vM.p ∨ w1.heap.size ≤ g := fun g hg => m2.mem hg
 have frR : ∀ g, g ∈ (S.grown x m rest y vM').fresh → g ∈ S.fresh ∧ g ∉ blk x.p := fun g hg => by
  obtain ⟨o, ho, hg⟩ := List.mem_flatMap.1 hg
  exact ⟨List.mem_flatMap.2 ⟨o, hr o ho, hg⟩, fun hm => dN.1 o ho g hm hg⟩
 have doR : ∀ g, g ∈ (S.grown x m rest y vM').done → g ∈ S.done ∨ g ∈ blk x.p ∨ g ∈ blk y.p := fun g hg => by
  obtain ⟨o, ho, hg⟩ := List.mem_flatMap.1 hg
  rcases List.mem_append.1 ho with ho | ho
  ·exact .inl (List.mem_flatMap.2 ⟨o, ho, hg⟩)
  ·have e : o = (x, y, m) := by simpa using ho
   rw [e] at hg
   exact .inr (List.mem_append.1 hg)
 have eI : (S.grown x m rest y vM').Is = S.Is := by unfold Sc.Is; rw [hn]; simp [Sc.grown]
 have eK : (S.grown x m rest y vM').Ks = S.Ks := by unfold Sc.Ks; rw [hn]; simp [Sc.grown]
 have eM : (S.grown x m rest y vM').Ms = S.Ms ++ [y] := by unfold Sc.Ms; simp [Sc.grown]
 have hl : (S.grown x m rest y vM').olds.length + (S.grown x m rest y vM').news.length = S.olds.length + S.news.length := by rw [hn]; simp [Sc.grown]; omega
 refine ⟨⟨?_, ?_, ?_, ?_, ?_, ?_, ?_, ?_, ?_, ?_, ?_, ?_, ?_, ?_, ?_, ?_⟩, F, ?_⟩
 ·rw [hl]; exact h.nI
 ·show vM'.n = _; rw [n2]; simp [Sc.grown]
 ·rw [hl]; exact h.nK
 ·rw [eI]
  exact ow_keep h.rI G fun g hg => out g (neb g (inI g hg)) (fun hm => h.dIN g hg (xN g hm)) (h.dIM g hg)
 ·rw [eM]
  show w3.ownsRow 0 k.t 1 vM'.v vM'.n _
  exact ow_keep (x := vM') o2 f3 fun g hg hm => by
   have e : g = b := by simpa using hm
   rcases newM g hg with h1 | h1
   ·exact neb g (inM g h1) e
   ·omega
 ·rw [eK]
  exact ow_keep h.rK G fun g hg => out g (neb g (inK g hg)) (fun hm => h.dKN g hg (xN g hm)) (fun hm => h.dMK g hm hg)
 ·intro o ho
  rcases List.mem_append.1 ho with ho | ho
  ·have q : ∀ g ∈ S.done, g ∉ b :: (blk x.p ++ blk S.vM.p) := fun g hg => out g (neb g (doneAll hg)) (fun hm => h.apart g hg (List.mem_append.2 (.inr (xN g hm)))) (fun hm => h.apart g hg (blkM hm))
   exact ⟨(h.old o ho).1.keep G fun g hg => q g (blkDone1 ho hg), (h.old o ho).2.keep G fun g hg => q g (blkDone2 ho hg)⟩
  ·have e : o = (x, y, m) := by simpa using ho
   rw [e]
   exact ⟨fx.keep G1 outX, oy.keep G1 outY⟩
 ·intro o ho
  have ho : o ∈ rest := ho
  exact (h.new o (hr o ho)).keep G fun g hg => by
   have q : g ∈ S.fresh := List.mem_flatMap.2 ⟨o, hr o ho, hg⟩
   exact out g (neb g (inN g q)) (fun hm => dN.1 o ho g hm hg) (fun hm => h.dMN g hm q)
 ·intro g hg hm
  rcases newM g hm with h1 | h1
  ·exact h.dIM g hg h1
  ·have := h.lt (inI g hg); omega
 ·exact h.dIK
 ·intro g hg hm
  rcases newM g hg with h1 | h1
  ·exact h.dMK g h1 hm
  ·have := h.lt (inK g hm); omega
 ·exact fun g hg hm => h.dIN g hg (frR g hm).1
 ·intro g hg hm
  rcases newM g hg with h1 | h1
  ·exact h.dMN g h1 (frR g hm).1
  ·have := h.lt (inN g (frR g hm).1); omega
 ·exact fun g hg hm => h.dKN g hg (frR g hm).1
 ·exact dN.2
 ·intro g hg hm
  have hot : g ∈ blk S.vI.p ∨ g ∈ blk vM'.p ∨ g ∈ blk S.vK.p ∨ g ∈ (S.grown x m rest y vM').fresh := by
   rcases Sc.mem_hot hm with h1 | h1 | h1 | ⟨o, ho, h1⟩
   ·exact .inl h1
   ·exact .inr (.inl h1)
   ·exact .inr (.inr (.inl h1))
   ·exact .inr (.inr (.inr (List.mem_flatMap.2 ⟨o, ho, h1⟩)))
  have xx : g ∈ blk x.p → False := fun q => by
   rcases hot with h1 | h1 | h1 | h1
   ·exact h.dIN g h1 (xN g q)
   ·rcases newM g h1 with h2 | h2
    ·exact h.dMN g h2 (xN g q)
    ·have := h.lt (inN g (xN g q)); omega
   ·exact h.dKN g h1 (xN g q)
   ·exact (frR g h1).2 q
  rcases doR g hg with q | q | q
  ·have gl := h.lt (doneAll q)
   rcases hot with h1 | h1 | h1 | h1
   ·exact h.apart g q (blkI h1)
   ·rcases newM g h1 with h2 | h2
    ·exact h.apart g q (blkM h2)
    ·omega
   ·exact h.apart g q (blkK h1)
   ·exact h.apart g q (List.mem_append.2 (.inr (frR g h1).1))
  ·exact xx q
  ·rcases ny g q with q1 | q1
   ·exact xx q1
   ·have yl := oy.lt q
    rcases hot with h1 | h1 | h1 | h1
    ·have := h.lt (inI g h1); omega
    ·rcases newM g h1 with h2 | h2
     ·have := h.lt (inM g h2); omega
     ·omega
    ·have := h.lt (inK g h1); omega
    ·have := h.lt (inN g (frR g h1).1); omega
 ·intro g hg
  rcases List.mem_append.1 hg with hg | hg
  ·rcases Sc.mem_hot hg with h1 | h1 | h1 | ⟨o, ho, h1⟩
   ·exact .inl (inI g h1)
   ·rcases newM g h1 with h2 | h2
    ·exact .inl (inM g h2)
    ·exact .inr (by omega)
   ·exact .inl (inK g h1)
   ·exact .inl (hotAll (blkFresh (hr o ho) h1))
  ·rcases doR g hg with q | q | q
   ·exact .inl (doneAll q)
   ·exact .inl (inN g (xN g q))
   ·rcases ny g q with q1 | q1
    ·exact .inl (inN g (xN g q1))
    ·exact .inr q1
end
end Go.Proofs.YtklfnjlenbgmoaaDoor
namespace Go.Proofs.YtklfnjlenbgmoaaDoor
open Go.RowKit Go.Maps Go.WideMaps
theorem info80l : (Tryd.prog.info? 80).map (fun i => (i.zero, i.size, i.bytes)) = some (some (.slice none 0 0), 1, 24) := by kernel_rfl
theorem info36l : (Tryd.prog.info? 36).map (fun i => (i.zero, i.size, i.bytes)) = some (some (.slice none 0 0), 1, 24) := by kernel_rfl
theorem push_word (w : World) (base : Nat) (p : Option Addr) (c : Nat) (ts : List Int) (s : Int) (h : w.ownsRow base 33 1 (.slice p ts.length c) ts.length (ts.map (Value.int .i64))) (hb : ts.length + 1 ≤ 8796093022208) (hB : base ≤ w.heap.size) :
  ∃ p' c' w', (Builtin.append_ #[80, 80] 80 #[.slice p ts.length c, .slice (some ⟨w.heap.size, 0, none⟩) 1 1]).run Tryd.prog (w.alloc (.cells #[.int .i64 s] 33)) = .ok (.slice p' (ts.length + 1) c') w' ∧
   w'.ownsRow base 33 1 (.slice p' (ts ++ [s]).length c') (ts ++ [s]).length ((ts ++ [s]).map (Value.int .i64)) ∧ ((p' = p ∧ c' = c ∧ Fr (blk p) w w') ∨ (Fr [] w w' ∧ ∀ g ∈ blk p', w.heap.size ≤ g)) := by
 obtain ⟨i3, ii, iz, is, ib⟩ := info_parts info33
 have := push2 Tryd.underlying80 ii iz is ib rfl w base p c (ts.map (Value.int .i64)) (.int .i64 s) (by rw [List.length_map]; exact h) rfl (by rw [List.length_map]; unfold maxLen; omega) (by rw [List.length_map]; omega) hB
 rw [List.length_map] at this
 obtain ⟨p', c', w', r1, r2, r3⟩ := this
 exact ⟨p', c', w', r1, by rw [List.length_append, List.map_append]; exact r2, r3⟩
theorem push_wordss (w : World) (base : Nat) (p : Option Addr) (c : Nat) (xs : List Value) (x : Value) (h : w.ownsRow base 80 1 (.slice p xs.length c) xs.length xs) (hx : x.oneCell' = true) (hb : xs.length + 1 ≤ 8796093022208) (hB : base ≤ w.heap.size) :
  ∃ p' c' w', (Builtin.append_ #[79, 79] 79 #[.slice p xs.length c, .slice (some ⟨w.heap.size, 0, none⟩) 1 1]).run Tryd.prog (w.alloc (.cells #[x] 80)) = .ok (.slice p' (xs.length + 1) c') w' ∧
   w'.ownsRow base 80 1 (.slice p' (xs ++ [x]).length c') (xs ++ [x]).length (xs ++ [x]) ∧ ((p' = p ∧ c' = c ∧ Fr (blk p) w w') ∨ (Fr [] w w' ∧ ∀ g ∈ blk p', w.heap.size ≤ g)) := by
 obtain ⟨i36, ii, iz, is, ib⟩ := info_parts info80l
 obtain ⟨p', c', w', r1, r2, r3⟩ := push2 Tryd.underlying79 ii iz is ib rfl w base p c xs x h hx (by unfold maxLen; omega) (by omega) hB
 exact ⟨p', c', w', r1, by rw [List.length_append]; exact r2, r3⟩
theorem push_objss (w : World) (base : Nat) (p : Option Addr) (c : Nat) (xs : List Value) (x : Value) (h : w.ownsRow base 36 1 (.slice p xs.length c) xs.length xs) (hx : x.oneCell' = true) (hb : xs.length + 1 ≤ 8796093022208) (hB : base ≤ w.heap.size) :
  ∃ p' c' w', (Builtin.append_ #[81, 81] 81 #[.slice p xs.length c, .slice (some ⟨w.heap.size, 0, none⟩) 1 1]).run Tryd.prog (w.alloc (.cells #[x] 36)) = .ok (.slice p' (xs.length + 1) c') w' ∧
   w'.ownsRow base 36 1 (.slice p' (xs ++ [x]).length c') (xs ++ [x]).length (xs ++ [x]) ∧ ((p' = p ∧ c' = c ∧ Fr (blk p) w w') ∨ (Fr [] w w' ∧ ∀ g ∈ blk p', w.heap.size ≤ g)) := by
 obtain ⟨i36, ii, iz, is, ib⟩ := info_parts info36l
 obtain ⟨p', c', w', r1, r2, r3⟩ := push2 Tryd.underlying81 ii iz is ib rfl w base p c xs x h hx (by unfold maxLen; omega) (by omega) hB
 exact ⟨p', c', w', r1, by rw [List.length_append]; exact r2, r3⟩
end Go.Proofs.YtklfnjlenbgmoaaDoor
namespace Go.Proofs.YtklfnjlenbgmoaaDoor
open Go.RowKit
structure Hdr where
 o0 : Value
 o1 : Value
 r0 : Value
 r1 : Value
 ps : Value
 ms : Value
structure Bok (w : World) (b : Nat) (H : Hdr) (S1 S2 S3 : Sc) : Prop where
 top : w.heap[b]? = some (.cells #[H.o0, H.o1, H.r0, H.r1, H.ps, H.ms, S1.vI.v, S1.vM.v, S1.vK.v, S2.vI.v, S2.vM.v, S2.vK.v, S3.vI.v, S3.vM.v, S3.vK.v] 85 (0, 0))
 ok1 : S1.Ok kInts w
 ok2 : S2.Ok kWords w
 ok3 : S3.Ok kObjs w
 b1 : b ∉ S1.all
 b2 : b ∉ S2.all
 b3 : b ∉ S3.all
 d12 : ∀ g ∈ S1.all, g ∉ S2.all
 d13 : ∀ g ∈ S1.all, g ∉ S3.all
 d23 : ∀ g ∈ S2.all, g ∉ S3.all
def bokF (S1 S2 S3 : Sc) : List Nat := S1.all ++ (S2.all ++ S3.all)
theorem bokF1 {S1 S2 S3 : Sc} {g : Nat} (h : g ∈ S1.all) : g ∈ bokF S1 S2 S3 := List.mem_append.2 (.inl h)
theorem bokF2 {S1 S2 S3 : Sc} {g : Nat} (h : g ∈ S2.all) : g ∈ bokF S1 S2 S3 := List.mem_append.2 (.inr (List.mem_append.2 (.inl h)))
theorem bokF3 {S1 S2 S3 : Sc} {g : Nat} (h : g ∈ S3.all) : g ∈ bokF S1 S2 S3 := List.mem_append.2 (.inr (List.mem_append.2 (.inr h)))
theorem mem_bokF {S1 S2 S3 : Sc} {g : Nat} (h : g ∈ bokF S1 S2 S3) : g ∈ S1.all ∨ g ∈ S2.all ∨ g ∈ S3.all := by
 rcases List.mem_append.1 h with h | h
 ·exact .inl h
 ·exact .inr (List.mem_append.1 h)
section
variable {w w' : World} {b : Nat} {H : Hdr} {S1 S2 S3 : Sc}
theorem Bok.keep {X : List Nat} (h : Bok w b H S1 S2 S3) (hf : Fr X w w') (hb : b ∉ X) (hd : ∀ g ∈ bokF S1 S2 S3, g ∉ X) : Bok w' b H S1 S2 S3 :=
 ⟨(hf.block b (lt_of_heap h.top) hb).trans h.top, h.ok1.keep hf fun g hg => hd g (bokF1 hg), h.ok2.keep hf fun g hg => hd g (bokF2 hg), h.ok3.keep hf fun g hg => hd g (bokF3 hg), h.b1, h.b2, h.b3, h.d12, h.d13, h.d23⟩
theorem Bok.lt (h : Bok w b H S1 S2 S3) {g : Nat} (hg : g ∈ bokF S1 S2 S3) : g < w.heap.size := by
 rcases mem_bokF hg with h1 | h1 | h1
 ·exact h.ok1.lt h1
 ·exact h.ok2.lt h1
 ·exact h.ok3.lt h1
theorem Bok.push1 (h : Bok w b H S1 S2 S3) (x : Le) (m : Int) (hx : OwK kInts w x m) (ax : ∀ g ∈ blk x.p, g ∉ bokF S1 S2 S3) (hbx : b ∉ blk x.p) (hk : S1.olds.length + S1.news.length ≤ 8796093022000) :
  ∃ p1 c1 w1 p4 c4 w4, (Builtin.append_ #[78, 78] 78 #[S1.vI.v, .slice (some ⟨w.heap.size, 0, none⟩) 1 1]).run Tryd.prog (w.alloc (.cells #[x.v] 22)) = .ok (.slice p1 (S1.vI.n + 1) c1) w1 ∧
   w1.cell? ⟨b, 6, none⟩ = some S1.vI.v ∧ w1.frozen? ⟨b, 6, none⟩ = false ∧ (w1.setCell ⟨b, 6, none⟩ (.slice p1 (S1.vI.n + 1) c1)).cell? ⟨b, 8, none⟩ = some S1.vK.v ∧
   (Builtin.append_ #[22, 22] 22 #[S1.vK.v, .slice (some ⟨(w1.setCell ⟨b, 6, none⟩ (.slice p1 (S1.vI.n + 1) c1)).heap.size, 0, none⟩) 1 1]).run Tryd.prog ((w1.setCell ⟨b, 6, none⟩ (.slice p1 (S1.vI.n + 1) c1)).alloc (.cells #[.int .i64 m] 3)) = .ok (.slice p4 (S1.vI.n + 1) c4) w4 ∧
   w4.cell? ⟨b, 8, none⟩ = some S1.vK.v ∧ w4.frozen? ⟨b, 8, none⟩ = false ∧
   Bok (w4.setCell ⟨b, 8, none⟩ (.slice p4 (S1.vI.n + 1) c4)) b H (S1.add x m ⟨p1, S1.vI.n + 1, c1⟩ ⟨p4, S1.vI.n + 1, c4⟩) S2 S3 ∧ Fr (b :: S1.hot) w (w4.setCell ⟨b, 8, none⟩ (.slice p4 (S1.vI.n + 1) c4)) ∧ ∀ g ∈ (S1.add x m ⟨p1, S1.vI.n + 1, c1⟩ ⟨p4, S1.vI.n + 1, c4⟩).all, g ∈ S1.all ∨ g ∈ blk x.p ∨ w.heap.size ≤ g := by
 have ok := h.ok1
 have hbl := lt_of_heap h.top
 have nI := ok.nI
 have nK := ok.nK
 have lI : (S1.Is.map Le.v).length = S1.vI.n := by rw [nI]; simp [Sc.Is]
 have lK : S1.Ks.length = S1.vI.n := by rw [nI]; simp [Sc.Ks]
 have eK : S1.vK.n = S1.vI.n := by omega
 have lKK : S1.Ks.length = S1.vK.n := by omega
 have bI : b ∉ blk S1.vI.p := fun hm => h.b1 (hotAll (blkI hm))
 have bK : b ∉ blk S1.vK.p := fun hm => h.b1 (hotAll (blkK hm))
 have rI : w.ownsRow 0 22 1 (.slice S1.vI.p (S1.Is.map Le.v).length S1.vI.c) (S1.Is.map Le.v).length (S1.Is.map Le.v) := by rw [lI]; exact ok.rI
 obtain ⟨p1, c1, w1, r1, o1, mv1⟩ := push_ints w 0 S1.vI.p S1.vI.c (S1.Is.map Le.v) x.v rI rfl (by rw [lI]; omega) (Nat.zero_le _)
 rw [lI] at r1
 have mv1' : Mv S1.vI ⟨p1, S1.vI.n + 1, c1⟩ w w1 := by
  rcases mv1 with ⟨e1, -, e3⟩ | ⟨e1, e2⟩
  ·exact .inl ⟨e1, e3⟩
  ·exact .inr ⟨e1, e2⟩
 have o1' : w1.ownsRow 0 kInts.t 1 (Le.v ⟨p1, S1.vI.n + 1, c1⟩) (S1.vI.n + 1) ((S1.Is ++ [x]).map Le.v) := by
  have := o1
  rw [List.length_append, lI] at this
  rw [List.map_append]
  exact this
 have t1 : w1.heap[b]? = some (.cells #[H.o0, H.o1, H.r0, H.r1, H.ps, H.ms, S1.vI.v, S1.vM.v, S1.vK.v, S2.vI.v, S2.vM.v, S2.vK.v, S3.vI.v, S3.vM.v, S3.vK.v] 85 (0, 0)) := (mv1'.fr.block b hbl bI).trans h.top
 have s1 := mv1'.fr.size
 have F2 : Fr [b] w1 (w1.setCell ⟨b, 6, none⟩ (.slice p1 (S1.vI.n + 1) c1)) := Fr.setCell (S := [b]) w1 ⟨b, 6, none⟩ _ (by simp)
 have t3 : (w1.setCell ⟨b, 6, none⟩ (.slice p1 (S1.vI.n + 1) c1)).heap[b]? = some (.cells #[H.o0, H.o1, H.r0, H.r1, H.ps, H.ms, (.slice p1 (S1.vI.n + 1) c1), S1.vM.v, S1.vK.v, S2.vI.v, S2.vM.v, S2.vK.v, S3.vI.v, S3.vM.v, S3.vK.v] 85 (0, 0)) := by rw [set_in t1 6 _]; rfl
 have s2 := F2.size
 have oK0 : w1.ownsRow 0 3 1 S1.vK.v S1.vK.n (S1.Ks.map (Value.int .i64)) := ow_keep ok.rK mv1'.fr fun g hg hm => ok.dIK g hm hg
 have oK1 : (w1.setCell ⟨b, 6, none⟩ (.slice p1 (S1.vI.n + 1) c1)).ownsRow 0 3 1 S1.vK.v S1.vK.n (S1.Ks.map (Value.int .i64)) := ow_keep oK0 F2 fun g hg hm => by
  have e : g = b := by simpa using hm
  exact bK (e ▸ hg)
 have eV : S1.vK.v = .slice S1.vK.p S1.Ks.length S1.vK.c := by rw [lK, ← eK]; rfl
 have rK : (w1.setCell ⟨b, 6, none⟩ (.slice p1 (S1.vI.n + 1) c1)).ownsRow 0 3 1 (.slice S1.vK.p S1.Ks.length S1.vK.c) S1.Ks.length (S1.Ks.map (Value.int .i64)) := by rw [← eV, lKK]; exact oK1
 obtain ⟨p4, c4, w4, r4, o4, mv4⟩ := push_int (w1.setCell ⟨b, 6, none⟩ (.slice p1 (S1.vI.n + 1) c1)) 0 S1.vK.p S1.vK.c S1.Ks m rK (by rw [lK]; omega) (Nat.zero_le _)
 rw [← eV, lK] at r4
 have mv4' : Mv S1.vK ⟨p4, S1.vI.n + 1, c4⟩ (w1.setCell ⟨b, 6, none⟩ (.slice p1 (S1.vI.n + 1) c1)) w4 := by
  rcases mv4 with ⟨e1, -, e3⟩ | ⟨e1, e2⟩
  ·exact .inl ⟨e1, e3⟩
  ·exact .inr ⟨e1, e2⟩
 have o4' : w4.ownsRow 0 kInts.m 1 (Le.v ⟨p4, S1.vI.n + 1, c4⟩) (S1.vI.n + 1) ((S1.Ks ++ [m]).map (Value.int .i64)) := by
  have := o4
  rw [List.length_append, lK] at this
  exact this
 have t4 : w4.heap[b]? = some (.cells #[H.o0, H.o1, H.r0, H.r1, H.ps, H.ms, (.slice p1 (S1.vI.n + 1) c1), S1.vM.v, S1.vK.v, S2.vI.v, S2.vM.v, S2.vK.v, S3.vI.v, S3.vM.v, S3.vK.v] 85 (0, 0)) := (mv4'.fr.block b (by omega) bK).trans t3
 have t5 : (w4.setCell ⟨b, 8, none⟩ (.slice p4 (S1.vI.n + 1) c4)).heap[b]? = some (.cells #[H.o0, H.o1, H.r0, H.r1, H.ps, H.ms, (.slice p1 (S1.vI.n + 1) c1), S1.vM.v, (.slice p4 (S1.vI.n + 1) c4), S2.vI.v, S2.vM.v, S2.vK.v, S3.vI.v, S3.vM.v, S3.vK.v] 85 (0, 0)) := by rw [set_in t4 8 _]; rfl
 have F4 : Fr [b] w4 (w4.setCell ⟨b, 8, none⟩ (.slice p4 (S1.vI.n + 1) c4)) := Fr.setCell (S := [b]) w4 ⟨b, 8, none⟩ _ (by simp)
 obtain ⟨q1, q2, q3⟩ := ok.add x m hx (fun g hg hm => ax g hg (bokF1 hm)) b h.b1 hbx hbl (vI' := ⟨p1, S1.vI.n + 1, c1⟩) (vK' := ⟨p4, S1.vI.n + 1, c4⟩) o1' (by rw [← nI]) mv1' F2 o4' (by rw [← nI]) mv4' F4
 have k2 : S2.Ok kWords (w4.setCell ⟨b, 8, none⟩ (.slice p4 (S1.vI.n + 1) c4)) := h.ok2.keep q2 fun g hg hm => by
  rcases List.mem_cons.1 hm with hm | hm
  ·exact h.b2 (hm ▸ hg)
  ·exact h.d12 g (hotAll hm) hg
 have e2 : ∀ g ∈ (S1.add x m ⟨p1, S1.vI.n + 1, c1⟩ ⟨p4, S1.vI.n + 1, c4⟩).all, g ∉ S2.all := fun g hg hm => by
  rcases q3 g hg with h1 | h1 | h1
  ·exact h.d12 g h1 hm
  ·exact ax g h1 (bokF2 hm)
  ·have := h.ok2.lt hm; omega
 have k3 : S3.Ok kObjs (w4.setCell ⟨b, 8, none⟩ (.slice p4 (S1.vI.n + 1) c4)) := h.ok3.keep q2 fun g hg hm => by
  rcases List.mem_cons.1 hm with hm | hm
  ·exact h.b3 (hm ▸ hg)
  ·exact h.d13 g (hotAll hm) hg
 have e3 : ∀ g ∈ (S1.add x m ⟨p1, S1.vI.n + 1, c1⟩ ⟨p4, S1.vI.n + 1, c4⟩).all, g ∉ S3.all := fun g hg hm => by
  rcases q3 g hg with h1 | h1 | h1
  ·exact h.d13 g h1 hm
  ·exact ax g h1 (bokF3 hm)
  ·have := h.ok3.lt hm; omega
 have bN : b ∉ (S1.add x m ⟨p1, S1.vI.n + 1, c1⟩ ⟨p4, S1.vI.n + 1, c4⟩).all := fun hm => by
  rcases q3 b hm with h1 | h1 | h1
  ·exact h.b1 h1
  ·exact hbx h1
  ·omega
 exact ⟨p1, c1, w1, p4, c4, w4, r1, by rw [cell_in t1]; rfl, frozen_in t1 6, by rw [cell_in t3]; rfl, r4, by rw [cell_in t4]; rfl, frozen_in t4 8, ⟨t5, q1, k2, k3, bN, h.b2, h.b3, e2, e3, h.d23⟩, q2, q3⟩
theorem Bok.push2 (h : Bok w b H S1 S2 S3) (x : Le) (m : Int) (hx : OwK kWords w x m) (ax : ∀ g ∈ blk x.p, g ∉ bokF S1 S2 S3) (hbx : b ∉ blk x.p) (hk : S2.olds.length + S2.news.length ≤ 8796093022000) :
  ∃ p1 c1 w1 p4 c4 w4, (Builtin.append_ #[79, 79] 79 #[S2.vI.v, .slice (some ⟨w.heap.size, 0, none⟩) 1 1]).run Tryd.prog (w.alloc (.cells #[x.v] 80)) = .ok (.slice p1 (S2.vI.n + 1) c1) w1 ∧
   w1.cell? ⟨b, 9, none⟩ = some S2.vI.v ∧ w1.frozen? ⟨b, 9, none⟩ = false ∧ (w1.setCell ⟨b, 9, none⟩ (.slice p1 (S2.vI.n + 1) c1)).cell? ⟨b, 11, none⟩ = some S2.vK.v ∧
   (Builtin.append_ #[80, 80] 80 #[S2.vK.v, .slice (some ⟨(w1.setCell ⟨b, 9, none⟩ (.slice p1 (S2.vI.n + 1) c1)).heap.size, 0, none⟩) 1 1]).run Tryd.prog ((w1.setCell ⟨b, 9, none⟩ (.slice p1 (S2.vI.n + 1) c1)).alloc (.cells #[.int .i64 m] 33)) = .ok (.slice p4 (S2.vI.n + 1) c4) w4 ∧
   w4.cell? ⟨b, 11, none⟩ = some S2.vK.v ∧ w4.frozen? ⟨b, 11, none⟩ = false ∧
   Bok (w4.setCell ⟨b, 11, none⟩ (.slice p4 (S2.vI.n + 1) c4)) b H S1 (S2.add x m ⟨p1, S2.vI.n + 1, c1⟩ ⟨p4, S2.vI.n + 1, c4⟩) S3 ∧ Fr (b :: S2.hot) w (w4.setCell ⟨b, 11, none⟩ (.slice p4 (S2.vI.n + 1) c4)) ∧ ∀ g ∈ (S2.add x m ⟨p1, S2.vI.n + 1, c1⟩ ⟨p4, S2.vI.n + 1, c4⟩).all, g ∈ S2.all ∨ g ∈ blk x.p ∨ w.heap.size ≤ g := by
 have ok := h.ok2
 have hbl := lt_of_heap h.top
 have nI := ok.nI
 have nK := ok.nK
 have lI : (S2.Is.map Le.v).length = S2.vI.n := by rw [nI]; simp [Sc.Is]
 have lK : S2.Ks.length = S2.vI.n := by rw [nI]; simp [Sc.Ks]
 have eK : S2.vK.n = S2.vI.n := by omega
 have lKK : S2.Ks.length = S2.vK.n := by omega
 have bI : b ∉ blk S2.vI.p := fun hm => h.b2 (hotAll (blkI hm))
 have bK : b ∉ blk S2.vK.p := fun hm => h.b2 (hotAll (blkK hm))
 have rI : w.ownsRow 0 80 1 (.slice S2.vI.p (S2.Is.map Le.v).length S2.vI.c) (S2.Is.map Le.v).length (S2.Is.map Le.v) := by rw [lI]; exact ok.rI
 obtain ⟨p1, c1, w1, r1, o1, mv1⟩ := push_wordss w 0 S2.vI.p S2.vI.c (S2.Is.map Le.v) x.v rI rfl (by rw [lI]; omega) (Nat.zero_le _)
 rw [lI] at r1
 have mv1' : Mv S2.vI ⟨p1, S2.vI.n + 1, c1⟩ w w1 := by
  rcases mv1 with ⟨e1, -, e3⟩ | ⟨e1, e2⟩
  ·exact .inl ⟨e1, e3⟩
  ·exact .inr ⟨e1, e2⟩
 have o1' : w1.ownsRow 0 kWords.t 1 (Le.v ⟨p1, S2.vI.n + 1, c1⟩) (S2.vI.n + 1) ((S2.Is ++ [x]).map Le.v) := by
  have := o1
  rw [List.length_append, lI] at this
  rw [List.map_append]
  exact this
 have t1 : w1.heap[b]? = some (.cells #[H.o0, H.o1, H.r0, H.r1, H.ps, H.ms, S1.vI.v, S1.vM.v, S1.vK.v, S2.vI.v, S2.vM.v, S2.vK.v, S3.vI.v, S3.vM.v, S3.vK.v] 85 (0, 0)) := (mv1'.fr.block b hbl bI).trans h.top
 have s1 := mv1'.fr.size
 have F2 : Fr [b] w1 (w1.setCell ⟨b, 9, none⟩ (.slice p1 (S2.vI.n + 1) c1)) := Fr.setCell (S := [b]) w1 ⟨b, 9, none⟩ _ (by simp)
 have t3 : (w1.setCell ⟨b, 9, none⟩ (.slice p1 (S2.vI.n + 1) c1)).heap[b]? = some (.cells #[H.o0, H.o1, H.r0, H.r1, H.ps, H.ms, S1.vI.v, S1.vM.v, S1.vK.v, (.slice p1 (S2.vI.n + 1) c1), S2.vM.v, S2.vK.v, S3.vI.v, S3.vM.v, S3.vK.v] 85 (0, 0)) := by rw [set_in t1 9 _]; rfl
 have s2 := F2.size
 have oK0 : w1.ownsRow 0 33 1 S2.vK.v S2.vK.n (S2.Ks.map (Value.int .i64)) := ow_keep ok.rK mv1'.fr fun g hg hm => ok.dIK g hm hg
 have oK1 : (w1.setCell ⟨b, 9, none⟩ (.slice p1 (S2.vI.n + 1) c1)).ownsRow 0 33 1 S2.vK.v S2.vK.n (S2.Ks.map (Value.int .i64)) := ow_keep oK0 F2 fun g hg hm => by
  have e : g = b := by simpa using hm
  exact bK (e ▸ hg)
 have eV : S2.vK.v = .slice S2.vK.p S2.Ks.length S2.vK.c := by rw [lK, ← eK]; rfl
 have rK : (w1.setCell ⟨b, 9, none⟩ (.slice p1 (S2.vI.n + 1) c1)).ownsRow 0 33 1 (.slice S2.vK.p S2.Ks.length S2.vK.c) S2.Ks.length (S2.Ks.map (Value.int .i64)) := by rw [← eV, lKK]; exact oK1
 obtain ⟨p4, c4, w4, r4, o4, mv4⟩ := push_word (w1.setCell ⟨b, 9, none⟩ (.slice p1 (S2.vI.n + 1) c1)) 0 S2.vK.p S2.vK.c S2.Ks m rK (by rw [lK]; omega) (Nat.zero_le _)
 rw [← eV, lK] at r4
 have mv4' : Mv S2.vK ⟨p4, S2.vI.n + 1, c4⟩ (w1.setCell ⟨b, 9, none⟩ (.slice p1 (S2.vI.n + 1) c1)) w4 := by
  rcases mv4 with ⟨e1, -, e3⟩ | ⟨e1, e2⟩
  ·exact .inl ⟨e1, e3⟩
  ·exact .inr ⟨e1, e2⟩
 have o4' : w4.ownsRow 0 kWords.m 1 (Le.v ⟨p4, S2.vI.n + 1, c4⟩) (S2.vI.n + 1) ((S2.Ks ++ [m]).map (Value.int .i64)) := by
  have := o4
  rw [List.length_append, lK] at this
  exact this
 have t4 : w4.heap[b]? = some (.cells #[H.o0, H.o1, H.r0, H.r1, H.ps, H.ms, S1.vI.v, S1.vM.v, S1.vK.v, (.slice p1 (S2.vI.n + 1) c1), S2.vM.v, S2.vK.v, S3.vI.v, S3.vM.v, S3.vK.v] 85 (0, 0)) := (mv4'.fr.block b (by omega) bK).trans t3
 have t5 : (w4.setCell ⟨b, 11, none⟩ (.slice p4 (S2.vI.n + 1) c4)).heap[b]? = some (.cells #[H.o0, H.o1, H.r0, H.r1, H.ps, H.ms, S1.vI.v, S1.vM.v, S1.vK.v, (.slice p1 (S2.vI.n + 1) c1), S2.vM.v, (.slice p4 (S2.vI.n + 1) c4), S3.vI.v, S3.vM.v, S3.vK.v] 85 (0, 0)) := by rw [set_in t4 11 _]; rfl
 have F4 : Fr [b] w4 (w4.setCell ⟨b, 11, none⟩ (.slice p4 (S2.vI.n + 1) c4)) := Fr.setCell (S := [b]) w4 ⟨b, 11, none⟩ _ (by simp)
 obtain ⟨q1, q2, q3⟩ := ok.add x m hx (fun g hg hm => ax g hg (bokF2 hm)) b h.b2 hbx hbl (vI' := ⟨p1, S2.vI.n + 1, c1⟩) (vK' := ⟨p4, S2.vI.n + 1, c4⟩) o1' (by rw [← nI]) mv1' F2 o4' (by rw [← nI]) mv4' F4
 have k1 : S1.Ok kInts (w4.setCell ⟨b, 11, none⟩ (.slice p4 (S2.vI.n + 1) c4)) := h.ok1.keep q2 fun g hg hm => by
  rcases List.mem_cons.1 hm with hm | hm
  ·exact h.b1 (hm ▸ hg)
  ·exact (fun g hg hm => h.d12 g hm hg) g (hotAll hm) hg
 have e1 : ∀ g ∈ (S2.add x m ⟨p1, S2.vI.n + 1, c1⟩ ⟨p4, S2.vI.n + 1, c4⟩).all, g ∉ S1.all := fun g hg hm => by
  rcases q3 g hg with h1 | h1 | h1
  ·exact (fun g hg hm => h.d12 g hm hg) g h1 hm
  ·exact ax g h1 (bokF1 hm)
  ·have := h.ok1.lt hm; omega
 have k3 : S3.Ok kObjs (w4.setCell ⟨b, 11, none⟩ (.slice p4 (S2.vI.n + 1) c4)) := h.ok3.keep q2 fun g hg hm => by
  rcases List.mem_cons.1 hm with hm | hm
  ·exact h.b3 (hm ▸ hg)
  ·exact h.d23 g (hotAll hm) hg
 have e3 : ∀ g ∈ (S2.add x m ⟨p1, S2.vI.n + 1, c1⟩ ⟨p4, S2.vI.n + 1, c4⟩).all, g ∉ S3.all := fun g hg hm => by
  rcases q3 g hg with h1 | h1 | h1
  ·exact h.d23 g h1 hm
  ·exact ax g h1 (bokF3 hm)
  ·have := h.ok3.lt hm; omega
 have bN : b ∉ (S2.add x m ⟨p1, S2.vI.n + 1, c1⟩ ⟨p4, S2.vI.n + 1, c4⟩).all := fun hm => by
  rcases q3 b hm with h1 | h1 | h1
  ·exact h.b2 h1
  ·exact hbx h1
  ·omega
 exact ⟨p1, c1, w1, p4, c4, w4, r1, by rw [cell_in t1]; rfl, frozen_in t1 9, by rw [cell_in t3]; rfl, r4, by rw [cell_in t4]; rfl, frozen_in t4 11, ⟨t5, k1, q1, k3, h.b1, bN, h.b3, fun g hg hm => e1 g hm hg, h.d13, e3⟩, q2, q3⟩
theorem Bok.push3 (h : Bok w b H S1 S2 S3) (x : Le) (m : Int) (hx : OwK kObjs w x m) (ax : ∀ g ∈ blk x.p, g ∉ bokF S1 S2 S3) (hbx : b ∉ blk x.p) (hk : S3.olds.length + S3.news.length ≤ 8796093022000) :
  ∃ p1 c1 w1 p4 c4 w4, (Builtin.append_ #[81, 81] 81 #[S3.vI.v, .slice (some ⟨w.heap.size, 0, none⟩) 1 1]).run Tryd.prog (w.alloc (.cells #[x.v] 36)) = .ok (.slice p1 (S3.vI.n + 1) c1) w1 ∧
   w1.cell? ⟨b, 12, none⟩ = some S3.vI.v ∧ w1.frozen? ⟨b, 12, none⟩ = false ∧ (w1.setCell ⟨b, 12, none⟩ (.slice p1 (S3.vI.n + 1) c1)).cell? ⟨b, 14, none⟩ = some S3.vK.v ∧
   (Builtin.append_ #[22, 22] 22 #[S3.vK.v, .slice (some ⟨(w1.setCell ⟨b, 12, none⟩ (.slice p1 (S3.vI.n + 1) c1)).heap.size, 0, none⟩) 1 1]).run Tryd.prog ((w1.setCell ⟨b, 12, none⟩ (.slice p1 (S3.vI.n + 1) c1)).alloc (.cells #[.int .i64 m] 3)) = .ok (.slice p4 (S3.vI.n + 1) c4) w4 ∧
   w4.cell? ⟨b, 14, none⟩ = some S3.vK.v ∧ w4.frozen? ⟨b, 14, none⟩ = false ∧
   Bok (w4.setCell ⟨b, 14, none⟩ (.slice p4 (S3.vI.n + 1) c4)) b H S1 S2 (S3.add x m ⟨p1, S3.vI.n + 1, c1⟩ ⟨p4, S3.vI.n + 1, c4⟩) ∧ Fr (b :: S3.hot) w (w4.setCell ⟨b, 14, none⟩ (.slice p4 (S3.vI.n + 1) c4)) ∧ ∀ g ∈ (S3.add x m ⟨p1, S3.vI.n + 1, c1⟩ ⟨p4, S3.vI.n + 1, c4⟩).all, g ∈ S3.all ∨ g ∈ blk x.p ∨ w.heap.size ≤ g := by
 have ok := h.ok3
 have hbl := lt_of_heap h.top
 have nI := ok.nI
 have nK := ok.nK
 have lI : (S3.Is.map Le.v).length = S3.vI.n := by rw [nI]; simp [Sc.Is]
 have lK : S3.Ks.length = S3.vI.n := by rw [nI]; simp [Sc.Ks]
 have eK : S3.vK.n = S3.vI.n := by omega
 have lKK : S3.Ks.length = S3.vK.n := by omega
 have bI : b ∉ blk S3.vI.p := fun hm => h.b3 (hotAll (blkI hm))
 have bK : b ∉ blk S3.vK.p := fun hm => h.b3 (hotAll (blkK hm))
 have rI : w.ownsRow 0 36 1 (.slice S3.vI.p (S3.Is.map Le.v).length S3.vI.c) (S3.Is.map Le.v).length (S3.Is.map Le.v) := by rw [lI]; exact ok.rI
 obtain ⟨p1, c1, w1, r1, o1, mv1⟩ := push_objss w 0 S3.vI.p S3.vI.c (S3.Is.map Le.v) x.v rI rfl (by rw [lI]; omega) (Nat.zero_le _)
 rw [lI] at r1
 have mv1' : Mv S3.vI ⟨p1, S3.vI.n + 1, c1⟩ w w1 := by
  rcases mv1 with ⟨e1, -, e3⟩ | ⟨e1, e2⟩
  ·exact .inl ⟨e1, e3⟩
  ·exact .inr ⟨e1, e2⟩
 have o1' : w1.ownsRow 0 kObjs.t 1 (Le.v ⟨p1, S3.vI.n + 1, c1⟩) (S3.vI.n + 1) ((S3.Is ++ [x]).map Le.v) := by
  have := o1
  rw [List.length_append, lI] at this
  rw [List.map_append]
  exact this
 have t1 : w1.heap[b]? = some (.cells #[H.o0, H.o1, H.r0, H.r1, H.ps, H.ms, S1.vI.v, S1.vM.v, S1.vK.v, S2.vI.v, S2.vM.v, S2.vK.v, S3.vI.v, S3.vM.v, S3.vK.v] 85 (0, 0)) := (mv1'.fr.block b hbl bI).trans h.top
 have s1 := mv1'.fr.size
 have F2 : Fr [b] w1 (w1.setCell ⟨b, 12, none⟩ (.slice p1 (S3.vI.n + 1) c1)) := Fr.setCell (S := [b]) w1 ⟨b, 12, none⟩ _ (by simp)
 have t3 : (w1.setCell ⟨b, 12, none⟩ (.slice p1 (S3.vI.n + 1) c1)).heap[b]? = some (.cells #[H.o0, H.o1, H.r0, H.r1, H.ps, H.ms, S1.vI.v, S1.vM.v, S1.vK.v, S2.vI.v, S2.vM.v, S2.vK.v, (.slice p1 (S3.vI.n + 1) c1), S3.vM.v, S3.vK.v] 85 (0, 0)) := by rw [set_in t1 12 _]; rfl
 have s2 := F2.size
 have oK0 : w1.ownsRow 0 3 1 S3.vK.v S3.vK.n (S3.Ks.map (Value.int .i64)) := ow_keep ok.rK mv1'.fr fun g hg hm => ok.dIK g hm hg
 have oK1 : (w1.setCell ⟨b, 12, none⟩ (.slice p1 (S3.vI.n + 1) c1)).ownsRow 0 3 1 S3.vK.v S3.vK.n (S3.Ks.map (Value.int .i64)) := ow_keep oK0 F2 fun g hg hm => by
  have e : g = b := by simpa using hm
  exact bK (e ▸ hg)
 have eV : S3.vK.v = .slice S3.vK.p S3.Ks.length S3.vK.c := by rw [lK, ← eK]; rfl
 have rK : (w1.setCell ⟨b, 12, none⟩ (.slice p1 (S3.vI.n + 1) c1)).ownsRow 0 3 1 (.slice S3.vK.p S3.Ks.length S3.vK.c) S3.Ks.length (S3.Ks.map (Value.int .i64)) := by rw [← eV, lKK]; exact oK1
 obtain ⟨p4, c4, w4, r4, o4, mv4⟩ := push_int (w1.setCell ⟨b, 12, none⟩ (.slice p1 (S3.vI.n + 1) c1)) 0 S3.vK.p S3.vK.c S3.Ks m rK (by rw [lK]; omega) (Nat.zero_le _)
 rw [← eV, lK] at r4
 have mv4' : Mv S3.vK ⟨p4, S3.vI.n + 1, c4⟩ (w1.setCell ⟨b, 12, none⟩ (.slice p1 (S3.vI.n + 1) c1)) w4 := by
  rcases mv4 with ⟨e1, -, e3⟩ | ⟨e1, e2⟩
  ·exact .inl ⟨e1, e3⟩
  ·exact .inr ⟨e1, e2⟩
 have o4' : w4.ownsRow 0 kObjs.m 1 (Le.v ⟨p4, S3.vI.n + 1, c4⟩) (S3.vI.n + 1) ((S3.Ks ++ [m]).map (Value.int .i64)) := by
  have := o4
  rw [List.length_append, lK] at this
  exact this
 have t4 : w4.heap[b]? = some (.cells #[H.o0, H.o1, H.r0, H.r1, H.ps, H.ms, S1.vI.v, S1.vM.v, S1.vK.v, S2.vI.v, S2.vM.v, S2.vK.v, (.slice p1 (S3.vI.n + 1) c1), S3.vM.v, S3.vK.v] 85 (0, 0)) := (mv4'.fr.block b (by omega) bK).trans t3
 have t5 : (w4.setCell ⟨b, 14, none⟩ (.slice p4 (S3.vI.n + 1) c4)).heap[b]? = some (.cells #[H.o0, H.o1, H.r0, H.r1, H.ps, H.ms, S1.vI.v, S1.vM.v, S1.vK.v, S2.vI.v, S2.vM.v, S2.vK.v, (.slice p1 (S3.vI.n + 1) c1), S3.vM.v, (.slice p4 (S3.vI.n + 1) c4)] 85 (0, 0)) := by rw [set_in t4 14 _]; rfl
 have F4 : Fr [b] w4 (w4.setCell ⟨b, 14, none⟩ (.slice p4 (S3.vI.n + 1) c4)) := Fr.setCell (S := [b]) w4 ⟨b, 14, none⟩ _ (by simp)
 obtain ⟨q1, q2, q3⟩ := ok.add x m hx (fun g hg hm => ax g hg (bokF3 hm)) b h.b3 hbx hbl (vI' := ⟨p1, S3.vI.n + 1, c1⟩) (vK' := ⟨p4, S3.vI.n + 1, c4⟩) o1' (by rw [← nI]) mv1' F2 o4' (by rw [← nI]) mv4' F4
 have k1 : S1.Ok kInts (w4.setCell ⟨b, 14, none⟩ (.slice p4 (S3.vI.n + 1) c4)) := h.ok1.keep q2 fun g hg hm => by
  rcases List.mem_cons.1 hm with hm | hm
  ·exact h.b1 (hm ▸ hg)
  ·exact (fun g hg hm => h.d13 g hm hg) g (hotAll hm) hg
 have e1 : ∀ g ∈ (S3.add x m ⟨p1, S3.vI.n + 1, c1⟩ ⟨p4, S3.vI.n + 1, c4⟩).all, g ∉ S1.all := fun g hg hm => by
  rcases q3 g hg with h1 | h1 | h1
  ·exact (fun g hg hm => h.d13 g hm hg) g h1 hm
  ·exact ax g h1 (bokF1 hm)
  ·have := h.ok1.lt hm; omega
 have k2 : S2.Ok kWords (w4.setCell ⟨b, 14, none⟩ (.slice p4 (S3.vI.n + 1) c4)) := h.ok2.keep q2 fun g hg hm => by
  rcases List.mem_cons.1 hm with hm | hm
  ·exact h.b2 (hm ▸ hg)
  ·exact (fun g hg hm => h.d23 g hm hg) g (hotAll hm) hg
 have e2 : ∀ g ∈ (S3.add x m ⟨p1, S3.vI.n + 1, c1⟩ ⟨p4, S3.vI.n + 1, c4⟩).all, g ∉ S2.all := fun g hg hm => by
  rcases q3 g hg with h1 | h1 | h1
  ·exact (fun g hg hm => h.d23 g hm hg) g h1 hm
  ·exact ax g h1 (bokF2 hm)
  ·have := h.ok2.lt hm; omega
 have bN : b ∉ (S3.add x m ⟨p1, S3.vI.n + 1, c1⟩ ⟨p4, S3.vI.n + 1, c4⟩).all := fun hm => by
  rcases q3 b hm with h1 | h1 | h1
  ·exact h.b3 h1
  ·exact hbx h1
  ·omega
 exact ⟨p1, c1, w1, p4, c4, w4, r1, by rw [cell_in t1]; rfl, frozen_in t1 12, by rw [cell_in t3]; rfl, r4, by rw [cell_in t4]; rfl, frozen_in t4 14, ⟨t5, k1, k2, q1, h.b1, h.b2, bN, h.d12, fun g hg hm => e1 g hm hg, fun g hg hm => e2 g hm hg⟩, q2, q3⟩
end
end Go.Proofs.YtklfnjlenbgmoaaDoor
