import Derived.Test.YtklfnjlenbgmoaaDoorPG34KBok
import Derived.Test.YtklfnjlenbgmoaaDoorPG33KSecA
set_option linter.unusedSimpArgs false
set_option linter.unusedVariables false
namespace Go.Proofs.YtklfnjlenbgmoaaDoor
open Go.RowKit Go.Maps Go.WideMaps
theorem pushW {t e : TypeId} {i : TypeInfo} {z : Value} {s bytes : Nat} (ht : Tryd.prog.underlying t = some (.slice e)) (hi : Tryd.prog.info? e = some i) (hz : i.zero = some z) (hsize : i.size = s) (hby : i.bytes = bytes) (hzs : z.cells.size = s) (hs0 : 0 < s)
  (w : World) (base n : Nat) (p : Option Addr) (c : Nat) (xs us : List Value) (h : w.ownsRow base e s (.slice p n c) n xs) (hu : us.length = s) (h1 : ∀ u ∈ us, u.oneCell' = true) (h63 : n + 1 ≤ maxLen) (hb : ((n + 1) + (n + 1) / 4 + 192) * bytes ≤ 281474976710656) (hB : base ≤ w.heap.size) :
  ∃ p' c' w', (Builtin.append_ #[t, t] t #[.slice p n c, .slice (some ⟨w.heap.size, 0, none⟩) 1 1]).run Tryd.prog (w.alloc (.cells us.toArray e)) = .ok (.slice p' (n + 1) c') w' ∧
   w'.ownsRow base e s (.slice p' (n + 1) c') (n + 1) (xs ++ us) ∧ ((p' = p ∧ c' = c ∧ Fr (blk p) w w') ∨ (Fr [] w w' ∧ ∀ g ∈ blk p', w.heap.size ≤ g)) := by
 have hA : (w.alloc (.cells us.toArray e)).heap.size = w.heap.size + 1 := by simp
 have hown : (w.alloc (.cells us.toArray e)).ownsRow base e s (.slice p n c) n xs := own_congr h (fun g hg => Below.heap_alloc _ _ _ (h.lt g hg).2)
 have hnews : ∀ j u, us[j]? = some u → (w.alloc (.cells us.toArray e)).cell? ((⟨w.heap.size, 0, none⟩ : Addr).add j) = some u := World.news_of_block (heap_alloc_new w _)
 have hul : us.length = 1 * s := by rw [hu, Nat.one_mul]
 have hxl : xs.length = n * s := h.1
 obtain ⟨v', w', hr, h2, h3, _⟩ := run_append_own_wide (P := Tryd.prog) (w.alloc (.cells us.toArray e)) base t t e i z s bytes ht hi hz hsize hby hzs hs0 _ _ _ hown ⟨w.heap.size, 0, none⟩ 1 1 us hul hnews h1 h63 hb (by omega)
 rcases h.2 with ⟨e1, e2⟩ | ⟨g, c0, cur, e1, q1, q2, q3, q4, q5, q6⟩
 ·injection e1 with e1 e3 e4
  subst e1
  subst e4
  subst e3
  have hr2 := run_append_nil (P := Tryd.prog) (w.alloc (.cells us.toArray e)) t t e i z ht hi hz ⟨w.heap.size, 0, none⟩ 1 1 us (by rw [hsize]; exact hul) hnews (by decide) (by decide) (by rw [hby]; omega)
  have hr3 := hr
  rw [hr2] at hr3
  injection hr3 with hv hw
  subst hv
  subst hw
  exact ⟨_, _, _, hr, h2, Or.inr ⟨(Fr.alloc [] w _).trans ((Fr.drew [] _).trans (Fr.alloc [] _ _) (by simp)) (by simp), fun g hg => by simp [blk] at hg; omega⟩⟩
 ·injection e1 with e1 _ e4
  subst e1
  subst e4
  by_cases hroom : n + 1 ≤ c
  ·have hg : (w.alloc (.cells us.toArray e)).heap[g]? = some (.cells cur e (0, 0)) := (Below.heap_alloc _ _ _ (lt_of_heap q2)).trans q2
   have hmul : n * s + s ≤ c * s := by have := Nat.mul_le_mul_right s hroom; rw [Nat.add_mul, Nat.one_mul] at this; exact this
   have hr2 := run_append_room (P := Tryd.prog) (w.alloc (.cells us.toArray e)) t t e i ht hi g n c cur hg ⟨w.heap.size, 0, none⟩ 1 1 us (by rw [hsize]; exact hul) hnews h1 hroom (by rw [hsize, q5, hu]; first | exact hmul | omega)
   have hr3 := hr
   rw [hr2] at hr3
   injection hr3 with hv hw
   subst hv
   refine ⟨_, _, w', hr, h2, Or.inl ⟨rfl, rfl, (Fr.alloc (blk (some ⟨g, 0, none⟩)) w _).trans (Fr.grown (S := [g]) h3 (fun k hk => ?_)) (by simp [blk])⟩⟩
   simp [Value.ownBlock] at hk
   simp [hk]
  ·have holds : ∀ j u, xs[j]? = some u → (w.alloc (.cells us.toArray e)).cell? ((⟨g, 0, none⟩ : Addr).add j) = some u := hown.cells (g := g) rfl
   have hr2 := run_append_grow (P := Tryd.prog) (w.alloc (.cells us.toArray e)) t t e i z ht hi hz ⟨g, 0, none⟩ n c xs (by rw [hsize]; exact hxl) holds ⟨w.heap.size, 0, none⟩ 1 1 us (by rw [hsize]; exact hul) hnews (by omega) (by unfold maxLen at h63; omega) (by rw [hby]; exact growslice_fits_wide (by omega) hb)
   have hr3 := hr
   rw [hr2] at hr3
   injection hr3 with hv hw
   subst hv
   subst hw
   exact ⟨_, _, _, hr, h2, Or.inr ⟨(Fr.alloc [] w _).trans ((Fr.drew [] _).trans (Fr.alloc [] _ _) (by simp)) (by simp), fun g hg => by simp [blk] at hg; omega⟩⟩
def PushK (k : Kd) : Prop := ∀ (w : World) (n : Nat) (p : Option Addr) (c : Nat) (m : Int), w.ownsRow 0 k.e k.s (.slice p n c) n (zC k n m) → n ≤ 1200000 →
  ∃ p' c' w', (Builtin.append_ #[k.t, k.t] k.t #[.slice p n c, .slice (some ⟨w.heap.size, 0, none⟩) 1 1]).run Tryd.prog (w.alloc (.cells (k.z m).toArray k.e)) = .ok (.slice p' (n + 1) c') w' ∧
   w'.ownsRow 0 k.e k.s (.slice p' (n + 1) c') (n + 1) (zC k (n + 1) m) ∧ ((p' = p ∧ c' = c ∧ Fr (blk p) w w') ∨ (Fr [] w w' ∧ ∀ g ∈ blk p', w.heap.size ≤ g))
theorem push_kInts : PushK kInts := fun w n p c m h hn => by
 obtain ⟨i3, ii, iz, is, ib⟩ := info_parts info3
 obtain ⟨p', c', w', r1, r2, r3⟩ := pushW Tryd.underlying22 ii iz is ib rfl (by decide) w 0 n p c (zC kInts n m) (kInts.z m) h rfl (by intro u hu; simp [kInts] at hu; subst hu; rfl) (by unfold maxLen; omega) (by omega) (Nat.zero_le _)
 rw [zC_snoc] at r2
 exact ⟨p', c', w', r1, r2, r3⟩
theorem push_kWords : PushK kWords := fun w n p c m h hn => by
 obtain ⟨i3, ii, iz, is, ib⟩ := info_parts info33
 obtain ⟨p', c', w', r1, r2, r3⟩ := pushW Tryd.underlying80 ii iz is ib rfl (by decide) w 0 n p c (zC kWords n m) (kWords.z m) h rfl (by intro u hu; simp [kWords] at hu; subst hu; rfl) (by unfold maxLen; omega) (by omega) (Nat.zero_le _)
 rw [zC_snoc] at r2
 exact ⟨p', c', w', r1, r2, r3⟩
theorem push_kObjs : PushK kObjs := fun w n p c m h hn => by
 obtain ⟨i3, ii, iz, is, ib⟩ := info_parts info106
 obtain ⟨p', c', w', r1, r2, r3⟩ := pushW Tryd.underlying36 ii iz is ib rfl (by decide) w 0 n p c (zC kObjs n m) (kObjs.z m) h rfl (by intro u hu; simp [kObjs] at hu; rcases hu with rfl | rfl | rfl | rfl <;> rfl) (by unfold maxLen; omega) (by omega) (Nat.zero_le _)
 rw [zC_snoc] at r2
 exact ⟨p', c', w', r1, r2, r3⟩
structure Gw (k : Kd) (wo V : World) (x : Le) (m : Int) (j : Nat) (p : Option Addr) (c : Nat) : Prop where
 own : V.ownsRow 0 k.e k.s (.slice p (x.n + j) c) (x.n + j) (zC k (x.n + j) m)
 fl : FlK k V x m
 at_ : (p = x.p ∧ c = x.c) ∨ ∀ g ∈ blk p, wo.heap.size ≤ g
 fr : Fr (blk x.p) wo V
 lt : ∀ g ∈ blk x.p, g < wo.heap.size
theorem Gw.start {k : Kd} {w : World} {x : Le} {m : Int} (h : OwK k w x m) : Gw k w w x m 0 x.p x.c := ⟨h.row, h.fl, .inl ⟨rfl, rfl⟩, Fr.refl _ _, fun g hg => h.lt hg⟩
theorem zC_add (k : Kd) (a b : Nat) (m : Int) : zC k (a + b) m = zC k a m ++ zC k b m := by unfold zC; rw [← List.replicate_append_replicate, List.flatten_append]
theorem fl_of_row {k : Kd} {w : World} {p : Option Addr} {n c : Nat} {m : Int} (h : w.ownsRow 0 k.e k.s (.slice p n c) n (zC k n m)) (hs : n ≤ 1200000) : FlK k w ⟨p, n, c⟩ m := by
 refine ⟨?_, hs⟩
 rcases h.2 with ⟨h2, h3⟩ | ⟨g, cap, cur, h2, h3⟩
 ·injection h2 with e1 e2 e3
  exact .inl ⟨e1, e2, e3⟩
 ·injection h2 with e1 e2 e3
  subst e1
  refine .inr ⟨g, rfl, lt_of_heap h3.2.1, fun i hi => ?_⟩
  exact h.cellAt i (by have := h.1; omega)
theorem Gw.next {k : Kd} {wo V V' : World} {x : Le} {m : Int} {j : Nat} {p p' : Option Addr} {c c' : Nat} (hz : ∀ m, (k.z m).length = k.s) (h : Gw k wo V x m j p c) (ho : V'.ownsRow 0 k.e k.s (.slice p' (x.n + j + 1) c') (x.n + j + 1) (zC k (x.n + j + 1) m))
  (hm : (p' = p ∧ c' = c ∧ Fr (blk p) V V') ∨ (Fr [] V V' ∧ ∀ g ∈ blk p', V.heap.size ≤ g)) : Gw k wo V' x m (j + 1) p' c' := by
 have hsv := h.fr.size
 refine ⟨ho, ⟨?_, h.fl.short⟩, ?_, ?_, h.lt⟩
 ·rcases h.fl.at_ with h1 | ⟨g, h1, h2, h3⟩
  ·exact .inl h1
  ·have hgx : g ∈ blk x.p := by rw [h1]; simp [blk]
   refine .inr ⟨g, h1, ?_, ?_⟩
   ·rcases hm with ⟨-, -, e3⟩ | ⟨e3, -⟩
    ·have := e3.size; omega
    ·have := e3.size; omega
   ·intro i hi
    rcases hm with ⟨e1, e2, e3⟩ | ⟨e3, -⟩
    ·rcases h.at_ with ⟨a1, a2⟩ | a1
     ·have o2 := ho
      rw [e1, a1, h1] at o2
      have hl := o2.1
      rw [show x.n + j + 1 = x.n + (j + 1) from rfl, zC_add] at o2 hl
      have hzl := zC_len k hz x.n m
      rw [o2.cellAt i (by rw [Nat.add_mul]; omega), List.getElem?_append_left (by omega)]
     ·rw [e3.cell (p := ⟨g, i, none⟩) h2 (fun hm => by have := a1 g hm; have := h.lt g hgx; simp at *; omega)]
      exact h3 i hi
    ·rw [e3.cell (p := ⟨g, i, none⟩) h2 (by simp)]
     exact h3 i hi
 ·rcases hm with ⟨e1, e2, -⟩ | ⟨-, e2⟩
  ·rcases h.at_ with ⟨a1, a2⟩ | a1
   ·exact .inl ⟨e1.trans a1, e2.trans a2⟩
   ·refine .inr ?_
    rw [e1]; exact a1
  ·exact .inr fun g hg => by have := e2 g hg; omega
 ·rcases hm with ⟨-, -, e3⟩ | ⟨e3, -⟩
  ·refine h.fr.trans e3 fun g hg => ?_
   rcases h.at_ with ⟨a1, -⟩ | a1
   ·exact .inl (a1 ▸ hg)
   ·exact .inr (a1 g hg)
  ·exact h.fr.trans e3 (by simp)
theorem Gw.ny {k : Kd} {wo V : World} {x : Le} {m : Int} {j : Nat} {p : Option Addr} {c : Nat} (h : Gw k wo V x m j p c) : ∀ g ∈ blk p, g ∈ blk x.p ∨ wo.heap.size ≤ g := fun g hg => by
 rcases h.at_ with ⟨a1, -⟩ | a1
 ·exact .inl (a1 ▸ hg)
 ·exact .inr (a1 g hg)
end Go.Proofs.YtklfnjlenbgmoaaDoor
namespace Go.Proofs.YtklfnjlenbgmoaaDoor
open Go.RowKit
theorem rowc {w : World} {e : TypeId} {v : Le} {xs : List Value} (h : w.ownsRow 0 e 1 v.v v.n xs) {i : Nat} (hi : i < xs.length) : ∃ g, v.p = some ⟨g, 0, none⟩ ∧ g < w.heap.size ∧ w.cell? ⟨g, i, none⟩ = xs[i]? := by
 have hl := h.1
 rcases h.2 with ⟨h2, h3⟩ | ⟨g, cap, cur, h2, h3⟩
 ·omega
 ·have e : v.p = some ⟨g, 0, none⟩ := by
   obtain ⟨p, k, c⟩ := v
   have h2' : Value.slice p k c = _ := h2
   injection h2' with h2'
  refine ⟨g, e, lt_of_heap h3.2.1, ?_⟩
  rw [h2] at h
  exact h.cellAt i (by omega)
theorem Sc.Ok.first {k : Kd} {w : World} {S : Sc} (h : S.Ok k w) {x : Le} {m : Int} {rest : List (Le × Int)} (hn : S.news = (x, m) :: rest) :
  (∃ g, S.vI.p = some ⟨g, 0, none⟩ ∧ g < w.heap.size ∧ w.cell? ⟨g, S.olds.length, none⟩ = some x.v) ∧ ∃ g, S.vK.p = some ⟨g, 0, none⟩ ∧ g < w.heap.size ∧ w.cell? ⟨g, S.olds.length, none⟩ = some (.int .i64 m) := by
 refine ⟨?_, ?_⟩
 ·obtain ⟨g, h1, h2, h3⟩ := rowc h.rI (i := S.olds.length) (by simp [Sc.Is, hn])
  refine ⟨g, h1, h2, h3.trans ?_⟩
  simp [Sc.Is, hn]
 ·obtain ⟨g, h1, h2, h3⟩ := rowc h.rK (i := S.olds.length) (by simp [Sc.Ks, hn])
  refine ⟨g, h1, h2, h3.trans ?_⟩
  simp [Sc.Ks, hn]
theorem Sc.Ok.ith {k : Kd} {w : World} {S : Sc} (h : S.Ok k w) {i : Nat} (hi : i < S.olds.length) : ∃ x y m, FlK k w x m ∧ FlK k w y m ∧
  (∃ g, S.vI.p = some ⟨g, 0, none⟩ ∧ g < w.heap.size ∧ w.cell? ⟨g, i, none⟩ = some x.v) ∧ (∃ g, S.vM.p = some ⟨g, 0, none⟩ ∧ g < w.heap.size ∧ w.cell? ⟨g, i, none⟩ = some y.v) ∧ ∃ g, S.vK.p = some ⟨g, 0, none⟩ ∧ g < w.heap.size ∧ w.cell? ⟨g, i, none⟩ = some (.int .i64 m) := by
 have hm := List.getElem_mem hi
 obtain ⟨f1, f2⟩ := h.old _ hm
 refine ⟨_, _, _, f1, f2, ?_, ?_, ?_⟩
 ·obtain ⟨g, h1, h2, h3⟩ := rowc h.rI (i := i) (by simp [Sc.Is]; omega)
  refine ⟨g, h1, h2, h3.trans ?_⟩
  simp [Sc.Is, List.getElem?_append_left, hi]
 ·obtain ⟨g, h1, h2, h3⟩ := rowc h.rM (i := i) (by simp [Sc.Ms]; omega)
  refine ⟨g, h1, h2, h3.trans ?_⟩
  simp [Sc.Ms, hi]
 ·obtain ⟨g, h1, h2, h3⟩ := rowc h.rK (i := i) (by simp [Sc.Ks]; omega)
  refine ⟨g, h1, h2, h3.trans ?_⟩
  simp [Sc.Ks, List.getElem?_append_left, hi]
section
variable {w : World} {b : Nat} {H : Hdr} {S1 S2 S3 : Sc}
theorem Bok.grow1 (h : Bok w b H S1 S2 S3) {x : Le} {m : Int} {rest : List (Le × Int)} (hn : S1.news = (x, m) :: rest) (hk : S1.olds.length + S1.news.length ≤ 8796093022000) {V : World} {p : Option Addr} {c : Nat} (hg : Gw kInts w V x m 70 p c) :
  V.cell? ⟨b, 7, none⟩ = some S1.vM.v ∧ ∃ p1 c1 w1, (Builtin.append_ #[78, 78] 78 #[S1.vM.v, .slice (some ⟨V.heap.size, 0, none⟩) 1 1]).run Tryd.prog (V.alloc (.cells #[.slice p (x.n + 70) c] 22)) = .ok (.slice p1 (S1.vM.n + 1) c1) w1 ∧
   w1.cell? ⟨b, 7, none⟩ = some S1.vM.v ∧ w1.frozen? ⟨b, 7, none⟩ = false ∧ Bok (w1.setCell ⟨b, 7, none⟩ (.slice p1 (S1.vM.n + 1) c1)) b H (S1.grown x m rest ⟨p, x.n + 70, c⟩ ⟨p1, S1.vM.n + 1, c1⟩) S2 S3 ∧ Fr (b :: S1.hot) w (w1.setCell ⟨b, 7, none⟩ (.slice p1 (S1.vM.n + 1) c1)) ∧ ∀ g ∈ (S1.grown x m rest ⟨p, x.n + 70, c⟩ ⟨p1, S1.vM.n + 1, c1⟩).all, g ∈ S1.all ∨ w.heap.size ≤ g := by
 have ok := h.ok1
 have hbl := lt_of_heap h.top
 have nM := ok.nM
 have hx : (x, m) ∈ S1.news := by rw [hn]; exact List.mem_cons_self
 have xN : ∀ g ∈ blk x.p, g ∈ S1.fresh := fun g hg => List.mem_flatMap.2 ⟨(x, m), hx, hg⟩
 have bx : b ∉ blk x.p := fun hm => h.b1 (hotAll (List.mem_append.2 (.inr (xN b hm))))
 have bM : b ∉ blk S1.vM.p := fun hm => h.b1 (hotAll (blkM hm))
 have t0 : V.heap[b]? = some (.cells #[H.o0, H.o1, H.r0, H.r1, H.ps, H.ms, S1.vI.v, S1.vM.v, S1.vK.v, S2.vI.v, S2.vM.v, S2.vK.v, S3.vI.v, S3.vM.v, S3.vK.v] 85 (0, 0)) := (hg.fr.block b hbl bx).trans h.top
 have sV := hg.fr.size
 have lM : (S1.Ms.map Le.v).length = S1.vM.n := by rw [nM]; simp [Sc.Ms]
 have oM0 : V.ownsRow 0 22 1 S1.vM.v S1.vM.n (S1.Ms.map Le.v) := ow_keep ok.rM hg.fr fun g hg hm => ok.dMN g hg (xN g hm)
 have rM : V.ownsRow 0 22 1 (.slice S1.vM.p (S1.Ms.map Le.v).length S1.vM.c) (S1.Ms.map Le.v).length (S1.Ms.map Le.v) := by rw [lM]; exact oM0
 obtain ⟨p1, c1, w1, r1, o1, mv1⟩ := push_ints V 0 S1.vM.p S1.vM.c (S1.Ms.map Le.v) (.slice p (x.n + 70) c) rM rfl (by rw [lM]; omega) (Nat.zero_le _)
 rw [lM] at r1
 have mv1' : Mv S1.vM ⟨p1, S1.vM.n + 1, c1⟩ V w1 := by
  rcases mv1 with ⟨e1, -, e3⟩ | ⟨e1, e2⟩
  ·exact .inl ⟨e1, e3⟩
  ·exact .inr ⟨e1, e2⟩
 have o1' : w1.ownsRow 0 kInts.t 1 (Le.v ⟨p1, S1.vM.n + 1, c1⟩) (S1.vM.n + 1) ((S1.Ms ++ [(⟨p, x.n + 70, c⟩ : Le)]).map Le.v) := by
  have := o1
  rw [List.length_append, lM] at this
  rw [List.map_append]
  exact this
 have t1 : w1.heap[b]? = some (.cells #[H.o0, H.o1, H.r0, H.r1, H.ps, H.ms, S1.vI.v, S1.vM.v, S1.vK.v, S2.vI.v, S2.vM.v, S2.vK.v, S3.vI.v, S3.vM.v, S3.vK.v] 85 (0, 0)) := (mv1'.fr.block b (by omega) bM).trans t0
 have F2 : Fr [b] w1 (w1.setCell ⟨b, 7, none⟩ (.slice p1 (S1.vM.n + 1) c1)) := Fr.setCell (S := [b]) w1 ⟨b, 7, none⟩ _ (by simp)
 have t3 : (w1.setCell ⟨b, 7, none⟩ (.slice p1 (S1.vM.n + 1) c1)).heap[b]? = some (.cells #[H.o0, H.o1, H.r0, H.r1, H.ps, H.ms, S1.vI.v, (.slice p1 (S1.vM.n + 1) c1), S1.vK.v, S2.vI.v, S2.vM.v, S2.vK.v, S3.vI.v, S3.vM.v, S3.vK.v] 85 (0, 0)) := by rw [set_in t1 7 _]; rfl
 have hsh := (ok.new _ hx).short
 obtain ⟨q1, q2, q3⟩ := ok.grown hn b h.b1 hbl (y := ⟨p, x.n + 70, c⟩) (vM' := ⟨p1, S1.vM.n + 1, c1⟩) hg.fr (fl_of_row hg.own (by have : x.n ≤ 1100000 := hsh; omega)) hg.fl hg.ny o1' (by rw [← nM]) mv1' F2
 have k2 : S2.Ok kWords (w1.setCell ⟨b, 7, none⟩ (.slice p1 (S1.vM.n + 1) c1)) := h.ok2.keep q2 fun g hg hm => by
  rcases List.mem_cons.1 hm with hm | hm
  ·exact h.b2 (hm ▸ hg)
  ·exact h.d12 g (hotAll hm) hg
 have e2 : ∀ g ∈ (S1.grown x m rest ⟨p, x.n + 70, c⟩ ⟨p1, S1.vM.n + 1, c1⟩).all, g ∉ S2.all := fun g hg hm => by
  rcases q3 g hg with h1 | h1
  ·exact h.d12 g h1 hm
  ·have := h.ok2.lt hm; omega
 have k3 : S3.Ok kObjs (w1.setCell ⟨b, 7, none⟩ (.slice p1 (S1.vM.n + 1) c1)) := h.ok3.keep q2 fun g hg hm => by
  rcases List.mem_cons.1 hm with hm | hm
  ·exact h.b3 (hm ▸ hg)
  ·exact h.d13 g (hotAll hm) hg
 have e3 : ∀ g ∈ (S1.grown x m rest ⟨p, x.n + 70, c⟩ ⟨p1, S1.vM.n + 1, c1⟩).all, g ∉ S3.all := fun g hg hm => by
  rcases q3 g hg with h1 | h1
  ·exact h.d13 g h1 hm
  ·have := h.ok3.lt hm; omega
 have bN : b ∉ (S1.grown x m rest ⟨p, x.n + 70, c⟩ ⟨p1, S1.vM.n + 1, c1⟩).all := fun hm => by
  rcases q3 b hm with h1 | h1
  ·exact h.b1 h1
  ·omega
 exact ⟨by rw [cell_in t0]; rfl, p1, c1, w1, r1, by rw [cell_in t1]; rfl, frozen_in t1 7, ⟨t3, q1, k2, k3, bN, h.b2, h.b3, e2, e3, h.d23⟩, q2, q3⟩
theorem Bok.grow2 (h : Bok w b H S1 S2 S3) {x : Le} {m : Int} {rest : List (Le × Int)} (hn : S2.news = (x, m) :: rest) (hk : S2.olds.length + S2.news.length ≤ 8796093022000) {V : World} {p : Option Addr} {c : Nat} (hg : Gw kWords w V x m 70 p c) :
  V.cell? ⟨b, 10, none⟩ = some S2.vM.v ∧ ∃ p1 c1 w1, (Builtin.append_ #[79, 79] 79 #[S2.vM.v, .slice (some ⟨V.heap.size, 0, none⟩) 1 1]).run Tryd.prog (V.alloc (.cells #[.slice p (x.n + 70) c] 80)) = .ok (.slice p1 (S2.vM.n + 1) c1) w1 ∧
   w1.cell? ⟨b, 10, none⟩ = some S2.vM.v ∧ w1.frozen? ⟨b, 10, none⟩ = false ∧ Bok (w1.setCell ⟨b, 10, none⟩ (.slice p1 (S2.vM.n + 1) c1)) b H S1 (S2.grown x m rest ⟨p, x.n + 70, c⟩ ⟨p1, S2.vM.n + 1, c1⟩) S3 ∧ Fr (b :: S2.hot) w (w1.setCell ⟨b, 10, none⟩ (.slice p1 (S2.vM.n + 1) c1)) ∧ ∀ g ∈ (S2.grown x m rest ⟨p, x.n + 70, c⟩ ⟨p1, S2.vM.n + 1, c1⟩).all, g ∈ S2.all ∨ w.heap.size ≤ g := by
 have ok := h.ok2
 have hbl := lt_of_heap h.top
 have nM := ok.nM
 have hx : (x, m) ∈ S2.news := by rw [hn]; exact List.mem_cons_self
 have xN : ∀ g ∈ blk x.p, g ∈ S2.fresh := fun g hg => List.mem_flatMap.2 ⟨(x, m), hx, hg⟩
 have bx : b ∉ blk x.p := fun hm => h.b2 (hotAll (List.mem_append.2 (.inr (xN b hm))))
 have bM : b ∉ blk S2.vM.p := fun hm => h.b2 (hotAll (blkM hm))
 have t0 : V.heap[b]? = some (.cells #[H.o0, H.o1, H.r0, H.r1, H.ps, H.ms, S1.vI.v, S1.vM.v, S1.vK.v, S2.vI.v, S2.vM.v, S2.vK.v, S3.vI.v, S3.vM.v, S3.vK.v] 85 (0, 0)) := (hg.fr.block b hbl bx).trans h.top
 have sV := hg.fr.size
 have lM : (S2.Ms.map Le.v).length = S2.vM.n := by rw [nM]; simp [Sc.Ms]
 have oM0 : V.ownsRow 0 80 1 S2.vM.v S2.vM.n (S2.Ms.map Le.v) := ow_keep ok.rM hg.fr fun g hg hm => ok.dMN g hg (xN g hm)
 have rM : V.ownsRow 0 80 1 (.slice S2.vM.p (S2.Ms.map Le.v).length S2.vM.c) (S2.Ms.map Le.v).length (S2.Ms.map Le.v) := by rw [lM]; exact oM0
 obtain ⟨p1, c1, w1, r1, o1, mv1⟩ := push_wordss V 0 S2.vM.p S2.vM.c (S2.Ms.map Le.v) (.slice p (x.n + 70) c) rM rfl (by rw [lM]; omega) (Nat.zero_le _)
 rw [lM] at r1
 have mv1' : Mv S2.vM ⟨p1, S2.vM.n + 1, c1⟩ V w1 := by
  rcases mv1 with ⟨e1, -, e3⟩ | ⟨e1, e2⟩
  ·exact .inl ⟨e1, e3⟩
  ·exact .inr ⟨e1, e2⟩
 have o1' : w1.ownsRow 0 kWords.t 1 (Le.v ⟨p1, S2.vM.n + 1, c1⟩) (S2.vM.n + 1) ((S2.Ms ++ [(⟨p, x.n + 70, c⟩ : Le)]).map Le.v) := by
  have := o1
  rw [List.length_append, lM] at this
  rw [List.map_append]
  exact this
 have t1 : w1.heap[b]? = some (.cells #[H.o0, H.o1, H.r0, H.r1, H.ps, H.ms, S1.vI.v, S1.vM.v, S1.vK.v, S2.vI.v, S2.vM.v, S2.vK.v, S3.vI.v, S3.vM.v, S3.vK.v] 85 (0, 0)) := (mv1'.fr.block b (by omega) bM).trans t0
 have F2 : Fr [b] w1 (w1.setCell ⟨b, 10, none⟩ (.slice p1 (S2.vM.n + 1) c1)) := Fr.setCell (S := [b]) w1 ⟨b, 10, none⟩ _ (by simp)
 have t3 : (w1.setCell ⟨b, 10, none⟩ (.slice p1 (S2.vM.n + 1) c1)).heap[b]? = some (.cells #[H.o0, H.o1, H.r0, H.r1, H.ps, H.ms, S1.vI.v, S1.vM.v, S1.vK.v, S2.vI.v, (.slice p1 (S2.vM.n + 1) c1), S2.vK.v, S3.vI.v, S3.vM.v, S3.vK.v] 85 (0, 0)) := by rw [set_in t1 10 _]; rfl
 have hsh := (ok.new _ hx).short
 obtain ⟨q1, q2, q3⟩ := ok.grown hn b h.b2 hbl (y := ⟨p, x.n + 70, c⟩) (vM' := ⟨p1, S2.vM.n + 1, c1⟩) hg.fr (fl_of_row hg.own (by have : x.n ≤ 1100000 := hsh; omega)) hg.fl hg.ny o1' (by rw [← nM]) mv1' F2
 have k1 : S1.Ok kInts (w1.setCell ⟨b, 10, none⟩ (.slice p1 (S2.vM.n + 1) c1)) := h.ok1.keep q2 fun g hg hm => by
  rcases List.mem_cons.1 hm with hm | hm
  ·exact h.b1 (hm ▸ hg)
  ·exact (fun g hg hm => h.d12 g hm hg) g (hotAll hm) hg
 have e1 : ∀ g ∈ (S2.grown x m rest ⟨p, x.n + 70, c⟩ ⟨p1, S2.vM.n + 1, c1⟩).all, g ∉ S1.all := fun g hg hm => by
  rcases q3 g hg with h1 | h1
  ·exact (fun g hg hm => h.d12 g hm hg) g h1 hm
  ·have := h.ok1.lt hm; omega
 have k3 : S3.Ok kObjs (w1.setCell ⟨b, 10, none⟩ (.slice p1 (S2.vM.n + 1) c1)) := h.ok3.keep q2 fun g hg hm => by
  rcases List.mem_cons.1 hm with hm | hm
  ·exact h.b3 (hm ▸ hg)
  ·exact h.d23 g (hotAll hm) hg
 have e3 : ∀ g ∈ (S2.grown x m rest ⟨p, x.n + 70, c⟩ ⟨p1, S2.vM.n + 1, c1⟩).all, g ∉ S3.all := fun g hg hm => by
  rcases q3 g hg with h1 | h1
  ·exact h.d23 g h1 hm
  ·have := h.ok3.lt hm; omega
 have bN : b ∉ (S2.grown x m rest ⟨p, x.n + 70, c⟩ ⟨p1, S2.vM.n + 1, c1⟩).all := fun hm => by
  rcases q3 b hm with h1 | h1
  ·exact h.b2 h1
  ·omega
 exact ⟨by rw [cell_in t0]; rfl, p1, c1, w1, r1, by rw [cell_in t1]; rfl, frozen_in t1 10, ⟨t3, k1, q1, k3, h.b1, bN, h.b3, fun g hg hm => e1 g hm hg, h.d13, e3⟩, q2, q3⟩
theorem Bok.grow3 (h : Bok w b H S1 S2 S3) {x : Le} {m : Int} {rest : List (Le × Int)} (hn : S3.news = (x, m) :: rest) (hk : S3.olds.length + S3.news.length ≤ 8796093022000) {V : World} {p : Option Addr} {c : Nat} (hg : Gw kObjs w V x m 20 p c) :
  V.cell? ⟨b, 13, none⟩ = some S3.vM.v ∧ ∃ p1 c1 w1, (Builtin.append_ #[81, 81] 81 #[S3.vM.v, .slice (some ⟨V.heap.size, 0, none⟩) 1 1]).run Tryd.prog (V.alloc (.cells #[.slice p (x.n + 20) c] 36)) = .ok (.slice p1 (S3.vM.n + 1) c1) w1 ∧
   w1.cell? ⟨b, 13, none⟩ = some S3.vM.v ∧ w1.frozen? ⟨b, 13, none⟩ = false ∧ Bok (w1.setCell ⟨b, 13, none⟩ (.slice p1 (S3.vM.n + 1) c1)) b H S1 S2 (S3.grown x m rest ⟨p, x.n + 20, c⟩ ⟨p1, S3.vM.n + 1, c1⟩) ∧ Fr (b :: S3.hot) w (w1.setCell ⟨b, 13, none⟩ (.slice p1 (S3.vM.n + 1) c1)) ∧ ∀ g ∈ (S3.grown x m rest ⟨p, x.n + 20, c⟩ ⟨p1, S3.vM.n + 1, c1⟩).all, g ∈ S3.all ∨ w.heap.size ≤ g := by
 have ok := h.ok3
 have hbl := lt_of_heap h.top
 have nM := ok.nM
 have hx : (x, m) ∈ S3.news := by rw [hn]; exact List.mem_cons_self
 have xN : ∀ g ∈ blk x.p, g ∈ S3.fresh := fun g hg => List.mem_flatMap.2 ⟨(x, m), hx, hg⟩
 have bx : b ∉ blk x.p := fun hm => h.b3 (hotAll (List.mem_append.2 (.inr (xN b hm))))
 have bM : b ∉ blk S3.vM.p := fun hm => h.b3 (hotAll (blkM hm))
 have t0 : V.heap[b]? = some (.cells #[H.o0, H.o1, H.r0, H.r1, H.ps, H.ms, S1.vI.v, S1.vM.v, S1.vK.v, S2.vI.v, S2.vM.v, S2.vK.v, S3.vI.v, S3.vM.v, S3.vK.v] 85 (0, 0)) := (hg.fr.block b hbl bx).trans h.top
 have sV := hg.fr.size
 have lM : (S3.Ms.map Le.v).length = S3.vM.n := by rw [nM]; simp [Sc.Ms]
 have oM0 : V.ownsRow 0 36 1 S3.vM.v S3.vM.n (S3.Ms.map Le.v) := ow_keep ok.rM hg.fr fun g hg hm => ok.dMN g hg (xN g hm)
 have rM : V.ownsRow 0 36 1 (.slice S3.vM.p (S3.Ms.map Le.v).length S3.vM.c) (S3.Ms.map Le.v).length (S3.Ms.map Le.v) := by rw [lM]; exact oM0
 obtain ⟨p1, c1, w1, r1, o1, mv1⟩ := push_objss V 0 S3.vM.p S3.vM.c (S3.Ms.map Le.v) (.slice p (x.n + 20) c) rM rfl (by rw [lM]; omega) (Nat.zero_le _)
 rw [lM] at r1
 have mv1' : Mv S3.vM ⟨p1, S3.vM.n + 1, c1⟩ V w1 := by
  rcases mv1 with ⟨e1, -, e3⟩ | ⟨e1, e2⟩
  ·exact .inl ⟨e1, e3⟩
  ·exact .inr ⟨e1, e2⟩
 have o1' : w1.ownsRow 0 kObjs.t 1 (Le.v ⟨p1, S3.vM.n + 1, c1⟩) (S3.vM.n + 1) ((S3.Ms ++ [(⟨p, x.n + 20, c⟩ : Le)]).map Le.v) := by
  have := o1
  rw [List.length_append, lM] at this
  rw [List.map_append]
  exact this
 have t1 : w1.heap[b]? = some (.cells #[H.o0, H.o1, H.r0, H.r1, H.ps, H.ms, S1.vI.v, S1.vM.v, S1.vK.v, S2.vI.v, S2.vM.v, S2.vK.v, S3.vI.v, S3.vM.v, S3.vK.v] 85 (0, 0)) := (mv1'.fr.block b (by omega) bM).trans t0
 have F2 : Fr [b] w1 (w1.setCell ⟨b, 13, none⟩ (.slice p1 (S3.vM.n + 1) c1)) := Fr.setCell (S := [b]) w1 ⟨b, 13, none⟩ _ (by simp)
 have t3 : (w1.setCell ⟨b, 13, none⟩ (.slice p1 (S3.vM.n + 1) c1)).heap[b]? = some (.cells #[H.o0, H.o1, H.r0, H.r1, H.ps, H.ms, S1.vI.v, S1.vM.v, S1.vK.v, S2.vI.v, S2.vM.v, S2.vK.v, S3.vI.v, (.slice p1 (S3.vM.n + 1) c1), S3.vK.v] 85 (0, 0)) := by rw [set_in t1 13 _]; rfl
 have hsh := (ok.new _ hx).short
 obtain ⟨q1, q2, q3⟩ := ok.grown hn b h.b3 hbl (y := ⟨p, x.n + 20, c⟩) (vM' := ⟨p1, S3.vM.n + 1, c1⟩) hg.fr (fl_of_row hg.own (by have : x.n ≤ 1100000 := hsh; omega)) hg.fl hg.ny o1' (by rw [← nM]) mv1' F2
 have k1 : S1.Ok kInts (w1.setCell ⟨b, 13, none⟩ (.slice p1 (S3.vM.n + 1) c1)) := h.ok1.keep q2 fun g hg hm => by
  rcases List.mem_cons.1 hm with hm | hm
  ·exact h.b1 (hm ▸ hg)
  ·exact (fun g hg hm => h.d13 g hm hg) g (hotAll hm) hg
 have e1 : ∀ g ∈ (S3.grown x m rest ⟨p, x.n + 20, c⟩ ⟨p1, S3.vM.n + 1, c1⟩).all, g ∉ S1.all := fun g hg hm => by
  rcases q3 g hg with h1 | h1
  ·exact (fun g hg hm => h.d13 g hm hg) g h1 hm
  ·have := h.ok1.lt hm; omega
 have k2 : S2.Ok kWords (w1.setCell ⟨b, 13, none⟩ (.slice p1 (S3.vM.n + 1) c1)) := h.ok2.keep q2 fun g hg hm => by
  rcases List.mem_cons.1 hm with hm | hm
  ·exact h.b2 (hm ▸ hg)
  ·exact (fun g hg hm => h.d23 g hm hg) g (hotAll hm) hg
 have e2 : ∀ g ∈ (S3.grown x m rest ⟨p, x.n + 20, c⟩ ⟨p1, S3.vM.n + 1, c1⟩).all, g ∉ S2.all := fun g hg hm => by
  rcases q3 g hg with h1 | h1
  ·exact (fun g hg hm => h.d23 g hm hg) g h1 hm
  ·have := h.ok2.lt hm; omega
 have bN : b ∉ (S3.grown x m rest ⟨p, x.n + 20, c⟩ ⟨p1, S3.vM.n + 1, c1⟩).all := fun hm => by
  rcases q3 b hm with h1 | h1
  ·exact h.b3 h1
  ·omega
 exact ⟨by rw [cell_in t0]; rfl, p1, c1, w1, r1, by rw [cell_in t1]; rfl, frozen_in t1 13, ⟨t3, k1, k2, q1, h.b1, h.b2, bN, h.d12, fun g hg hm => e1 g hm hg, fun g hg hm => e2 g hm hg⟩, q2, q3⟩
end
end Go.Proofs.YtklfnjlenbgmoaaDoor
