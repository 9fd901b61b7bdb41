import Derived.Test.YtblbjgifhgfifaaPG02NBel2
import Derived.Deep.DeepAppendWide
import Derived.Laws.AppendOwn
import Derived.Deep.RegionHeld3
namespace Go.Proofs.Ytblbjgifhgfifaa
open Go.RowKit
set_option linter.unusedVariables false
set_option linter.unusedSimpArgs false
/-- one more of any width behind a row -/
theorem pushW {t e : TypeId} {i : TypeInfo} {z : Value} {s bytes : Nat} (ht : Try.prog.underlying t = some (.slice e)) (hi : Try.prog.info? e = some i) (hz : i.zero = some z) (hsize : i.size = s) (hby : i.bytes = bytes) (hzs : z.cells.size = s) (hs0 : 0 < s)
    (w : World) (base n : Nat) (p : Option Addr) (c : Nat) (xs us : List Value) (h : w.ownsRow base e s (.slice p n c) n xs) (hu : us.length = s) (h1 : ∀ u ∈ us, u.oneCell' = true) (h63 : n + 1 ≤ maxLen) (hb : ((n + 1) + (n + 1) / 4 + 192) * bytes ≤ 281474976710656) (hB : base ≤ w.heap.size) :
    ∃ p' c' w', (Builtin.append_ #[t, t] t #[.slice p n c, .slice (some ⟨w.heap.size, 0, none⟩) 1 1]).run Try.prog (w.alloc (.cells us.toArray e)) = .ok (.slice p' (n + 1) c') w' ∧
      w'.ownsRow base e s (.slice p' (n + 1) c') (n + 1) (xs ++ us) ∧ ((p' = p ∧ c' = c ∧ Fr (blk p) w w') ∨ (Fr [] w w' ∧ ∀ g ∈ blk p', w.heap.size ≤ g)) := by
  have hA : (w.alloc (.cells us.toArray e)).heap.size = w.heap.size + 1 := by simp
  have hown : (w.alloc (.cells us.toArray e)).ownsRow base e s (.slice p n c) n xs := own_congr h (fun g hg => Below.heap_alloc _ _ _ (own_lt h g hg).2)
  have hnews : ∀ j u, us[j]? = some u → (w.alloc (.cells us.toArray e)).cell? ((⟨w.heap.size, 0, none⟩ : Addr).add j) = some u := World.news_of_block (heap_alloc_new w _)
  have hul : us.length = 1 * s := by rw [hu, Nat.one_mul]
  have hxl : xs.length = n * s := h.1
  obtain ⟨v', w', hr, h2, h3, _⟩ := run_append_own_wide (P := Try.prog) (w.alloc (.cells us.toArray e)) base t t e i z s bytes ht hi hz hsize hby hzs hs0 _ _ _ hown ⟨w.heap.size, 0, none⟩ 1 1 us hul hnews h1 h63 hb (by omega)
  rcases h.2 with ⟨e1, e2⟩ | ⟨g, c0, cur, e1, q1, q2, q3, q4, q5, q6⟩
  · injection e1 with e1 e3 e4
    subst e1
    subst e4
    subst e3
    have hr2 := run_append_nil (P := Try.prog) (w.alloc (.cells us.toArray e)) t t e i z ht hi hz ⟨w.heap.size, 0, none⟩ 1 1 us (by rw [hsize]; exact hul) hnews (by decide) (by decide) (by rw [hby]; omega)
    have hr3 := hr
    rw [hr2] at hr3
    injection hr3 with hv hw
    subst hv
    subst hw
    exact ⟨_, _, _, hr, h2, Or.inr ⟨(Fr.alloc [] w _).trans ((Fr.drew [] _).trans (Fr.alloc [] _ _) (by simp)) (by simp), fun g hg => by simp [blk] at hg; omega⟩⟩
  · injection e1 with e1 _ e4
    subst e1
    subst e4
    by_cases hroom : n + 1 ≤ c
    · have hg : (w.alloc (.cells us.toArray e)).heap[g]? = some (.cells cur e (0, 0)) := (Below.heap_alloc _ _ _ (lt_of_heap q2)).trans q2
      have hmul : n * s + s ≤ c * s := by have := Nat.mul_le_mul_right s hroom; rw [Nat.add_mul, Nat.one_mul] at this; exact this
      have hr2 := run_append_room (P := Try.prog) (w.alloc (.cells us.toArray e)) t t e i ht hi g n c cur hg ⟨w.heap.size, 0, none⟩ 1 1 us (by rw [hsize]; exact hul) hnews h1 hroom (by rw [hsize, q5, hu]; first | exact hmul | omega)
      have hr3 := hr
      rw [hr2] at hr3
      injection hr3 with hv hw
      subst hv
      refine ⟨_, _, w', hr, h2, Or.inl ⟨rfl, rfl, (Fr.alloc (blk (some ⟨g, 0, none⟩)) w _).trans (Fr.grown (S := [g]) h3 (fun k hk => ?_)) (by simp [blk])⟩⟩
      simp [Value.ownBlock] at hk
      simp [hk]
    · have holds : ∀ j u, xs[j]? = some u → (w.alloc (.cells us.toArray e)).cell? ((⟨g, 0, none⟩ : Addr).add j) = some u := hown.cells (g := g) rfl
      have hr2 := run_append_grow (P := Try.prog) (w.alloc (.cells us.toArray e)) t t e i z ht hi hz ⟨g, 0, none⟩ n c xs (by rw [hsize]; exact hxl) holds ⟨w.heap.size, 0, none⟩ 1 1 us (by rw [hsize]; exact hul) hnews (by omega) (by unfold maxLen at h63; omega) (by rw [hby]; exact growslice_fits_wide (by omega) hb)
      have hr3 := hr
      rw [hr2] at hr3
      injection hr3 with hv hw
      subst hv
      subst hw
      exact ⟨_, _, _, hr, h2, Or.inr ⟨(Fr.alloc [] w _).trans ((Fr.drew [] _).trans (Fr.alloc [] _ _) (by simp)) (by simp), fun g hg => by simp [blk] at hg; omega⟩⟩
theorem info3 : (Try.prog.info? 3).map (fun i => (i.zero, i.size, i.bytes)) = some (some (.int .i64 0), 1, 8) := by kernel_rfl
theorem info36 : (Try.prog.info? 36).map (fun i => (i.zero, i.size, i.bytes)) = some (some (.agg #[.int .i64 0, .slice none 0 0, .slice none 0 0, .slice none 0 0]), 4, 80) := by kernel_rfl
def ints (zs : List Int) : List Value := zs.map (fun z => Value.int .i64 z)
theorem ints_len (zs : List Int) : (ints zs).length = zs.length := by simp [ints]
/-- a list of numbers that can be read -/
structure RdI (w : World) (v : Value) (zs : List Int) : Prop where
  at_ : ∃ p c, v = .slice p zs.length c ∧ (0 < zs.length → ∃ g off, p = some ⟨g, off, none⟩ ∧ g < w.heap.size ∧ ∀ i, i < zs.length → w.cell? ⟨g, off + i, none⟩ = some (.int .i64 (zs.getD i 0)))
  short : zs.length ≤ 8796093022208
theorem RdI.keep {w w' : World} {v : Value} {zs : List Int} {S : List Nat} (h : RdI w v zs) (hf : Fr S w w') (hd : 0 < zs.length → ∀ g, v.ownBlock = some g → g ∉ S) : RdI w' v zs := by
  obtain ⟨p, c, e, h1⟩ := h.at_
  refine ⟨⟨p, c, e, fun hp => ?_⟩, h.short⟩
  obtain ⟨g, off, e2, h2, h3⟩ := h1 hp
  have hn := hd hp g (by rw [e, e2]; rfl)
  exact ⟨g, off, e2, by have := hf.size; omega, fun i hi => (hf.cell (p := ⟨g, off + i, none⟩) h2 hn).trans (h3 i hi)⟩
theorem RdI.idle {w w' : World} {v : Value} {zs : List Int} (h : RdI w v zs) (hf : Fr [] w w') : RdI w' v zs := h.keep hf (by simp)
theorem own_rdI {w : World} {base : Nat} {v : Value} {zs : List Int} (h : w.ownsRow base 3 1 v zs.length (ints zs)) (hs : zs.length ≤ 8796093022208) : RdI w v zs := by
  rcases h.2 with ⟨h2, h3⟩ | ⟨g, cap, cur, h2, h3, h4, h5⟩
  · exact ⟨⟨none, 0, by rw [h2, h3], fun hp => by omega⟩, hs⟩
  · refine ⟨⟨some ⟨g, 0, none⟩, cap, h2, fun hp => ⟨g, 0, rfl, lt_of_heap h4, fun i hi => ?_⟩⟩, hs⟩
    rw [h2] at h
    rw [Nat.zero_add, h.cellAt i (by omega)]
    unfold ints
    rw [List.getElem?_map, List.getD_eq_getElem?_getD, List.getElem?_eq_getElem hi]
    rfl
theorem push_int (w : World) (base : Nat) (p : Option Addr) (c : Nat) (zs : List Int) (z : Int) (h : w.ownsRow base 3 1 (.slice p zs.length c) zs.length (ints zs)) (hb : zs.length + 1 ≤ 8796093022208) (hB : base ≤ w.heap.size) :
    ∃ p' c' w', (Builtin.append_ #[34, 34] 34 #[.slice p zs.length c, .slice (some ⟨w.heap.size, 0, none⟩) 1 1]).run Try.prog (w.alloc (.cells #[.int .i64 z] 3)) = .ok (.slice p' (zs.length + 1) c') w' ∧
      w'.ownsRow base 3 1 (.slice p' (zs ++ [z]).length c') (zs ++ [z]).length (ints (zs ++ [z])) ∧ ((p' = p ∧ c' = c ∧ Fr (blk p) w w') ∨ (Fr [] w w' ∧ ∀ g ∈ blk p', w.heap.size ≤ g)) := by
  obtain ⟨i9, ii, iz, is, ib⟩ := info_parts info3
  have := push2 Try.underlying34 ii iz is ib rfl w base p c (ints zs) (.int .i64 z) (by rw [ints_len]; exact h) rfl (by rw [ints_len]; unfold maxLen; omega) (by rw [ints_len]; omega) hB
  rw [ints_len] at this
  obtain ⟨p', c', w', r1, r2, r3⟩ := this
  exact ⟨p', c', w', r1, by rw [List.length_append, show ints (zs ++ [z]) = ints zs ++ [.int .i64 z] by simp [ints]]; exact r2, r3⟩
/-- a change, and where its lists lie -/
structure Cg where
  c : Ch
  vo : Value
  vn : Value
  vf : Value
def cgCells (x : Cg) : List Value := [.int .i64 x.c.cls, x.vo, x.vn, x.vf]
def cgs (xs : List Cg) : List Value := xs.flatMap cgCells
theorem cgs_len (xs : List Cg) : (cgs xs).length = xs.length * 4 := by
  unfold cgs
  induction xs with
  | nil => rfl
  | cons x xs ih => rw [List.flatMap_cons, List.length_append, ih, List.length_cons]; show 4 + _ = _; omega
theorem cgs_snoc (xs : List Cg) (x : Cg) : cgs (xs ++ [x]) = cgs xs ++ cgCells x := by simp [cgs]
theorem cgs_at (xs : List Cg) : ∀ k (x : Cg), xs[k]? = some x → (cgs xs)[k * 4]? = some (.int .i64 x.c.cls) ∧ (cgs xs)[k * 4 + 1]? = some x.vo ∧ (cgs xs)[k * 4 + 2]? = some x.vn ∧ (cgs xs)[k * 4 + 3]? = some x.vf := by
  induction xs with
  | nil => intro k x h; simp at h
  | cons y xs ih =>
    intro k x h
    have e : cgs (y :: xs) = .int .i64 y.c.cls :: y.vo :: y.vn :: y.vf :: cgs xs := rfl
    rw [e]
    cases k with
    | zero => simp at h; subst h; exact ⟨rfl, rfl, rfl, rfl⟩
    | succ k =>
      rw [List.getElem?_cons_succ] at h
      have := ih k x h
      rw [show (k + 1) * 4 = k * 4 + 4 by omega]
      simpa using this
theorem push_cg (w : World) (base : Nat) (p : Option Addr) (c : Nat) (xs : List Cg) (x : Cg) (h : w.ownsRow base 36 4 (.slice p xs.length c) xs.length (cgs xs)) (hx : x.vo.oneCell' = true ∧ x.vn.oneCell' = true ∧ x.vf.oneCell' = true) (hb : xs.length + 1 ≤ 1099511627776) (hB : base ≤ w.heap.size) :
    ∃ p' c' w', (Builtin.append_ #[26, 26] 26 #[.slice p xs.length c, .slice (some ⟨w.heap.size, 0, none⟩) 1 1]).run Try.prog (w.alloc (.cells #[.int .i64 x.c.cls, x.vo, x.vn, x.vf] 36)) = .ok (.slice p' (xs.length + 1) c') w' ∧
      w'.ownsRow base 36 4 (.slice p' (xs ++ [x]).length c') (xs ++ [x]).length (cgs (xs ++ [x])) ∧ ((p' = p ∧ c' = c ∧ Fr (blk p) w w') ∨ (Fr [] w w' ∧ ∀ g ∈ blk p', w.heap.size ≤ g)) := by
  obtain ⟨i9, ii, iz, is, ib⟩ := info_parts info36
  obtain ⟨p', c', w', r1, r2, r3⟩ := pushW Try.underlying26 ii iz is ib rfl (by decide) w base xs.length p c (cgs xs) (cgCells x) h rfl (fun u hu => by
    unfold cgCells at hu
    simp at hu
    rcases hu with rfl | rfl | rfl | rfl
    · rfl
    · exact hx.1
    · exact hx.2.1
    · exact hx.2.2) (by unfold maxLen; omega) (by omega) hB
  exact ⟨p', c', w', r1, by rw [List.length_append, cgs_snoc]; exact r2, r3⟩
/-- a list of changes that can be read -/
structure RdH (w : World) (v : Value) (xs : List Cg) : Prop where
  at_ : ∃ p c, v = .slice p xs.length c ∧ (0 < xs.length → ∃ g off, p = some ⟨g, off, none⟩ ∧ g < w.heap.size ∧ ∀ k x, xs[k]? = some x → w.cell? ⟨g, off + k * 4, none⟩ = some (.int .i64 x.c.cls) ∧ w.cell? ⟨g, off + k * 4 + 1, none⟩ = some x.vo ∧ w.cell? ⟨g, off + k * 4 + 2, none⟩ = some x.vn ∧ w.cell? ⟨g, off + k * 4 + 3, none⟩ = some x.vf)
  old : ∀ x ∈ xs, RdS w x.vo x.c.old
  new : ∀ x ∈ xs, RdS w x.vn x.c.new
  frm : ∀ x ∈ xs, RdI w x.vf x.c.frm
  short : xs.length ≤ 1099511627776
/-- a block of a list of changes -/
def cgBlk (v : Value) (xs : List Cg) (g : Nat) : Prop := v.ownBlock = some g ∨ ∃ x ∈ xs, x.vo.ownBlock = some g ∨ x.vn.ownBlock = some g ∨ x.vf.ownBlock = some g
theorem RdH.keep {w w' : World} {v : Value} {xs : List Cg} {S : List Nat} (h : RdH w v xs) (hf : Fr S w w') (hd : ∀ g, cgBlk v xs g → g ∉ S) : RdH w' v xs := by
  obtain ⟨p, c, e, h1⟩ := h.at_
  refine ⟨⟨p, c, e, fun hp => ?_⟩, fun x hx => (h.old x hx).keep hf (fun _ g hg => hd g (.inr ⟨x, hx, .inl hg⟩)), fun x hx => (h.new x hx).keep hf (fun _ g hg => hd g (.inr ⟨x, hx, .inr (.inl hg)⟩)), fun x hx => (h.frm x hx).keep hf (fun _ g hg => hd g (.inr ⟨x, hx, .inr (.inr hg)⟩)), h.short⟩
  obtain ⟨g, off, e2, h2, h3⟩ := h1 hp
  have hn := hd g (.inl (by rw [e, e2]; rfl))
  refine ⟨g, off, e2, by have := hf.size; omega, fun k x hx => ?_⟩
  obtain ⟨a0, a1, a2, a3⟩ := h3 k x hx
  exact ⟨(hf.cell (p := ⟨g, off + k * 4, none⟩) h2 hn).trans a0, (hf.cell (p := ⟨g, off + k * 4 + 1, none⟩) h2 hn).trans a1, (hf.cell (p := ⟨g, off + k * 4 + 2, none⟩) h2 hn).trans a2, (hf.cell (p := ⟨g, off + k * 4 + 3, none⟩) h2 hn).trans a3⟩
theorem RdH.idle {w w' : World} {v : Value} {xs : List Cg} (h : RdH w v xs) (hf : Fr [] w w') : RdH w' v xs := h.keep hf (by simp)
theorem own_rdH {w : World} {base : Nat} {v : Value} {xs : List Cg} (h : w.ownsRow base 36 4 v xs.length (cgs xs)) (ho : ∀ x ∈ xs, RdS w x.vo x.c.old) (hn : ∀ x ∈ xs, RdS w x.vn x.c.new) (hf : ∀ x ∈ xs, RdI w x.vf x.c.frm) (hs : xs.length ≤ 1099511627776) : RdH w v xs := by
  refine ⟨?_, ho, hn, hf, hs⟩
  rcases h.2 with ⟨h2, h3⟩ | ⟨g, cap, cur, h2, h3, h4, h5⟩
  · exact ⟨none, 0, by rw [h2, h3], fun hp => by omega⟩
  · refine ⟨some ⟨g, 0, none⟩, cap, h2, fun hp => ⟨g, 0, rfl, lt_of_heap h4, fun k x hx => ?_⟩⟩
    rw [h2] at h
    have hk := (List.getElem?_eq_some_iff.1 hx).1
    obtain ⟨b0, b1, b2, b3⟩ := cgs_at xs k x hx
    rw [Nat.zero_add]
    exact ⟨by rw [h.cellAt _ (by omega)]; exact b0, by rw [h.cellAt _ (by omega)]; exact b1, by rw [h.cellAt _ (by omega)]; exact b2, by rw [h.cellAt _ (by omega)]; exact b3⟩
end Go.Proofs.Ytblbjgifhgfifaa
namespace Go.Proofs.Ytblbjgifhgfifaa
open Go.RowKit
set_option linter.unusedVariables false
set_option linter.unusedSimpArgs false
/-- a change that is being made, at block b -/
structure Xs (w2 wq : World) (b : Nat) (k : Int) (vo vn : Value) (pf : Option Addr) (cf : Nat) (zs : List Int) : Prop where
  top : wq.heap[b]? = some (.cells #[.int .i64 k, vo, vn, .slice pf zs.length cf] 36 (0, 0))
  row : wq.ownsRow w2.heap.size 3 1 (.slice pf zs.length cf) zs.length (ints zs)
  fr : Fr [] w2 wq
  new : w2.heap.size ≤ b
theorem Xs.cells {w2 wq : World} {b : Nat} {k : Int} {vo vn : Value} {pf : Option Addr} {cf : Nat} {zs : List Int} (h : Xs w2 wq b k vo vn pf cf zs) : wq.cell? ⟨b, 0, none⟩ = some (.int .i64 k) ∧ wq.cell? ⟨b, 1, none⟩ = some vo ∧ wq.cell? ⟨b, 2, none⟩ = some vn ∧ wq.cell? ⟨b, 3, none⟩ = some (.slice pf zs.length cf) :=
  ⟨by rw [cell_in h.top]; rfl, by rw [cell_in h.top]; rfl, by rw [cell_in h.top]; rfl, by rw [cell_in h.top]; rfl⟩
theorem Xs.apart {w2 wq : World} {b : Nat} {k : Int} {vo vn : Value} {pf : Option Addr} {cf : Nat} {zs : List Int} (h : Xs w2 wq b k vo vn pf cf zs) : b ∉ blk pf := fun hm => by
  obtain ⟨cur, hc⟩ := own_blk h.row b hm
  have := h.top
  rw [hc] at this
  simp at this
theorem Xs.step {w2 wq : World} {b : Nat} {k : Int} {vo vn : Value} {pf : Option Addr} {cf : Nat} {zs : List Int} (h : Xs w2 wq b k vo vn pf cf zs) (hs : zs.length + 1 ≤ 8796093022208) (W : World) (hW : Fr [] wq W) (z : Int) :
    ∃ p5 c5 w5, (Builtin.append_ #[34, 34] 34 #[.slice pf zs.length cf, .slice (some ⟨W.heap.size, 0, none⟩) 1 1]).run Try.prog (W.alloc (.cells #[.int .i64 z] 3)) = .ok (.slice p5 (zs.length + 1) c5) w5 ∧ (∃ x, w5.cell? ⟨b, 3, none⟩ = some x) ∧ w5.frozen? ⟨b, 3, none⟩ = false ∧ Fr (blk pf) W w5 ∧
      ∀ V, V.heap = (w5.setCell ⟨b, 3, none⟩ (.slice p5 (zs.length + 1) c5)).heap → Fr [] (w5.setCell ⟨b, 3, none⟩ (.slice p5 (zs.length + 1) c5)) V → Xs w2 V b k vo vn p5 c5 (zs ++ [z]) := by
  have hrow := own_congr (w' := W) h.row (fun g hg => hW.block g (own_lt h.row g hg).2 (by simp))
  have hW0 := h.fr.trans hW (by simp)
  obtain ⟨p5, c5, w5, r1, r2, r3⟩ := push_int W w2.heap.size pf cf zs z hrow hs hW0.size
  have hbl := lt_of_heap h.top
  have hbW : W.heap[b]? = _ := (hW.block b hbl (by simp)).trans h.top
  have f5 : Fr (blk pf) W w5 := by
    rcases r3 with ⟨_, _, f⟩ | ⟨f, _⟩
    · exact f
    · exact f.mono (by simp)
  have hb5 : w5.heap[b]? = _ := (f5.block b (lt_of_heap hbW) h.apart).trans hbW
  have hr5 : b ∉ blk p5 := fun hm => by
    obtain ⟨cur, hc⟩ := own_blk r2 b hm
    rw [hc] at hb5
    simp at hb5
  refine ⟨p5, c5, w5, r1, ⟨_, by rw [cell_in hb5]; rfl⟩, frozen_in hb5 3, f5, fun V hV hfV => ⟨?_, ?_, ?_, h.new⟩⟩
  · rw [hV, set_in hb5]
    simp
  · refine own_congr r2 (fun g hg => ?_)
    rw [hV]
    exact Below.heap_setCell _ _ _ _ (fun e => hr5 (by subst e; exact (blk_own _ _ _ _).1 hg))
  · have f6 : Fr [] w2 w5 := hW0.trans f5 (fun g hg => Or.inr (own_lt hrow g ((blk_own _ _ _ _).2 hg)).1)
    exact (f6.trans (Fr.setCell (S := [b]) w5 ⟨b, 3, none⟩ _ (by simp)) (fun g hg => by simp at hg; subst hg; exact Or.inr h.new)).trans hfV (by simp)
end Go.Proofs.Ytblbjgifhgfifaa
namespace Go.Proofs.Ytblbjgifhgfifaa
open Go.RowKit
set_option linter.unusedVariables false
set_option linter.unusedSimpArgs false
/-- what a Make leaves: a list of changes that can be read, all of it new -/
def MkOut (w w' : World) (vr : Value) (cs : List Ch) : Prop := ∃ xs, RdH w' vr xs ∧ xs.map Cg.c = cs ∧ Fr [] w w' ∧ ∀ g, cgBlk vr xs g → w.heap.size ≤ g
theorem mkOut_nil {w w' : World} (h : Fr [] w w') : MkOut w w' (.slice none 0 0) [] := by
  refine ⟨[], ⟨⟨none, 0, rfl, fun hp => by simp at hp⟩, by simp, by simp, by simp, by simp⟩, rfl, h, fun g hg => ?_⟩
  rcases hg with hg | ⟨x, hx, _⟩
  · cases hg
  · cases hx
/-- the changes, while they are made -/
structure Out (w1 wr : World) (p : Option Addr) (c : Nat) (xs : List Cg) : Prop where
  row : wr.ownsRow w1.heap.size 36 4 (.slice p xs.length c) xs.length (cgs xs)
  fr : Fr [] w1 wr
  rd : ∀ x ∈ xs, RdS wr x.vo x.c.old ∧ RdS wr x.vn x.c.new ∧ RdI wr x.vf x.c.frm
  sep : ∀ x ∈ xs, ∀ g, x.vo.ownBlock = some g ∨ x.vn.ownBlock = some g ∨ x.vf.ownBlock = some g → w1.heap.size ≤ g ∧ g < wr.heap.size ∧ g ∉ blk p
theorem out_nil (w : World) : Out w w none 0 [] := ⟨World.ownsRow_nil _ _ _ _, Fr.refl _ _, by simp, by simp⟩
theorem Out.idle {w1 wr W : World} {p : Option Addr} {c : Nat} {xs : List Cg} (h : Out w1 wr p c xs) (hf : Fr [] wr W) : Out w1 W p c xs :=
  ⟨own_congr h.row (fun g hg => hf.block g (own_lt h.row g hg).2 (by simp)), h.fr.trans hf (by simp), fun x hx => ⟨(h.rd x hx).1.idle hf, (h.rd x hx).2.1.idle hf, (h.rd x hx).2.2.idle hf⟩, fun x hx g hg => by
    obtain ⟨q1, q2, q3⟩ := h.sep x hx g hg
    exact ⟨q1, by have := hf.size; omega, q3⟩⟩
theorem Out.push {w1 wr : World} {p : Option Addr} {c : Nat} {xs : List Cg} (h : Out w1 wr p c xs) (x : Cg) (hl : xs.length + 1 ≤ 1099511627776) (hrd : RdS wr x.vo x.c.old ∧ RdS wr x.vn x.c.new ∧ RdI wr x.vf x.c.frm)
    (hs : ∀ g, x.vo.ownBlock = some g ∨ x.vn.ownBlock = some g ∨ x.vf.ownBlock = some g → w1.heap.size ≤ g ∧ g < wr.heap.size ∧ g ∉ blk p) :
    ∃ p' c' w', (Builtin.append_ #[26, 26] 26 #[.slice p xs.length c, .slice (some ⟨wr.heap.size, 0, none⟩) 1 1]).run Try.prog (wr.alloc (.cells #[.int .i64 x.c.cls, x.vo, x.vn, x.vf] 36)) = .ok (.slice p' (xs.length + 1) c') w' ∧ Out w1 w' p' c' (xs ++ [x]) := by
  have hone : x.vo.oneCell' = true ∧ x.vn.oneCell' = true ∧ x.vf.oneCell' = true := by
    obtain ⟨p1, c1, e1, _⟩ := hrd.1.at_
    obtain ⟨p2, c2, e2, _⟩ := hrd.2.1.at_
    obtain ⟨p3, c3, e3, _⟩ := hrd.2.2.at_
    rw [e1, e2, e3]; exact ⟨rfl, rfl, rfl⟩
  obtain ⟨p', c', w', r1, r2, r3⟩ := push_cg wr w1.heap.size p c xs x h.row hone hl h.fr.size
  have f5 : Fr (blk p) wr w' := by
    rcases r3 with ⟨_, _, f⟩ | ⟨f, _⟩
    · exact f
    · exact f.mono (by simp)
  have all : ∀ y ∈ xs ++ [x], (RdS wr y.vo y.c.old ∧ RdS wr y.vn y.c.new ∧ RdI wr y.vf y.c.frm) ∧ ∀ g, y.vo.ownBlock = some g ∨ y.vn.ownBlock = some g ∨ y.vf.ownBlock = some g → w1.heap.size ≤ g ∧ g < wr.heap.size ∧ g ∉ blk p := fun y hy => by
    rcases List.mem_append.1 hy with hy | hy
    · exact ⟨h.rd y hy, h.sep y hy⟩
    · rw [List.mem_singleton] at hy; subst hy; exact ⟨hrd, hs⟩
  refine ⟨p', c', w', r1, r2, h.fr.trans f5 (fun g hg => Or.inr (own_lt h.row g ((blk_own _ _ _ _).2 hg)).1), fun y hy => ?_, fun y hy g hg => ?_⟩
  · obtain ⟨q, s⟩ := all y hy
    exact ⟨q.1.keep f5 (fun _ g hg => (s g (.inl hg)).2.2), q.2.1.keep f5 (fun _ g hg => (s g (.inr (.inl hg))).2.2), q.2.2.keep f5 (fun _ g hg => (s g (.inr (.inr hg))).2.2)⟩
  · obtain ⟨q1, q2, q3⟩ := (all y hy).2 g hg
    refine ⟨q1, by have := f5.size; omega, ?_⟩
    rcases r3 with ⟨e, _, _⟩ | ⟨_, hn⟩
    · rw [e]; exact q3
    · intro hm; have := hn g hm; omega
theorem Out.end_ {w w1 wr : World} {p : Option Addr} {c : Nat} {xs : List Cg} (h : Out w1 wr p c xs) (hf : Fr [] w w1) (hl : xs.length ≤ 1099511627776) : MkOut w wr (.slice p xs.length c) (xs.map Cg.c) := by
  refine ⟨xs, own_rdH h.row (fun x hx => (h.rd x hx).1) (fun x hx => (h.rd x hx).2.1) (fun x hx => (h.rd x hx).2.2) hl, rfl, hf.trans h.fr (by simp), fun g hg => ?_⟩
  have hz := hf.size
  rcases hg with hg | ⟨x, hx, hg⟩
  · have := (own_lt h.row g hg).1; omega
  · have := (h.sep x hx g hg).1; omega
theorem affected_top (l : List Cl) (top : Nat) : affected l top top = [] := by unfold affected; rw [Nat.sub_self]; rfl
theorem affected_snoc (l : List Cl) (top c : Nat) (h : top ≤ c) : affected l top (c + 1) = affected l top c ++ (if under l c top then [c] else []) := by
  unfold affected
  rw [show c + 1 - top = (c - top) + 1 by omega, List.range'_concat, List.filter_append, Nat.one_mul, show top + (c - top) = c by omega]
  congr 1
  rw [List.filter_cons]
  cases under l c top <;> simp
theorem affected_len (l : List Cl) (top n : Nat) : (affected l top n).length ≤ n - top := by
  unfold affected
  have := List.length_filter_le (fun c => under l c top) (List.range' top (n - top))
  rw [List.length_range'] at this
  exact this
theorem change_eq (l : List Cl) (top : Nat) (own : List ByteArray) (c : Nat) : change l top own c = ⟨(c : Int) + 1, fields l none [] c, fields l (some top) own c, (fields l (some top) own c).map (amongZ (fields l none [] c))⟩ := rfl
theorem takeZ_snoc {zs : List ByteArray} {i : Nat} (f : ByteArray → Int) (hi : i < zs.length) : (zs.take i).map f ++ [f (zs.getD i ⟨#[]⟩)] = (zs.take (i + 1)).map f := by
  rw [← take_snoc hi, List.map_append]; rfl

set_option maxRecDepth 20000 in
set_option maxHeartbeats 2000000 in
theorem rMake_bad (l : List Cl) (kernel : Int) (name : ByteArray) (own : List ByteArray) (v ov : Value) (w : World) (h : RdC w v l) (hs : Small l) (hm : madeB l = false) :
    Calls Try.prog 12 #[v, .int .i64 kernel, .string name, ov] w fun e w' => ∃ vr, e = .returned (.tuple #[vr, .int .i64 (makeP l kernel name own).2]) ∧ MkOut w w' vr (makeP l kernel name own).1 := by
  have hP : makeP l kernel name own = ([], 1) := by
    unfold makeP; rw [if_pos (Or.inl hm)]
  rw [hP]
  clear hP
  have HMd := mkHid (rMade_ok l v w h hs)
  rw [hm] at HMd
  have HAt : Hid (∀ (W : World), Fr [] w W → ∀ (n : Nat) (s : ByteArray), n ≤ l.length → Calls Try.prog 30 #[v, .int .i64 n, .string s] W fun e w' => e = .returned (.int .i64 (atZ l n s)) ∧ w' = W) := mkHid (fun W hW n s hn => rAt_ok l n s v W (h.idle hW) hn)
  obtain ⟨p, c0, rfl, h1⟩ := h.at_
  have s1 := h.short
  clear h h1 hs
  clear HAt hm
  go_enter Try.func12, Try.ntmps12
  go_wp2_with (first | (go_at_call 29; refine HMd.out.mono ?_; rintro e w1 ⟨rfl, f1⟩))
  refine bodyPost_ret (results_tmp2 rfl _ _ _) rfl ?_
  exact ⟨_, rfl, mkOut_nil f1⟩

set_option maxRecDepth 20000 in
set_option maxHeartbeats 2000000 in
theorem rMake_neg (l : List Cl) (kernel : Int) (name : ByteArray) (own : List ByteArray) (v ov : Value) (w : World) (h : RdC w v l) (hs : Small l) (hm : madeB l = true) (hk : kernel < 0) :
    Calls Try.prog 12 #[v, .int .i64 kernel, .string name, ov] w fun e w' => ∃ vr, e = .returned (.tuple #[vr, .int .i64 (makeP l kernel name own).2]) ∧ MkOut w w' vr (makeP l kernel name own).1 := by
  have hP : makeP l kernel name own = ([], 1) := by
    unfold makeP; rw [if_pos (Or.inr (Or.inl hk))]
  rw [hP]
  clear hP
  have HMd := mkHid (rMade_ok l v w h hs)
  rw [hm] at HMd
  have HAt : Hid (∀ (W : World), Fr [] w W → ∀ (n : Nat) (s : ByteArray), n ≤ l.length → Calls Try.prog 30 #[v, .int .i64 n, .string s] W fun e w' => e = .returned (.int .i64 (atZ l n s)) ∧ w' = W) := mkHid (fun W hW n s hn => rAt_ok l n s v W (h.idle hW) hn)
  obtain ⟨p, c0, rfl, h1⟩ := h.at_
  have s1 := h.short
  clear h h1 hs
  clear HAt hm
  go_enter Try.func12, Try.ntmps12
  go_wp2_with (first | (go_at_call 29; refine HMd.out.mono ?_; rintro e w1 ⟨rfl, f1⟩))
  refine bodyPost_ret (results_tmp2 rfl _ _ _) rfl ?_
  exact ⟨_, rfl, mkOut_nil f1⟩

set_option maxRecDepth 20000 in
set_option maxHeartbeats 2000000 in
theorem rMake_great (l : List Cl) (kernel : Int) (name : ByteArray) (own : List ByteArray) (v ov : Value) (w : World) (h : RdC w v l) (hs : Small l) (hm : madeB l = true) (hk : ¬ kernel < 0) (hk2 : (l.length : Int) < kernel) :
    Calls Try.prog 12 #[v, .int .i64 kernel, .string name, ov] w fun e w' => ∃ vr, e = .returned (.tuple #[vr, .int .i64 (makeP l kernel name own).2]) ∧ MkOut w w' vr (makeP l kernel name own).1 := by
  have hP : makeP l kernel name own = ([], 1) := by
    unfold makeP; rw [if_pos (Or.inr (Or.inr hk2))]
  rw [hP]
  clear hP
  have HMd := mkHid (rMade_ok l v w h hs)
  rw [hm] at HMd
  have HAt : Hid (∀ (W : World), Fr [] w W → ∀ (n : Nat) (s : ByteArray), n ≤ l.length → Calls Try.prog 30 #[v, .int .i64 n, .string s] W fun e w' => e = .returned (.int .i64 (atZ l n s)) ∧ w' = W) := mkHid (fun W hW n s hn => rAt_ok l n s v W (h.idle hW) hn)
  obtain ⟨p, c0, rfl, h1⟩ := h.at_
  have s1 := h.short
  clear h h1 hs
  clear HAt hm
  go_enter Try.func12, Try.ntmps12
  go_wp2_with (first | (go_at_call 29; refine HMd.out.mono ?_; rintro e w1 ⟨rfl, f1⟩))
  refine bodyPost_ret (results_tmp2 rfl _ _ _) rfl ?_
  exact ⟨_, rfl, mkOut_nil f1⟩

set_option maxRecDepth 20000 in
set_option maxHeartbeats 2000000 in
theorem rMake_none (l : List Cl) (kernel : Int) (name : ByteArray) (own : List ByteArray) (v ov : Value) (w : World) (h : RdC w v l) (hs : Small l) (hm : madeB l = true) (hk : ¬ kernel < 0) (hk2 : ¬ (l.length : Int) < kernel) (ha : atN l l.length name = none) :
    Calls Try.prog 12 #[v, .int .i64 kernel, .string name, ov] w fun e w' => ∃ vr, e = .returned (.tuple #[vr, .int .i64 (makeP l kernel name own).2]) ∧ MkOut w w' vr (makeP l kernel name own).1 := by
  have hP : makeP l kernel name own = ([], 130) := by
    unfold makeP; rw [if_neg (by rw [hm]; simp [hk, hk2]), ha]
  rw [hP]
  clear hP
  have HMd := mkHid (rMade_ok l v w h hs)
  rw [hm] at HMd
  have HAt : Hid (∀ (W : World), Fr [] w W → ∀ (n : Nat) (s : ByteArray), n ≤ l.length → Calls Try.prog 30 #[v, .int .i64 n, .string s] W fun e w' => e = .returned (.int .i64 (atZ l n s)) ∧ w' = W) := mkHid (fun W hW n s hn => rAt_ok l n s v W (h.idle hW) hn)
  obtain ⟨p, c0, rfl, h1⟩ := h.at_
  have s1 := h.short
  clear h h1 hs
  have HC : Hid (∀ W, Fr [] w W → Calls Try.prog 30 #[.slice p l.length c0, .int .i64 l.length, .string name] W fun e w' => e = .returned (.int .i64 (-1)) ∧ w' = W) := mkHid (fun W hW => by have := HAt.out W hW l.length name (Nat.le_refl _); unfold atZ at this; rw [ha] at this; exact this)
  clear HAt hm ha
  go_enter Try.func12, Try.ntmps12
  go_wp2_with (first | (go_at_call 29; refine HMd.out.mono ?_; rintro e w1 ⟨rfl, f1⟩) | (go_at_call 30; refine (HC.out _ f1).mono ?_; rintro e w2 ⟨rfl, rfl⟩))
  refine bodyPost_ret (results_tmp2 rfl _ _ _) rfl ?_
  exact ⟨_, rfl, mkOut_nil f1⟩

set_option maxRecDepth 20000 in
set_option maxHeartbeats 2000000 in
theorem rMake_kern (l : List Cl) (kernel : Int) (name : ByteArray) (own : List ByteArray) (v ov : Value) (w : World) (h : RdC w v l) (hs : Small l) (hm : madeB l = true) (hk : ¬ kernel < 0) (hk2 : ¬ (l.length : Int) < kernel) (top : Nat) (ha : atN l l.length name = some top) (hk3 : (top : Int) < kernel) :
    Calls Try.prog 12 #[v, .int .i64 kernel, .string name, ov] w fun e w' => ∃ vr, e = .returned (.tuple #[vr, .int .i64 (makeP l kernel name own).2]) ∧ MkOut w w' vr (makeP l kernel name own).1 := by
  have hP : makeP l kernel name own = ([], 132) := by
    unfold makeP; rw [if_neg (by rw [hm]; simp [hk, hk2]), ha]; show (if (top : Int) < kernel then _ else _) = _; rw [if_pos hk3]
  rw [hP]
  clear hP
  have HMd := mkHid (rMade_ok l v w h hs)
  rw [hm] at HMd
  have HAt : Hid (∀ (W : World), Fr [] w W → ∀ (n : Nat) (s : ByteArray), n ≤ l.length → Calls Try.prog 30 #[v, .int .i64 n, .string s] W fun e w' => e = .returned (.int .i64 (atZ l n s)) ∧ w' = W) := mkHid (fun W hW n s hn => rAt_ok l n s v W (h.idle hW) hn)
  obtain ⟨p, c0, rfl, h1⟩ := h.at_
  have s1 := h.short
  clear h h1 hs
  have HC : Hid (∀ W, Fr [] w W → Calls Try.prog 30 #[.slice p l.length c0, .int .i64 l.length, .string name] W fun e w' => e = .returned (.int .i64 (top : Int)) ∧ w' = W) := mkHid (fun W hW => by have := HAt.out W hW l.length name (Nat.le_refl _); unfold atZ at this; rw [ha] at this; exact this)
  have t0 : ¬ (top : Int) < 0 := by omega
  clear HAt hm ha
  go_enter Try.func12, Try.ntmps12
  go_wp2_with (first | (go_at_call 29; refine HMd.out.mono ?_; rintro e w1 ⟨rfl, f1⟩) | (go_at_call 30; refine (HC.out _ f1).mono ?_; rintro e w2 ⟨rfl, rfl⟩))
  refine bodyPost_ret (results_tmp2 rfl _ _ _) rfl ?_
  exact ⟨_, rfl, mkOut_nil f1⟩

end Go.Proofs.Ytblbjgifhgfifaa
