import Derived.Test.YtblbjgifhgfifaaPG13NTl
import Derived.Test.YtblbjgifhgfifaaPNLast
namespace Go.Proofs.Ytblbjgifhgfifaa
open Go.RowKit
set_option linter.unusedVariables false
set_option linter.unusedSimpArgs false
/-- what is handed in, while it is made, at block b: the classes so far, and the marked lists so far -/
structure HS (w0 w : World) (b : Nat) (l : List Cl) (pF : Option Addr) (cF : Nat) (pO : Option Addr) (cO : Nat) (k : List Cl) (vs : List Value) : Prop where
  top : w.heap[b]? = some (.cells #[.slice none 0 0, .slice pF k.length cF, .slice pO vs.length cO] 54 (0, 0))
  full : w.ownsRow w0.heap.size 47 4 (.slice pF k.length cF) k.length (clss k)
  own : w.ownsRow w0.heap.size 24 1 (.slice pO vs.length cO) vs.length vs
  fr : Fr [] w0 w
  new : w0.heap.size ≤ b
  each : ∀ m, m < vs.length → ∃ p c, vs[m]? = some (.slice p ((clAt l m).own.length + 8) c) ∧ RdS w (.slice p ((clAt l m).own.length + 8) c) (marks (clAt l m).own 8) ∧ (∀ g ∈ blk p, ∃ cur, w.heap[g]? = some (.cells cur 9 (0, 0))) ∧ (m < k.length → clAt k m = ⟨(clAt l m).name, (clAt l m).sup, (clAt l m).own, (clAt l m).lay, .slice p (clAt l m).own.length c⟩)
theorem blk_type {w : World} {g : Nat} {c1 c2 : Array Value} {t1 t2 : TypeId} (h : w.heap[g]? = some (.cells c1 t1 (0, 0))) (k : w.heap[g]? = some (.cells c2 t2 (0, 0))) : t1 = t2 := by
  rw [h] at k; injection k with k; injection k
theorem HS.idle {w0 w V : World} {b : Nat} {l : List Cl} {pF : Option Addr} {cF : Nat} {pO : Option Addr} {cO : Nat} {k : List Cl} {vs : List Value} (h : HS w0 w b l pF cF pO cO k vs) (hf : Fr [] w V) : HS w0 V b l pF cF pO cO k vs :=
  ⟨(hf.block b (lt_of_heap h.top) (by simp)).trans h.top, own_congr h.full (fun g hg => hf.block g (own_lt h.full g hg).2 (by simp)), own_congr h.own (fun g hg => hf.block g (own_lt h.own g hg).2 (by simp)), h.fr.trans hf (by simp), h.new, fun m hm => by
    obtain ⟨p, c, q1, q2, q3, q4⟩ := h.each m hm
    exact ⟨p, c, q1, q2.idle hf, fun g hg => by obtain ⟨cur, hc⟩ := q3 g hg; exact ⟨cur, (hf.block g (lt_of_heap hc) (by simp)).trans hc⟩, q4⟩⟩
/-- a marked list more -/
theorem HS.pushO {w0 w : World} {b : Nat} {l : List Cl} {pF : Option Addr} {cF : Nat} {pO : Option Addr} {cO : Nat} {k : List Cl} {vs : List Value} (h : HS w0 w b l pF cF pO cO k vs) (hkv : k.length = vs.length) (hs : vs.length + 1 ≤ 1048576) (p : Option Addr) (c : Nat)
    (hr : RdS w (.slice p ((clAt l vs.length).own.length + 8) c) (marks (clAt l vs.length).own 8)) (ht : ∀ g ∈ blk p, ∃ cur, w.heap[g]? = some (.cells cur 9 (0, 0))) :
    ∃ p1 c1 w1, (Builtin.append_ #[33, 33] 33 #[.slice pO vs.length cO, .slice (some ⟨w.heap.size, 0, none⟩) 1 1]).run Try.prog (w.alloc (.cells #[.slice p ((clAt l vs.length).own.length + 8) c] 24)) = .ok (.slice p1 (vs.length + 1) c1) w1 ∧ (∃ x, w1.cell? ⟨b, 2, none⟩ = some x) ∧ w1.frozen? ⟨b, 2, none⟩ = false ∧ Fr (blk pO) w w1 ∧
      HS w0 (w1.setCell ⟨b, 2, none⟩ (.slice p1 (vs.length + 1) c1)) b l pF cF p1 c1 k (vs ++ [.slice p ((clAt l vs.length).own.length + 8) c]) := by
  obtain ⟨p1, c1, w1, r1, r2, r3⟩ := push_list w w0.heap.size pO cO vs (.slice p ((clAt l vs.length).own.length + 8) c) h.own rfl (by omega) h.fr.size
  have f : Fr (blk pO) w w1 := by
    rcases r3 with ⟨_, _, f⟩ | ⟨f, _⟩
    · exact f
    · exact f.mono (by simp)
  have tO : ∀ g ∈ blk pO, ∃ cur, w.heap[g]? = some (.cells cur 24 (0, 0)) := fun g hg => own_blk h.own g hg
  have hb : b ∉ blk pO := fun hm => by obtain ⟨cur, hc⟩ := tO b hm; have := blk_type hc h.top; simp at this
  have hF : ∀ g ∈ blk pF, g ∉ blk pO := fun g hg hm => by
    obtain ⟨c1', h1⟩ := own_blk h.full g hg
    obtain ⟨c2', h2⟩ := tO g hm
    have := blk_type h1 h2; simp at this
  have hT : ∀ g : Nat, (∃ cur, w.heap[g]? = some (.cells cur 9 (0, 0))) → g ∉ blk pO := fun g ⟨c1', h1⟩ hm => by
    obtain ⟨c2', h2⟩ := tO g hm
    have := blk_type h1 h2; simp at this
  have hb1 : w1.heap[b]? = _ := (f.block b (lt_of_heap h.top) hb).trans h.top
  have fs : Fr [b] w1 (w1.setCell ⟨b, 2, none⟩ (.slice p1 (vs.length + 1) c1)) := Fr.setCell (S := [b]) w1 ⟨b, 2, none⟩ _ (by simp)
  have keepT : ∀ g : Nat, (∃ cur, w.heap[g]? = some (.cells cur 9 (0, 0))) → (w1.setCell ⟨b, 2, none⟩ (.slice p1 (vs.length + 1) c1)).heap[g]? = w.heap[g]? := fun g hg => by
    obtain ⟨cur, hc⟩ := hg
    have h1 := f.block g (lt_of_heap hc) (hT g ⟨cur, hc⟩)
    rw [fs.block g (by have := f.size; have := lt_of_heap hc; omega) (fun hm => by
      simp at hm; subst hm; have := blk_type hc h.top; simp at this), h1]
  have keepR : ∀ (q : Option Addr) (n cc : Nat) (ss : List ByteArray), RdS w (.slice q n cc) ss → (∀ g ∈ blk q, ∃ cur, w.heap[g]? = some (.cells cur 9 (0, 0))) → RdS (w1.setCell ⟨b, 2, none⟩ (.slice p1 (vs.length + 1) c1)) (.slice q n cc) ss := fun q n cc ss hr ht => by
    refine (hr.keep f (fun _ g hg => hT g (ht g ((blk_own _ _ _ _).1 hg)))).keep fs (fun _ g hg hm => ?_)
    simp at hm
    subst hm
    obtain ⟨cur, hc⟩ := ht g ((blk_own _ _ _ _).1 hg)
    have := blk_type hc h.top; simp at this
  have hb2 : b ∉ blk p1 := fun hm => by
    obtain ⟨cur, hc⟩ := own_blk r2 b hm
    have := blk_type hc hb1; simp at this
  refine ⟨p1, c1, w1, r1, ⟨_, by rw [cell_in hb1]; rfl⟩, frozen_in hb1 2, f, ?_, ?_, ?_, ?_, h.new, fun m hm => ?_⟩
  · rw [set_in hb1, List.length_append]; rfl
  · refine own_congr h.full (fun g hg => ?_)
    have hgF := (blk_own _ _ _ _).1 hg
    rw [fs.block g (by have := f.size; have := (own_lt h.full g hg).2; omega) (fun hm => by
      simp at hm; subst hm; obtain ⟨cur, hc⟩ := own_blk h.full g hgF; have := blk_type hc h.top; simp at this)]
    exact f.block g (own_lt h.full g hg).2 (hF g hgF)
  · refine own_congr r2 (fun g hg => fs.block g (own_lt r2 g hg).2 (fun hm => ?_))
    simp at hm; subst hm; exact hb2 ((blk_own _ _ _ _).1 hg)
  · exact (h.fr.trans f (fun g hg => Or.inr (own_lt h.own g ((blk_own _ _ _ _).2 hg)).1)).trans fs (fun g hg => by simp at hg; subst hg; exact Or.inr h.new)
  · rw [List.length_append] at hm
    by_cases e : m < vs.length
    · obtain ⟨q, cc, q1, q2, q3, q4⟩ := h.each m e
      refine ⟨q, cc, by rw [List.getElem?_append_left e]; exact q1, keepR q _ cc _ q2 q3, fun g hg => ?_, q4⟩
      obtain ⟨cur, hc⟩ := q3 g hg
      exact ⟨cur, (keepT g ⟨cur, hc⟩).trans hc⟩
    · have e2 : m = vs.length := by simp at hm; omega
      subst e2
      refine ⟨p, c, by rw [List.getElem?_append_right (Nat.le_refl _)]; simp, keepR p _ c _ hr ht, fun g hg => ?_, fun hk => by omega⟩
      obtain ⟨cur, hc⟩ := ht g hg
      exact ⟨cur, (keepT g ⟨cur, hc⟩).trans hc⟩
/-- a class more -/
theorem HS.pushF {w0 w : World} {b : Nat} {l : List Cl} {pF : Option Addr} {cF : Nat} {pO : Option Addr} {cO : Nat} {k : List Cl} {vs : List Value} (h : HS w0 w b l pF cF pO cO k vs) (hs : k.length + 1 ≤ 1099511627776) (x : Cl) (hx1 : x.v.oneCell' = true) (hx : k.length < vs.length → ∀ p c, vs[k.length]? = some (.slice p ((clAt l k.length).own.length + 8) c) → x = ⟨(clAt l k.length).name, (clAt l k.length).sup, (clAt l k.length).own, (clAt l k.length).lay, .slice p (clAt l k.length).own.length c⟩) :
    ∃ p1 c1 w1, (Builtin.append_ #[23, 23] 23 #[.slice pF k.length cF, .slice (some ⟨w.heap.size, 0, none⟩) 1 1]).run Try.prog (w.alloc (.cells #[.string x.name, .string x.sup, x.v, .int .i64 x.lay] 47)) = .ok (.slice p1 (k.length + 1) c1) w1 ∧ (∃ y, w1.cell? ⟨b, 1, none⟩ = some y) ∧ w1.frozen? ⟨b, 1, none⟩ = false ∧ Fr (blk pF) w w1 ∧
      ∀ V, V.heap = (w1.setCell ⟨b, 1, none⟩ (.slice p1 (k.length + 1) c1)).heap → Fr [] (w1.setCell ⟨b, 1, none⟩ (.slice p1 (k.length + 1) c1)) V → HS w0 V b l p1 c1 pO cO (k ++ [x]) vs := by
  obtain ⟨p1, c1, w1, r1, r2, r3⟩ := push_cl w w0.heap.size pF cF k x h.full hx1 hs h.fr.size
  have f : Fr (blk pF) w w1 := by
    rcases r3 with ⟨_, _, f⟩ | ⟨f, _⟩
    · exact f
    · exact f.mono (by simp)
  have tO : ∀ g ∈ blk pF, ∃ cur, w.heap[g]? = some (.cells cur 47 (0, 0)) := fun g hg => own_blk h.full g hg
  have hb : b ∉ blk pF := fun hm => by obtain ⟨cur, hc⟩ := tO b hm; have := blk_type hc h.top; simp at this
  have hF : ∀ g ∈ blk pO, g ∉ blk pF := fun g hg hm => by
    obtain ⟨c1', h1⟩ := own_blk h.own g hg
    obtain ⟨c2', h2⟩ := tO g hm
    have := blk_type h1 h2; simp at this
  have hT : ∀ g : Nat, (∃ cur, w.heap[g]? = some (.cells cur 9 (0, 0))) → g ∉ blk pF := fun g ⟨c1', h1⟩ hm => by
    obtain ⟨c2', h2⟩ := tO g hm
    have := blk_type h1 h2; simp at this
  have hb1 : w1.heap[b]? = _ := (f.block b (lt_of_heap h.top) hb).trans h.top
  have fs : Fr [b] w1 (w1.setCell ⟨b, 1, none⟩ (.slice p1 (k.length + 1) c1)) := Fr.setCell (S := [b]) w1 ⟨b, 1, none⟩ _ (by simp)
  have keepT : ∀ g : Nat, (∃ cur, w.heap[g]? = some (.cells cur 9 (0, 0))) → (w1.setCell ⟨b, 1, none⟩ (.slice p1 (k.length + 1) c1)).heap[g]? = w.heap[g]? := fun g hg => by
    obtain ⟨cur, hc⟩ := hg
    have h1 := f.block g (lt_of_heap hc) (hT g ⟨cur, hc⟩)
    rw [fs.block g (by have := f.size; have := lt_of_heap hc; omega) (fun hm => by
      simp at hm; subst hm; have := blk_type hc h.top; simp at this), h1]
  have keepR : ∀ (q : Option Addr) (n cc : Nat) (ss : List ByteArray), RdS w (.slice q n cc) ss → (∀ g ∈ blk q, ∃ cur, w.heap[g]? = some (.cells cur 9 (0, 0))) → RdS (w1.setCell ⟨b, 1, none⟩ (.slice p1 (k.length + 1) c1)) (.slice q n cc) ss := fun q n cc ss hr ht => by
    refine (hr.keep f (fun _ g hg => hT g (ht g ((blk_own _ _ _ _).1 hg)))).keep fs (fun _ g hg hm => ?_)
    simp at hm
    subst hm
    obtain ⟨cur, hc⟩ := ht g ((blk_own _ _ _ _).1 hg)
    have := blk_type hc h.top; simp at this
  have hb2 : b ∉ blk p1 := fun hm => by
    obtain ⟨cur, hc⟩ := own_blk r2 b hm
    have := blk_type hc hb1; simp at this
  refine ⟨p1, c1, w1, r1, ⟨_, by rw [cell_in hb1]; rfl⟩, frozen_in hb1 1, f, fun V hV hfV => HS.idle ⟨?_, ?_, ?_, ?_, h.new, fun m hm => ?_⟩ hfV⟩
  · rw [set_in hb1, List.length_append]; rfl
  · refine own_congr r2 (fun g hg => fs.block g (own_lt r2 g hg).2 (fun hm => ?_))
    simp at hm; subst hm; exact hb2 ((blk_own _ _ _ _).1 hg)
  · refine own_congr h.own (fun g hg => ?_)
    have hgO := (blk_own _ _ _ _).1 hg
    rw [fs.block g (by have := f.size; have := (own_lt h.own g hg).2; omega) (fun hm => by
      simp at hm; subst hm; obtain ⟨cur, hc⟩ := own_blk h.own g hgO; have := blk_type hc h.top; simp at this)]
    exact f.block g (own_lt h.own g hg).2 (hF g hgO)
  · exact (h.fr.trans f (fun g hg => Or.inr (own_lt h.full g ((blk_own _ _ _ _).2 hg)).1)).trans fs (fun g hg => by simp at hg; subst hg; exact Or.inr h.new)
  · obtain ⟨q, cc, q1, q2, q3, q4⟩ := h.each m hm
    refine ⟨q, cc, q1, keepR q _ cc _ q2 q3, fun g hg => ?_, fun hk => ?_⟩
    · obtain ⟨cur, hc⟩ := q3 g hg
      exact ⟨cur, (keepT g ⟨cur, hc⟩).trans hc⟩
    · rw [List.length_append] at hk
      by_cases e : m < k.length
      · rw [clAt_snoc_lt e]; exact q4 e
      · have e2 : m = k.length := by simp at hk; omega
        subst e2
        rw [clAt_snoc]
        exact hx hm q cc q1
theorem HS.side {w0 w : World} {b : Nat} {l : List Cl} {pF : Option Addr} {cF : Nat} {pO : Option Addr} {cO : Nat} {k : List Cl} {vs : List Value} (h : HS w0 w b l pF cF pO cO k vs) {xb : Nat} {cur : Array Value} (hx : w.heap[xb]? = some (.cells cur 47 (0, 0))) (hn : xb ∉ blk pF) (hw : w0.heap.size ≤ xb) (j : Nat) (v : Value) : HS w0 (w.setCell ⟨xb, j, none⟩ v) b l pF cF pO cO k vs := by
  have fs : Fr [xb] w (w.setCell ⟨xb, j, none⟩ v) := Fr.setCell (S := [xb]) w ⟨xb, j, none⟩ v (by simp)
  have ne : ∀ g t c, w.heap[g]? = some (.cells c t (0, 0)) → t ≠ 47 → g ∉ [xb] := fun g t c hg ht hm => by
    simp at hm; subst hm; exact ht (blk_type hg hx)
  refine ⟨(fs.block b (lt_of_heap h.top) (ne b 54 _ h.top (by decide))).trans h.top, own_congr h.full (fun g hg => fs.block g (own_lt h.full g hg).2 (fun hm => ?_)), own_congr h.own (fun g hg => fs.block g (own_lt h.own g hg).2 ?_), h.fr.trans fs (fun g hg => by simp at hg; subst hg; exact Or.inr hw), h.new, fun m hm => ?_⟩
  · simp at hm; subst hm; exact hn ((blk_own _ _ _ _).1 hg)
  · obtain ⟨c, hc⟩ := own_blk h.own g ((blk_own _ _ _ _).1 hg); exact ne g 24 c hc (by decide)
  · obtain ⟨q, cc, q1, q2, q3, q4⟩ := h.each m hm
    refine ⟨q, cc, q1, q2.keep fs (fun _ g hg => ?_), fun g hg => ?_, q4⟩
    · obtain ⟨c, hc⟩ := q3 g ((blk_own _ _ _ _).1 hg); exact ne g 9 c hc (by decide)
    · obtain ⟨c, hc⟩ := q3 g hg; exact ⟨c, (fs.block g (lt_of_heap hc) (ne g 9 c hc (by decide))).trans hc⟩
theorem HS.cells {w0 w : World} {b : Nat} {l : List Cl} {pF : Option Addr} {cF : Nat} {pO : Option Addr} {cO : Nat} {k : List Cl} {vs : List Value} (h : HS w0 w b l pF cF pO cO k vs) : w.cell? ⟨b, 0, none⟩ = some (.slice none 0 0) ∧ w.cell? ⟨b, 1, none⟩ = some (.slice pF k.length cF) ∧ w.cell? ⟨b, 2, none⟩ = some (.slice pO vs.length cO) := ⟨by rw [cell_in h.top]; rfl, by rw [cell_in h.top]; rfl, by rw [cell_in h.top]; rfl⟩
theorem mine_type {w0 w : World} {p : Option Addr} {c : Nat} {ts : List ByteArray} (h : Mine w0 w p c ts) : ∀ g ∈ blk p, ∃ cur, w.heap[g]? = some (.cells cur 9 (0, 0)) := fun g hg => own_blk h.row g hg
def markC : Cl := ⟨sMark, ⟨#[]⟩, [], 0, .slice none 0 0⟩
/-- what is handed in, made -/
def HEnd (w w' : World) (b : Nat) (l : List Cl) : Prop := ∃ (pF : Option Addr) (cF : Nat) (pO : Option Addr) (cO : Nat) (k : List Cl) (vs : List Value),
  w'.heap[b]? = some (.cells #[.slice pF l.length cF, .slice pF (l.length + 8) cF, .slice pO l.length cO] 54 (0, 0)) ∧ vs.length = l.length ∧ k.length = l.length + 8 ∧ w'.ownsRow w.heap.size 47 4 (.slice pF k.length cF) k.length (clss k) ∧ w'.ownsRow w.heap.size 24 1 (.slice pO vs.length cO) vs.length vs ∧ Fr [] w w' ∧ w.heap.size ≤ b ∧
  (∀ m, m < l.length → ∃ p c, vs[m]? = some (.slice p ((clAt l m).own.length + 8) c) ∧ RdS w' (.slice p ((clAt l m).own.length + 8) c) (marks (clAt l m).own 8) ∧ (∀ g ∈ blk p, ∃ cur, w'.heap[g]? = some (.cells cur 9 (0, 0))) ∧ clAt k m = ⟨(clAt l m).name, (clAt l m).sup, (clAt l m).own, (clAt l m).lay, .slice p (clAt l m).own.length c⟩) ∧
  (∀ m, l.length ≤ m → m < l.length + 8 → clAt k m = markC)
set_option maxRecDepth 20000 in
set_option maxHeartbeats 4000000 in
theorem lHand_ok (l : List Cl) (v : Value) (w : World) (h : RdC w v l) (hN : l.length + sumOwn l ≤ 1048576) :
    Calls Try.prog 22 #[v] w fun e w' => ∃ b, e = .returned (.pointer (some ⟨b, 0, none⟩)) ∧ HEnd w w' b l := by
  have HO : Hid (∀ m, m < l.length → RdS w (clAt l m).v (clAt l m).own ∧ (clAt l m).own.length ≤ 1048576) := mkHid (fun m hm => ⟨h.own m hm, by have := own_le_sum hm; omega⟩)
  obtain ⟨pl, c0, rfl, h1⟩ := h.at_
  have H1 := mkHid h1
  have hNl : l.length ≤ 1048576 := by omega
  clear h h1 hN
  obtain ⟨b, hb⟩ : ∃ b, b = w.heap.size := ⟨_, rfl⟩
  have Hb := mkHid hb
  have HS0 : Hid (HS w (w.alloc (.cells #[.slice none 0 0, .slice none 0 0, .slice none 0 0] 54)) b l none 0 none 0 [] []) := mkHid ⟨by rw [hb]; exact heap_alloc_new _ _, World.ownsRow_nil _ _ _ _, World.ownsRow_nil _ _ _ _, Fr.alloc [] _ _, by omega, fun m hm => by simp at hm⟩
  clear hb
  go_enter Try.func22, Try.ntmps22
  go_wp2_with fail
  rw [← Hb.out]
  generalize w.alloc (.cells #[.slice none 0 0, .slice none 0 0, .slice none 0 0] 54) = wA at *
  clear Hb
  go_loopw [4] (fun q wr => ∃ (i : Nat) (pF : Option Addr) (cF : Nat) (pO : Option Addr) (cO : Nat) (k : List Cl) (vs : List Value), i ≤ l.length ∧ q = .int .i64 i ∧ Hid (k.length = i) ∧ Hid (vs.length = i) ∧ Hid (HS w wr b l pF cF pO cO k vs)) (fun q _ => l.length - (intOf q).toNat)
  case atStart => exact ⟨0, none, 0, none, 0, [], [], Nat.zero_le _, rfl, mkHid rfl, mkHid rfl, HS0⟩
  case round =>
    obtain ⟨i, pF, cF, pO, cO, k, vs, hi, rfl, hkl, hvl, hs⟩ := hrel
    have i1 : (0 : Int) ≤ (i : Int) := by omega
    by_cases hlt : i < l.length
    · have i2 : (i : Int) < (l.length : Int) := by omega
      obtain ⟨g, off, rfl, x1, x2⟩ := H1.out (by omega)
      obtain ⟨k0, k1, k2, k3⟩ := x2 i hlt
      obtain ⟨ro, so⟩ := HO.out i hlt
      obtain ⟨pv, cv, ev, _⟩ := ro.at_
      have hF := hs.out.fr
      have d0 := (hF.cell (p := ⟨g, off + i * 4, none⟩) x1 (by simp)).trans k0
      have d1 := (hF.cell (p := ⟨g, off + i * 4 + 1, none⟩) x1 (by simp)).trans k1
      have d2 := (hF.cell (p := ⟨g, off + i * 4 + 2, none⟩) x1 (by simp)).trans k2
      have d3 := (hF.cell (p := ⟨g, off + i * 4 + 3, none⟩) x1 (by simp)).trans k3
      rw [ev] at d2
      have HMk : Hid (∀ o, Calls Try.prog 23 #[.slice pv (clAt l i).own.length cv] (wr.alloc o) fun e w' => ∃ p c, e = .returned (.slice p ((clAt l i).own.length + 8) c) ∧ Mine (wr.alloc o) w' p c (marks (clAt l i).own 8)) := mkHid (fun o => by
        have hr := (ro.idle hF).idle (Fr.alloc [] wr o)
        rw [ev] at hr
        exact lMarked_ok _ _ _ hr (by omega))
      clear x1 x2 k0 k1 k2 k3 ro ev HS0 hF
      have hvl' := hvl.out
      subst hvl'
      obtain ⟨wo, rfl⟩ : ∃ x, x = wr := ⟨_, rfl⟩
      obtain ⟨xb, hxb⟩ : ∃ xb, xb = wo.heap.size := ⟨_, rfl⟩
      go_wp2_with fail
      refine Calls.mono (HMk.out _) ?_
      rintro e w2 ⟨p2, c2, rfl, m2⟩
      rw [← hxb]
      have hxw : w2.heap[xb]? = some (.cells #[.string (clAt l vs.length).name, .string (clAt l vs.length).sup, .slice pv (clAt l vs.length).own.length cv, .int .i64 (clAt l vs.length).lay] 47 (0, 0)) := by
        rw [hxb]; exact (m2.fr.block _ (by simp) (by simp)).trans (heap_alloc_new _ _)
      have hrd := mine_rd m2 (by rw [marks_len]; omega)
      rw [marks_len] at hrd
      have hcp := hrd.cap _ _ _ rfl
      have hs2 := (hs.out.idle (Fr.alloc [] wo _)).idle m2.fr
      obtain ⟨p1, c1, w3, r3, ⟨y3, q3⟩, z3, f3, hs3⟩ := hs2.pushO hkl.out (by omega) p2 c2 hrd (mine_type m2)
      obtain ⟨b0, b1, b2⟩ := hs2.cells
      have hbo : b < xb := by rw [hxb]; exact lt_of_heap hs.out.top
      have hpO : xb ∉ blk pO := fun hm => by have := (own_lt hs.out.own xb ((blk_own _ _ _ _).2 hm)).2; omega
      have hpF : xb ∉ blk pF := fun hm => by have := (own_lt hs.out.full xb ((blk_own _ _ _ _).2 hm)).2; omega
      have hx3 : (w3.setCell ⟨b, 2, none⟩ (.slice p1 (vs.length + 1) c1)).heap[xb]? = some (.cells #[.string (clAt l vs.length).name, .string (clAt l vs.length).sup, .slice pv (clAt l vs.length).own.length cv, .int .i64 (clAt l vs.length).lay] 47 (0, 0)) := by
        rw [Below.heap_setCell _ _ _ _ (fun e => by have : xb = b := e; omega)]
        exact (f3.block xb (lt_of_heap hxw) hpO).trans hxw
      have hw0 : w.heap.size ≤ xb := by rw [hxb]; exact hs.out.fr.size
      have hs4 := hs3.side hx3 hpF hw0 2 (.slice p2 (clAt l vs.length).own.length c2)
      have hx4 := set_in hx3 2 (.slice p2 (clAt l vs.length).own.length c2)
      have e0 : (w3.setCell ⟨b, 2, none⟩ (.slice p1 (vs.length + 1) c1)).cell? ⟨xb, 2, none⟩ = some (.slice pv (clAt l vs.length).own.length cv) := by rw [cell_in hx3]; rfl
      have e1 := frozen_in hx3 2
      have HR3 := mkHid r3
      have HX4 : Hid (((w3.setCell ⟨b, 2, none⟩ (.slice p1 (vs.length + 1) c1)).setCell ⟨xb, 2, none⟩ (.slice p2 (clAt l vs.length).own.length c2)).heap[xb]? = some (.cells #[.string (clAt l vs.length).name, .string (clAt l vs.length).sup, .slice p2 (clAt l vs.length).own.length c2, .int .i64 (clAt l vs.length).lay] 47 (0, 0))) := mkHid (by rw [hx4]; rfl)
      have HS4 := mkHid hs4
      have HKl := mkHid hkl.out
      have HPF := mkHid hpF
      have cpi : ((clAt l vs.length).own.length : Int) ≤ (c2 : Int) := by omega
      clear hs4 hs3 hs2 hx3 hx4 hxw m2 hrd hs hkl hvl r3 f3 b0 b1 hbo hpO hpF hxb HMk hw0
      go_wp2_with (at_builtin; refine Lib.wpList_append_run _ rfl (.tmp 27) (.tmp 29) 33 33 rfl _ _ rfl rfl _ _ HR3.out ?_)
      generalize (w3.setCell ⟨b, 2, none⟩ (.slice p1 (vs.length + 1) c1)).setCell ⟨xb, 2, none⟩ (.slice p2 (clAt l vs.length).own.length c2) = w4 at *
      have hs5 := HS4.out.idle (Fr.drew [] w4)
      obtain ⟨pN, cN, w5, r5, ⟨y5, q5⟩, z5, f5, hs6⟩ := hs5.pushF (by have := HKl.out; omega) ⟨(clAt l vs.length).name, (clAt l vs.length).sup, (clAt l vs.length).own, (clAt l vs.length).lay, .slice p2 (clAt l vs.length).own.length c2⟩ rfl (fun _ p c hpc => by
        rw [HKl.out, List.getElem?_append_right (Nat.le_refl _)] at hpc
        simp at hpc
        rw [HKl.out, hpc.1, hpc.2])
      rw [HKl.out] at r5
      have HR5 := mkHid r5
      have HS6 := mkHid hs6
      obtain ⟨-, t1, -⟩ := HS4.out.cells
      rw [HKl.out] at t1
      have hbF : b ∉ blk pF := fun hm => by
        obtain ⟨cur, hc⟩ := own_blk HS4.out.full b hm
        have := blk_type hc HS4.out.top; simp at this
      have hbl := lt_of_heap HS4.out.top
      have hxl := lt_of_heap HX4.out
      have HKS : Hid (∀ V, Hid (Fr (blk pF) w4 V) → V.cell? ⟨b, 1, none⟩ = some (.slice pF vs.length cF) ∧ V.cell? ⟨xb, 0, none⟩ = some (.string (clAt l vs.length).name) ∧ V.cell? ⟨xb, 1, none⟩ = some (.string (clAt l vs.length).sup) ∧ V.cell? ⟨xb, 2, none⟩ = some (.slice p2 (clAt l vs.length).own.length c2) ∧ V.cell? ⟨xb, 3, none⟩ = some (.int .i64 (clAt l vs.length).lay) ∧ V.frozen? ⟨b, 1, none⟩ = false) := mkHid (fun V hV => by
        have hVo := hV.out
        have hx := (hVo.block xb hxl HPF.out).trans HX4.out
        exact ⟨(hVo.cell (p := ⟨b, 1, none⟩) hbl hbF).trans t1, by rw [cell_in hx]; rfl, by rw [cell_in hx]; rfl, by rw [cell_in hx]; rfl, by rw [cell_in hx]; rfl, (hVo.frozen (p := ⟨b, 1, none⟩) hbl hbF).trans (frozen_in HS4.out.top 1)⟩)
      have HK0 : Hid (Fr (blk pF) w4 w4.drew) := mkHid (Fr.drew _ _)
      have HKA : Hid (∀ V, Hid (Fr (blk pF) w4 V) → ∀ o, Hid (Fr (blk pF) w4 (V.alloc o))) := mkHid (fun V hV o => mkHid (hV.out.trans (Fr.alloc (blk pF) _ _) (fun g hg => Or.inl hg)))
      have HK5 : Hid (Fr (blk pF) w4 w5) := mkHid ((Fr.drew (blk pF) w4).trans f5 (fun g hg => Or.inl hg))
      have HN1 : Hid ((k ++ [(⟨(clAt l vs.length).name, (clAt l vs.length).sup, (clAt l vs.length).own, (clAt l vs.length).lay, .slice p2 (clAt l vs.length).own.length c2⟩ : Cl)]).length = vs.length + 1) := mkHid (by rw [List.length_append, HKl.out]; rfl)
      have HN2 : Hid ((vs ++ [Value.slice p2 ((clAt l vs.length).own.length + 8) c2]).length = vs.length + 1) := mkHid (by rw [List.length_append]; rfl)
      rw [HKl.out] at HS6
      clear hs5 r5 hs6 t1 hbF hbl hxl f5 HS4 HX4 HPF HKl q5 z5 e0 e1 HR3 d0 d1 d2 d3 HO H1 b2 q3 z3
      refine wp_region_last (L := 10) (S := fun V => V.cell? ⟨b, 1, none⟩ = some (.slice pF vs.length cF) ∧ V.cell? ⟨xb, 0, none⟩ = some (.string (clAt l vs.length).name) ∧ V.cell? ⟨xb, 1, none⟩ = some (.string (clAt l vs.length).sup) ∧ V.cell? ⟨xb, 2, none⟩ = some (.slice p2 (clAt l vs.length).own.length c2) ∧ V.cell? ⟨xb, 3, none⟩ = some (.int .i64 (clAt l vs.length).lay) ∧ V.frozen? ⟨b, 1, none⟩ = false) (by kernel_rfl) (HKS.out _ HK0) (fun hHeld => ?_)
      refine wpLast_take (i := 0) (v := ?_) rfl (by kernel_rfl) (by kernel_rfl) (by kernel_rfl) (by decide) (by kernel_rfl) (fun _ _ _ h => h) (Or.inl ⟨by rfl, ?_⟩) (by assumption) ?_
      rotate_left
      · (intro w hSw; (try dsimp only at hSw); first | (go_simp; done) | (go_simp; with_reducible rfl))
      try simp only [Act.put, List.getElem_toArray, List.getElem_cons_zero, List.getElem_cons_succ, List.setIfInBounds_toArray, List.set_cons_zero, List.set_cons_succ]
      refine wpLast_take (i := 1) (v := ?_) rfl (by kernel_rfl) (by kernel_rfl) (by kernel_rfl) (by decide) (by kernel_rfl) (fun _ _ _ h => h) (Or.inl ⟨by rfl, ?_⟩) (by assumption) ?_
      rotate_left
      · (intro w hSw; (try dsimp only at hSw); first | (go_simp; done) | (go_simp; with_reducible rfl))
      try simp only [Act.put, List.getElem_toArray, List.getElem_cons_zero, List.getElem_cons_succ, List.setIfInBounds_toArray, List.set_cons_zero, List.set_cons_succ]
      refine wpLast_take (i := 2) (v := ?_) rfl (by kernel_rfl) (by kernel_rfl) (by kernel_rfl) (by decide) (by kernel_rfl) (fun _ _ _ h => h) (Or.inl ⟨by rfl, ?_⟩) (by assumption) ?_
      rotate_left
      · (intro w hSw; (try dsimp only at hSw); first | (go_simp; done) | (go_simp; with_reducible rfl))
      try simp only [Act.put, List.getElem_toArray, List.getElem_cons_zero, List.getElem_cons_succ, List.setIfInBounds_toArray, List.set_cons_zero, List.set_cons_succ]
      refine wpLast_take (i := 3) (v := ?_) rfl (by kernel_rfl) (by kernel_rfl) (by kernel_rfl) (by decide) (by kernel_rfl) (fun _ _ _ h => h) (Or.inl ⟨by rfl, ?_⟩) (by assumption) ?_
      rotate_left
      · (intro w hSw; (try dsimp only at hSw); first | (go_simp; done) | (go_simp; with_reducible rfl))
      try simp only [Act.put, List.getElem_toArray, List.getElem_cons_zero, List.getElem_cons_succ, List.setIfInBounds_toArray, List.set_cons_zero, List.set_cons_succ]
      refine wpLast_take (i := 4) (v := ?_) rfl (by kernel_rfl) (by kernel_rfl) (by kernel_rfl) (by decide) (by kernel_rfl) (fun _ _ _ h => h) (Or.inl ⟨by rfl, ?_⟩) (by assumption) ?_
      rotate_left
      · (intro w hSw; (try dsimp only at hSw); first | (go_simp; done) | (go_simp; with_reducible rfl))
      try simp only [Act.put, List.getElem_toArray, List.getElem_cons_zero, List.getElem_cons_succ, List.setIfInBounds_toArray, List.set_cons_zero, List.set_cons_succ]
      refine wpLast_take (i := 5) (v := ?_) rfl (by kernel_rfl) (by kernel_rfl) (by kernel_rfl) (by decide) (by kernel_rfl) (fun _ _ _ h => h) (Or.inl ⟨by rfl, ?_⟩) (by assumption) ?_
      rotate_left
      · (intro w hSw; (try dsimp only at hSw); first | (go_simp; done) | (go_simp; with_reducible rfl))
      try simp only [Act.put, List.getElem_toArray, List.getElem_cons_zero, List.getElem_cons_succ, List.setIfInBounds_toArray, List.set_cons_zero, List.set_cons_succ]
      refine wpLast_one (i := 6) (by kernel_rfl) rfl (by decide) (fun K hK => ?_)
      go_simp
      refine hK.out _ _ (HKS.out _ (HKA.out _ HK0 _)) (fun hHeld => ?_)
      clear hK K
      try simp only [Act.put, List.getElem_toArray, List.getElem_cons_zero, List.getElem_cons_succ, List.setIfInBounds_toArray, List.set_cons_zero, List.set_cons_succ]
      refine wpLast_one (i := 7) (by kernel_rfl) rfl (by decide) (fun K hK => ?_)
      refine step_append_run rfl (.tmp 43) (.tmp 45) 23 23 rfl _ _ rfl rfl _ _ HR5.out ?_
      refine hK.out _ _ (HKS.out _ HK5) (fun hHeld => ?_)
      clear hK K
      try simp only [Act.put, List.getElem_toArray, List.getElem_cons_zero, List.getElem_cons_succ, List.setIfInBounds_toArray, List.set_cons_zero, List.set_cons_succ]
      refine wpLast_one (i := 8) (by kernel_rfl) rfl (by decide) (fun K hK => ?_)
      go_simp
      refine hK.out _ _ (HKS.out _ HK5) (fun hHeld => ?_)
      clear hK K
      try simp only [Act.put, List.getElem_toArray, List.getElem_cons_zero, List.getElem_cons_succ, List.setIfInBounds_toArray, List.set_cons_zero, List.set_cons_succ]
      refine wpLast_one (i := 9) (by kernel_rfl) rfl (by decide) (fun K hK => ?_)
      go_simp
      refine hK.out _ _ (HKS.out _ HK5) (fun hHeld => ?_)
      clear hK K
      try simp only [Act.put, List.getElem_toArray, List.getElem_cons_zero, List.getElem_cons_succ, List.setIfInBounds_toArray, List.set_cons_zero, List.set_cons_succ]
      refine wpLast_end (by kernel_rfl) rfl (by kernel_rfl) (fun K hK => ?_)
      go_simp
      refine hK.out _ _ ?_
      clear hK K
      try simp only [Act.put, List.getElem_toArray, List.getElem_cons_zero, List.getElem_cons_succ, List.setIfInBounds_toArray, List.set_cons_zero, List.set_cons_succ]
      go_wp2_with fail
      go_roundw
      case rel => exact ⟨vs.length + 1, pN, cN, p1, c1, _, _, by omega, by go_num, HN1, HN2, mkHid (HS6.out _ rfl (Fr.refl _ _))⟩
      case measure => simp [intOf]; omega
    · have hie : i = l.length := by omega
      subst hie
      have HM0 : Hid (∀ m, l.length ≤ m → m < l.length + 0 → clAt k m = markC) := mkHid (fun m h1 h2 => by omega)
      clear HO H1 HS0
      go_wp2_with fail
      go_loopw [7] (fun q wq => ∃ (i : Nat) (pF : Option Addr) (cF : Nat) (k : List Cl), i ≤ 8 ∧ q = .int .i64 i ∧ Hid (k.length = l.length + i) ∧ Hid (HS w wq b l pF cF pO cO k vs) ∧ Hid (∀ m, l.length ≤ m → m < l.length + i → clAt k m = markC)) (fun q _ => 8 - (intOf q).toNat)
      case atStart => exact ⟨0, pF, cF, k, Nat.zero_le _, rfl, hkl, hs, HM0⟩
      case round =>
        obtain ⟨i, pG, cG, kk, hi, rfl, hkk, hs1, hmk⟩ := hrel
        have i1 : (0 : Int) ≤ (i : Int) := by omega
        obtain ⟨b0, b1, b2⟩ := hs1.out.cells
        rw [hkk.out] at b1
        rw [hvl.out] at b2
        by_cases hlt : i < 8
        · have i2 : (i : Int) < 8 := by omega
          obtain ⟨pN, cN, w5, r5, ⟨y5, q5⟩, z5, f5, hs6⟩ := hs1.out.pushF (by rw [hkk.out]; omega) markC rfl (fun hc => by rw [hkk.out, hvl.out] at hc; omega)
          rw [hkk.out] at r5 hs6
          have HR5 := mkHid r5
          unfold markC sMark at HR5
          have HS6 := mkHid (hs6 _ rfl (Fr.refl _ _))
          have HKn : Hid ((kk ++ [markC]).length = l.length + (i + 1)) := mkHid (by rw [List.length_append, hkk.out]; rfl)
          have HMn : Hid (∀ m, l.length ≤ m → m < l.length + (i + 1) → clAt (kk ++ [markC]) m = markC) := mkHid (fun m h1 h2 => by
            by_cases e : m < kk.length
            · rw [clAt_snoc_lt e]; exact hmk.out m h1 (by have := hkk.out; omega)
            · have : m = kk.length := by have := hkk.out; omega
              subst this
              exact clAt_snoc _ _)
          clear r5 hs6 hs1 hmk hkk HM0 hs hkl b0 b2 f5
          go_wp2_with (at_builtin; refine Lib.wpList_append_run _ rfl (.tmp 57) (.tmp 59) 23 23 rfl _ _ rfl rfl _ _ HR5.out ?_)
          go_roundw
          case rel => exact ⟨i + 1, pN, cN, _, by omega, by go_num, HKn, HS6, HMn⟩
          case measure => simp [intOf]; omega
        · have hie : i = 8 := by omega
          subst hie
          have hcap : (l.length : Int) ≤ (cG : Int) ∧ (cG : Int) ≤ 9223372036854775807 := by
            rcases hs1.out.full.2 with ⟨e, e2⟩ | ⟨g', c', cur, e, _, _, q1, q2, _⟩
            · have := hkk.out; omega
            · injection e with _ e2 e3; unfold maxLen at q2; have := hkk.out; omega
          have fz := frozen_in hs1.out.top 0
          have hge : ∃ gg, pG = some ⟨gg, 0, none⟩ := by
            rcases hs1.out.full.2 with ⟨e, e2⟩ | ⟨g', c', cur, e, _⟩
            · have := hkk.out; omega
            · injection e with e; exact ⟨g', e⟩
          obtain ⟨gg, rfl⟩ := hge
          have HE : Hid (HEnd w (wr.setCell ⟨b, 0, none⟩ (.slice (some ⟨gg, 0, none⟩) l.length cG)) b l) := mkHid (by
            have hh := hs1.out
            have fs : Fr [b] wr (wr.setCell ⟨b, 0, none⟩ (.slice (some ⟨gg, 0, none⟩) l.length cG)) := Fr.setCell (S := [b]) wr ⟨b, 0, none⟩ _ (by simp)
            have ne : ∀ g t c, wr.heap[g]? = some (.cells c t (0, 0)) → t ≠ 54 → g ∉ [b] := fun g t c hg ht hm => by
              simp at hm; subst hm; exact ht (blk_type hg hh.top)
            refine ⟨some ⟨gg, 0, none⟩, cG, pO, cO, kk, vs, ?_, hvl.out, hkk.out, own_congr hh.full (fun g hg => fs.block g (own_lt hh.full g hg).2 ?_), own_congr hh.own (fun g hg => fs.block g (own_lt hh.own g hg).2 ?_), hh.fr.trans fs (fun g hg => by simp at hg; subst hg; exact Or.inr hh.new), hh.new, fun m hm => ?_, hmk.out⟩
            · rw [set_in hh.top, hvl.out, hkk.out]; rfl
            · obtain ⟨c, hc⟩ := own_blk hh.full g ((blk_own _ _ _ _).1 hg); exact ne g 47 c hc (by decide)
            · obtain ⟨c, hc⟩ := own_blk hh.own g ((blk_own _ _ _ _).1 hg); exact ne g 24 c hc (by decide)
            · obtain ⟨q, cc, q1, q2, q3, q4⟩ := hh.each m (by rw [hvl.out]; exact hm)
              refine ⟨q, cc, q1, q2.keep fs (fun _ g hg => ?_), fun g hg => ?_, q4 (by rw [hkk.out]; omega)⟩
              · obtain ⟨c, hc⟩ := q3 g ((blk_own _ _ _ _).1 hg); exact ne g 9 c hc (by decide)
              · obtain ⟨c, hc⟩ := q3 g hg; exact ⟨c, (fs.block g (lt_of_heap hc) (ne g 9 c hc (by decide))).trans hc⟩)
          obtain ⟨h1, h2⟩ := hcap
          clear hs1 hmk HM0 hs hkl hkk hvl
          go_wp2_with fail
          go_ret
          exact ⟨b, rfl, HE.out⟩
end Go.Proofs.Ytblbjgifhgfifaa
