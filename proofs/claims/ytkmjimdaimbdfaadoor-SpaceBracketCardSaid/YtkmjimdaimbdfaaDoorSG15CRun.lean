import Derived.Test.YtkmjimdaimbdfaaDoorSG14CRise
import Derived.Test.YtkmjimdaimbdfaaDoorSG08HInvE
import Derived.Sort.LoopGhostIn
import Derived.Laws.EntriesVeiled
import Derived.Test.YtkmjimdaimbdfaaDoorSG05HByte
import Derived.Test.YtkmjimdaimbdfaaDoorSG11HBackP
namespace Go.Proofs.YtkmjimdaimbdfaaDoor
open Go.RowKit
set_option linter.unusedVariables false
attribute [local go_sem ↓] Go.wp_at_zero Go.wp_at_succ
/-- an object as a value -/
def oiV (o : OI) : Value := .agg #[.int .i64 o.oop, .int .i64 o.cls, .int .i64 o.fmt, o.v]
def noV : Value := .agg #[.int .i64 0, .int .i64 0, .int .i64 0, .slice none 0 0]
/-- what at tells -/
def atR (l : List OI) (z : Int) : Value := match l.find? (fun o => decide (o.oop = z)) with | some o => .tuple #[oiV o, .bool true] | none => .tuple #[noV, .bool false]
theorem find_take {l : List OI} {z : Int} {k : Nat} {o : OI} (hk : l[k]? = some o) (hz : o.oop = z) (hn : ∀ x ∈ l.take k, x.oop ≠ z) : l.find? (fun o => decide (o.oop = z)) = some o := by
  have hlt : k < l.length := (List.getElem?_eq_some_iff.1 hk).1
  have e : l = l.take k ++ o :: l.drop (k + 1) := by
    have h1 := List.take_append_drop k l
    have h2 : l.drop k = o :: l.drop (k + 1) := by
      rw [List.drop_eq_getElem_cons hlt]
      congr 1
      have := List.getElem?_eq_some_iff.1 hk
      exact this.2
    rw [h2] at h1
    exact h1.symm
  rw [e, List.find?_append]
  rw [List.find?_eq_none.2 (fun x hx => by simpa using hn x hx)]
  simp [hz]
end Go.Proofs.YtkmjimdaimbdfaaDoor


namespace Go.Proofs.YtkmjimdaimbdfaaDoor
open Go.RowKit
set_option linter.unusedVariables false
attribute [local go_sem ↓] Go.wp_at_zero Go.wp_at_succ
/-- the law's names -/
def namesS (l : List OI) (z : Int) : Bool := decide (4 ≤ z ∧ z % 4 = 0 ∧ z ≤ 262144) && (l.find? (fun o => decide (o.oop = z / 4))).isSome
end Go.Proofs.YtkmjimdaimbdfaaDoor


namespace Go.Proofs.YtkmjimdaimbdfaaDoor
open Go.RowKit
set_option linter.unusedVariables false
attribute [local go_sem ↓] Go.wp_at_zero Go.wp_at_succ
end Go.Proofs.YtkmjimdaimbdfaaDoor


namespace Go.Proofs.YtkmjimdaimbdfaaDoor
open Go.RowKit Go.Shelf
set_option linter.unusedVariables false
theorem Rc.cells {B : Nat} {W : World} {a bh br ba : Nat} {ps : Option Addr} {n sc : Nat} {rs ah : List Nat} {av : Value} (h : Rc B W a bh br ba ps n sc rs ah av) (hp : n = 0 → ps = none) : ∀ b ∈ touch ps ba av, B ≤ b ∧ b < W.heap.size ∧ ∃ cs t, W.heap[b]? = some (.cells cs t (0, 0)) := by
  intro b hb
  unfold touch at hb
  rcases List.mem_append.1 hb with h1 | h1
  · by_cases hn : n = 0
    · rw [hp hn] at h1; simp at h1
    · obtain ⟨sb, e, h2, h3⟩ := h.marksAt (by omega)
      rw [e] at h1
      have : b = sb := by simpa using h1
      rw [this]
      exact ⟨h2, lt_of_heap h3, _, _, h3⟩
  · rcases List.mem_cons.1 h1 with e | h1
    · rw [e]; exact ⟨h.lo.2.2, lt_of_heap h.abox, _, _, h.abox⟩
    · rcases h.row.2 with ⟨e, _⟩ | ⟨g, cap, cur, e, h2, h3, _⟩
      · rw [e] at h1; simp [Value.ownBlock] at h1
      · rw [e] at h1
        have : b = g := by simpa [Value.ownBlock] using h1
        rw [this]
        exact ⟨h2, lt_of_heap h3, _, _, h3⟩
theorem Rc.cong {B : Nat} {W V : World} {a bh br ba : Nat} {ps : Option Addr} {n sc : Nat} {rs ah : List Nat} {av : Value} (h : Rc B W a bh br ba ps n sc rs ah av) (hf : ∀ (b : Nat) (cs : Array Value) (t : TypeId), W.heap[b]? = some (Obj.cells cs t (0, 0)) → V.heap[b]? = W.heap[b]?) : Rc B V a bh br ba ps n sc rs ah av :=
  ⟨h.lo, (hf _ _ _ h.hbox).trans h.hbox, (hf _ _ _ h.rbox).trans h.rbox, (hf _ _ _ h.abox).trans h.abox, own_congr h.row fun g hg => by
    rcases h.row.2 with ⟨e, _⟩ | ⟨g', cap, cur, e, h2, h3, _⟩
    · rw [e] at hg; simp [Value.ownBlock] at hg
    · rw [e] at hg
      have : g' = g := by simpa [Value.ownBlock] using hg
      rw [← this]; exact hf _ _ _ h3, fun hn => by
    obtain ⟨sb, h1, h2, h3⟩ := h.marksAt hn
    exact ⟨sb, h1, h2, (hf _ _ _ h3).trans h3⟩⟩
/-- a stretch of the search, from the world V on -/
structure Wk (B : Nat) (a bh br ba : Nat) (ps : Option Addr) (n sc : Nat) (V : World) (av0 : Value) (s : List Nat × List Nat) (av : Value) (W : World) : Prop where
  rc : Rc B W a bh br ba ps n sc s.1 s.2 av
  fr : Fr (touch ps ba av0) V W
  own : av.ownBlock = av0.ownBlock ∨ ∃ g, av.ownBlock = some g ∧ V.heap.size ≤ g
theorem mem_touch {ps : Option Addr} {ba : Nat} {av : Value} {b : Nat} : b ∈ touch ps ba av ↔ (∃ p, ps = some p ∧ b = p.block) ∨ b = ba ∨ av.ownBlock = some b := by
  unfold touch
  rw [List.mem_append, List.mem_cons]
  cases ps <;> cases av.ownBlock <;> simp [eq_comm]
theorem Wk.far {B a bh br ba : Nat} {ps : Option Addr} {n sc : Nat} {V : World} {av0 : Value} {s : List Nat × List Nat} {av : Value} {W : World} (h : Wk B a bh br ba ps n sc V av0 s av W) : ∀ b ∈ touch ps ba av, b ∈ touch ps ba av0 ∨ V.heap.size ≤ b := by
  intro b hb
  rcases mem_touch.1 hb with h1 | h1 | h1
  · exact .inl (mem_touch.2 (.inl h1))
  · exact .inl (mem_touch.2 (.inr (.inl h1)))
  · rcases h.own with e | ⟨g, e, hg⟩
    · exact .inl (mem_touch.2 (.inr (.inr (e ▸ h1))))
    · rw [h1] at e; cases e; exact .inr hg
theorem Wk.refl {B a bh br ba : Nat} {ps : Option Addr} {n sc : Nat} {V : World} {s : List Nat × List Nat} {av : Value} (h : Rc B V a bh br ba ps n sc s.1 s.2 av) : Wk B a bh br ba ps n sc V av s av V := ⟨h, Fr.refl _ _, .inl rfl⟩
theorem Wk.step {B a bh br ba : Nat} {ps : Option Addr} {n sc : Nat} {V : World} {av0 : Value} {s s' : List Nat × List Nat} {av av' : Value} {W W' : World} (h : Wk B a bh br ba ps n sc V av0 s av W) (h1 : Rc B W' a bh br ba ps n sc s'.1 s'.2 av') (h2 : Fr (touch ps ba av) W W') (h3 : av'.ownBlock = av.ownBlock ∨ ∃ g, av'.ownBlock = some g ∧ W.heap.size ≤ g) : Wk B a bh br ba ps n sc V av0 s' av' W' := by
  refine ⟨h1, h.fr.trans h2 h.far, ?_⟩
  rcases h3 with e | ⟨g, e, hg⟩
  · rw [e]; exact h.own
  · exact .inr ⟨g, e, Nat.le_trans h.fr.size hg⟩
theorem Wk.grown {B a bh br ba : Nat} {ps : Option Addr} {n sc : Nat} {V : World} {av0 : Value} {s : List Nat × List Nat} {av : Value} {W W' : World} {row : Option Nat} (h : Wk B a bh br ba ps n sc V av0 s av W) (hg : W.grownBy W' row) (hr : ∀ r, row = some r → V.heap.size ≤ r ∧ ∃ o : Obj, W.heap[r]? = some o ∧ o.isCells = false) : Wk B a bh br ba ps n sc V av0 s av W' := by
  refine ⟨h.rc.cong fun b cs t hb => hg.block b (lt_of_heap hb) (fun e => ?_), ?_, h.own⟩
  · obtain ⟨_, o, h1, h2⟩ := hr b e.symm
    rw [hb] at h1; cases h1; simp [Obj.isCells] at h2
  · exact h.fr.trans (Fr.grown (S := row.toList) hg (fun k hk => by rw [hk]; simp)) (fun b hb => .inr (hr b (by simpa using hb)).1)
/-- the world's other things stand -/
theorem Wk.rep {B a bh br ba : Nat} {ps : Option Addr} {n sc : Nat} {V : World} {av0 : Value} {s : List Nat × List Nat} {av : Value} {W : World} {l : Lay} {H : HS} (h : Wk B a bh br ba ps n sc V av0 s av W) (hV : Rep V a l H) (hb : ∀ g ∈ foot a l, g < B) (ht : ∀ b ∈ touch ps ba av0, B ≤ b) : Rep W a l H :=
  hV.keep h.fr fun g hg hm => by have := hb g hg; have := ht g hm; omega
theorem Wk.tab {B a bh br ba : Nat} {ps : Option Addr} {n sc : Nat} {V : World} {av0 : Value} {s : List Nat × List Nat} {av : Value} {W : World} (h : Wk B a bh br ba ps n sc V av0 s av W) (hV : Tab V) (hB : 0 < B) (hs : 0 < V.heap.size) (ht : ∀ b ∈ touch ps ba av0, B ≤ b) : Tab W :=
  hV.keep h.fr hs fun hm => by have := ht 0 hm; omega
theorem keeps_of_fr {S : List Nat} {W W' : World} (h : Fr S W W') (hc : ∀ b ∈ S, ∃ cs t, W.heap[b]? = some (.cells cs t (0, 0))) : KeepsOthers W W' :=
  ⟨h.size, fun k o hk ho => by
    rw [h.block k (lt_of_heap hk) (fun hm => by obtain ⟨cs, t, e⟩ := hc k hm; rw [hk] at e; cases e; simp [Obj.isCells] at ho)]
    exact hk⟩
/-- one element taken off the end -/
theorem own_cut {W : World} {base e : Nat} {p : Option Addr} {c m : Nat} {xs : List Value} {x : Value} (h : W.ownsRow base e 1 (.slice p (m + 1) c) (m + 1) (xs ++ [x])) : W.ownsRow base e 1 (.slice p m c) m xs ∧ ∃ g, p = some ⟨g, 0, none⟩ ∧ W.cell? ⟨g, m, none⟩ = some x ∧ m + 1 ≤ c ∧ c ≤ maxLen ∧ xs.length = m := by
  obtain ⟨hl, h⟩ := h
  have hm : xs.length = m := by simp at hl; omega
  rcases h with ⟨h1, _⟩ | ⟨g, cap, cur, h1, h2, h3, h4, h5, h6, h7⟩
  · cases h1
  · cases h1
    have h8 : cur.toList.take m = xs := by
      have := congrArg (List.take m) h7
      rw [List.take_take] at this
      rw [show min m ((m + 1) * 1) = m by omega] at this
      rw [this, ← hm]; simp
    refine ⟨⟨by omega, .inr ⟨g, c, cur, rfl, h2, h3, by omega, h5, h6, by rw [Nat.mul_one]; exact h8⟩⟩, g, rfl, ?_, h4, h5, hm⟩
    rw [cell_in h3]
    have h9 : (cur.toList.take (m + 1))[m]? = some x := by rw [Nat.mul_one] at h7; rw [h7, ← hm]; simp
    rw [List.getElem?_take] at h9
    rw [if_pos (by omega)] at h9
    simpa using h9
end Go.Proofs.YtkmjimdaimbdfaaDoor


namespace Go.Proofs.YtkmjimdaimbdfaaDoor
open Go.RowKit Go.Shelf
set_option linter.unusedVariables false
theorem allTo_rise (H : HS) (k : Nat) : (allTo H k).Pairwise (· < ·) := by
  unfold allTo
  exact List.Pairwise.filter _ List.pairwise_lt_range
theorem rise_last {l : List Nat} (h : l.Pairwise (· < ·)) : ∀ q ∈ l, q ≤ l.getD (l.length - 1) 0 := by
  intro q hq
  obtain ⟨i, hi, e⟩ := List.getElem_of_mem hq
  have hl : l.length - 1 < l.length := by omega
  rw [List.getD_eq_getElem?_getD, List.getElem?_eq_getElem hl, Option.getD_some, ← e]
  by_cases c : i = l.length - 1
  · simp [c]
  · exact Nat.le_of_lt (List.pairwise_iff_getElem.1 h i (l.length - 1) hi hl (by omega))
theorem marks_any (H : HS) (ks : List Nat) (hks : ks = allTo H H.seats.length) (hs : (H.seats.length : Int) ≤ 65538) (base : Nat) (v : Value) (w : World) (h : w.ownsRow base 3 1 v ks.length (ks.map I)) :
    Calls Tryd.prog 85 #[v] w fun e w' => ∃ ps n sc, e = .returned (.slice ps n sc) ∧ (n = 0 → ps = none) ∧ Fr [] w w' ∧ n ≤ 1048576 ∧ (∀ q ∈ ks, q < n) ∧ (0 < n → ∃ sb, ps = some ⟨sb, 0, none⟩ ∧ w.heap.size ≤ sb ∧ w'.heap[sb]? = some (.cells (keptL n []).toArray 4 (0, 0))) := by
  have hlen : ks.length ≤ H.seats.length := by rw [hks]; exact allTo_len H _
  have hbig : ∀ q ∈ ks, q < H.seats.length := fun q hq => by rw [hks] at hq; unfold allTo at hq; simpa using (List.mem_filter.1 hq).1
  have hrise : ks.Pairwise (· < ·) := by rw [hks]; exact allTo_rise H _
  by_cases hk : ks.length = 0
  · have : ∃ p c, v = .slice p 0 c := by
      rcases h.2 with ⟨e, _⟩ | ⟨g, cap, cur, e, _⟩
      · exact ⟨_, _, e⟩
      · exact ⟨some ⟨g, 0, none⟩, cap, by rw [e, hk]⟩
    obtain ⟨p, c, rfl⟩ := this
    refine (marks_nil p c w).mono ?_
    rintro e w' ⟨rfl, rfl⟩
    have hnil : ks = [] := List.length_eq_zero_iff.1 hk
    exact ⟨none, 0, 0, rfl, fun _ => rfl, Fr.refl _ _, by omega, by simp [hnil], fun c => absurd c (by omega)⟩
  · obtain ⟨p, c, rfl, hc⟩ := own_slot (ss := ks.map fun x : Nat => (x : Int)) (by rw [List.length_map, List.map_map]; exact h)
    obtain ⟨g, rfl, hcell⟩ := hc (by simp; omega)
    have hl := hcell (ks.length - 1) (by simp; omega)
    have hz : (ks.map fun x : Nat => (x : Int)).getD (ks.length - 1) 0 = ((ks.getD (ks.length - 1) 0 : Nat) : Int) := by
      rw [List.getD_eq_getElem?_getD, List.getElem?_map, List.getD_eq_getElem?_getD, List.getElem?_eq_getElem (by omega)]; rfl
    rw [hz] at hl
    have hmem : ks.getD (ks.length - 1) 0 ∈ ks := by rw [List.getD_eq_getElem?_getD, List.getElem?_eq_getElem (by omega)]; exact List.getElem_mem _
    have hzl := hbig _ hmem
    rw [List.length_map]
    refine (marks_ok g c ks.length (ks.getD (ks.length - 1) 0) w (by omega) (by omega) (by omega) hl).mono ?_
    rintro e w' ⟨rfl, rfl⟩
    refine ⟨_, _, _, rfl, fun e => by omega, Fr.alloc _ _ _, by omega, fun q hq => by have := rise_last hrise q hq; omega, fun _ => ⟨_, rfl, Nat.le_refl _, ?_⟩⟩
    exact heap_alloc_new w _
end Go.Proofs.YtkmjimdaimbdfaaDoor


namespace Go.Proofs.YtkmjimdaimbdfaaDoor
open Go.RowKit Go.Shelf
set_option linter.unusedVariables false
def meetV (bh br ba : Nat) : Value := .func (.func 86) #[] #[.pointer (some ⟨bh, 0, none⟩), .pointer (some ⟨br, 0, none⟩), .pointer (some ⟨ba, 0, none⟩)]
/-- what stands around the search at a world X; T: what the search writes -/
structure En (w : World) (bh br ba bm : Nat) (v : Value) (ks : List Nat) (T : List Nat) (X : World) : Prop where
  fr : Fr [] w X
  mbox : X.heap[bm]? = some (.cells #[meetV bh br ba] 132 (0, 0))
  all : X.ownsRow w.heap.size 3 1 v ks.length (ks.map I)
  mT : bm ∉ T
  aT : ∀ g, v.ownBlock = some g → g ∉ T
  tT : ∀ b ∈ T, w.heap.size ≤ b
theorem En.step {w : World} {a bh br ba bm : Nat} {v : Value} {ks : List Nat} {ps : Option Addr} {n sc : Nat} {V W : World} {av0 av : Value} {s : List Nat × List Nat} (h : En w bh br ba bm v ks (touch ps ba av0) V) (k : Wk w.heap.size a bh br ba ps n sc V av0 s av W) : En w bh br ba bm v ks (touch ps ba av) W := by
  refine ⟨h.fr.trans k.fr (fun b hb => .inr (h.tT b hb)), (k.fr.block _ (lt_of_heap h.mbox) h.mT).trans h.mbox, own_congr h.all fun g hg => k.fr.block g (h.all.lt g hg).2 (h.aT g hg), fun hm => ?_, fun g hg hm => ?_, fun b hb => ?_⟩
  · rcases k.far _ hm with h1 | h1
    · exact h.mT h1
    · have := lt_of_heap h.mbox; omega
  · rcases k.far _ hm with h1 | h1
    · exact h.aT g hg h1
    · have := (h.all.lt g hg).2; omega
  · rcases k.far _ hb with h1 | h1
    · exact h.tT b h1
    · have := h.fr.size; omega
/-- .. where blocks are laid beside -/
theorem En.idle {w : World} {bh br ba bm : Nat} {v : Value} {ks T : List Nat} {V W : World} (h : En w bh br ba bm v ks T V) (k : Fr [] V W) : En w bh br ba bm v ks T W :=
  ⟨h.fr.trans k (by simp), (k.block _ (lt_of_heap h.mbox) (by simp)).trans h.mbox, own_congr h.all fun g hg => k.block g (h.all.lt g hg).2 (by simp), h.mT, h.aT, h.tT⟩
theorem En.cm {w : World} {bh br ba bm : Nat} {v : Value} {ks T : List Nat} {V : World} (h : En w bh br ba bm v ks T V) : V.cell? ⟨bm, 0, none⟩ = some (meetV bh br ba) := by rw [cell_in h.mbox]; rfl
theorem En.rep {w : World} {bh br ba bm : Nat} {v : Value} {ks T : List Nat} {V : World} (h : En w bh br ba bm v ks T V) {a : Nat} {l : Lay} {H : HS} (hr : Rep w a l H) : Rep V a l H := hr.keep h.fr (by simp)
theorem En.tab {w : World} {bh br ba bm : Nat} {v : Value} {ks T : List Nat} {V : World} (h : En w bh br ba bm v ks T V) {a : Nat} {l : Lay} {H : HS} (hr : Rep w a l H) (hT : Tab w) : Tab V := hT.fr h.fr (Nat.zero_lt_of_lt (lt_of_heap hr.top))
theorem has_all {H : HS} {q : Nat} (h : has H (q : Int) = true) : q ∈ allTo H H.seats.length := by
  obtain ⟨h1, h2, h3⟩ := has_yes h
  unfold allTo
  rw [List.mem_filter]
  exact ⟨List.mem_range.2 (by omega), decide_eq_true (by omega)⟩
theorem names_lt {H : HS} {n : Nat} (hlt : ∀ q ∈ allTo H H.seats.length, q < n) (z : Int) (hz : namesB H z = true) : 0 ≤ z / 4 ∧ (z / 4).toNat < n :=
  ⟨(names_has hz).2, hlt _ (has_all (names_has hz).1)⟩
theorem Sh.nil (n : Nat) : Sh n ([], []) := ⟨by simp, by simp, by simp, by simp⟩
/-- meet, in the midst of the search -/
theorem meet_in {w : World} {a bh br ba bm : Nat} {v : Value} {ks : List Nat} {ps : Option Addr} {n sc : Nat} {V W : World} {av0 av : Value} {s : List Nat × List Nat} {l : Lay} {H : HS} {M : MS} (hr : Rep w a l H) (hi : Inv H M) (hT : Tab w) (hlt : ∀ q ∈ allTo H H.seats.length, q < n) (hn : n ≤ 1048576) (hs : Sh n s)
    (h : En w bh br ba bm v ks (touch ps ba av0) V) (k : Wk w.heap.size a bh br ba ps n sc V av0 s av W) (z : Int) :
    Calls Tryd.prog 86 #[.int .i64 z, .pointer (some ⟨bh, 0, none⟩), .pointer (some ⟨br, 0, none⟩), .pointer (some ⟨ba, 0, none⟩)] W fun e W' => e = .returned (.tuple #[]) ∧ ∃ av', Wk w.heap.size a bh br ba ps n sc V av0 (seen1 H s z) av' W' ∧ Fr (touch ps ba av) W W' := by
  have hE := h.step k
  have ha := hs.alen
  refine (meet_any z w.heap.size a bh br ba ps n sc s.1 s.2 av l H M W (hE.rep hr) hi (hE.tab hr hT) k.rc (names_lt hlt z) hn (by omega)).mono ?_
  rintro e W' ⟨rfl, av', h1, h2, h3⟩
  exact ⟨rfl, av', k.step h1 h2 h3, h2⟩
end Go.Proofs.YtkmjimdaimbdfaaDoor


namespace Go.Proofs.YtkmjimdaimbdfaaDoor
open Go.RowKit Go.Shelf
set_option linter.unusedVariables false
attribute [local go_sem] Oper.semAt_some
/-- between two objects -/
structure St (w : World) (a bh br ba bm : Nat) (ps : Option Addr) (n sc : Nat) (v : Value) (H : HS) (M : MS) (roots : List Int) (s : List Nat × List Nat) (av : Value) (Ds : List Nat) (W : World) : Prop where
  en : En w bh br ba bm v (allTo H H.seats.length) (touch ps ba av) W
  rc : Rc w.heap.size W a bh br ba ps n sc s.1 s.2 av
  sh : Sh n s
  sr : Sr H M roots s
  nd : Ds.Nodup
  marks : ∀ D ∈ Ds, w.heap.size ≤ D ∧ W.heap[D]? = some (.deferred (some []))
set_option maxRecDepth 100000 in
set_option maxHeartbeats 4000000 in
theorem Reach_ok (a : Nat) (l : Lay) (H : HS) (M : MS) (p : Option Addr) (c : Nat) (roots : List Int) (w : World) (h : Rep w a l H) (hi : Inv H M) (hT : Tab w) (hr : Rd w (.slice p roots.length c) roots) :
    Calls Tryd.prog 60 #[.pointer (some ⟨a, 0, none⟩), .slice p roots.length c] w fun e w' => ∃ v, e = .returned (.tuple #[v, .int .i64 0]) ∧ ∃ rs, Sr H M roots (rs, []) ∧ w'.ownsRow w.heap.size 3 1 v ((allTo H H.seats.length).filter fun x => decide (x ∈ rs)).length (((allTo H H.seats.length).filter fun x => decide (x ∈ rs)).map I) ∧ Fr [] w w' := by
  refine (callsIn_wide (n := 9)).1 ?_
  refine callsIn_of_wp_marks Tryd.func60 rfl trivial ?_ rfl
  simp only [Tryd.ntmps60, List.size_toArray, List.length_cons, List.length_nil, Nat.reduceAdd, Nat.reduceSub, Array.replicate_succ, Array.replicate_zero, List.push_toArray, List.append_toArray, List.nil_append, List.cons_append]
  have HR := mkHid h
  have HI := mkHid hi
  have HT := mkHid hT
  have HRD := mkHid hr
  clear h hi hT hr
  gi_wp2
  refine ⟨trivial, ?_⟩
  refine (callsIn_wide.2 (All_ok a l H _ (HR.out.alloc _) HI.out.told.seats)).mono ?_
  rintro e w2 ⟨v, rfl, hv2, hf2⟩
  gi_wp2
  refine ⟨trivial, ?_⟩
  refine (callsIn_wide.2 (marks_any H _ rfl HI.out.told.seats _ v w2 hv2)).mono ?_
  rintro e w3 ⟨ps, n, sc, rfl, hps, hf3, hn, hlt, hsb⟩
  gi_wp2
  have hs2 : w.heap.size + 1 ≤ w2.heap.size := by have := hf2.size; simpa using this
  have hs3 := hf3.size
  have hfw : Fr [] w w3 := ((Fr.alloc [] w (.cells #[.pointer (some ⟨a, 0, none⟩)] 38)).trans hf2 (by simp)).trans hf3 (by simp)
  obtain ⟨V, hV⟩ : ∃ V, (((w3.alloc (Obj.cells #[Value.slice ps n sc] 128)).alloc (Obj.cells #[Value.slice none 0 0] 47)).alloc (Obj.cells #[Value.func (Fn.func 86) #[] #[Value.pointer (some { block := w.heap.size, off := 0 }), Value.pointer (some { block := w3.heap.size, off := 0 }), Value.pointer (some { block := w3.heap.size + 1, off := 0 })]] 132)) = V := ⟨_, rfl⟩
  rw [hV]
  have hf3V : Fr [] w3 V := by rw [← hV]; exact ((Fr.alloc [] _ _).trans (Fr.alloc [] _ _) (by simp)).trans (Fr.alloc [] _ _) (by simp)
  have hszV : V.heap.size = w3.heap.size + 3 := by rw [← hV]; simp
  have hbr : V.heap[w3.heap.size]? = some (.cells #[.slice ps n sc] 128 (0, 0)) := by
    rw [← hV, Below.heap_alloc _ _ _ (by simp; omega), Below.heap_alloc _ _ _ (by simp)]; exact heap_alloc_new _ _
  have hba : V.heap[w3.heap.size + 1]? = some (.cells #[.slice none 0 0] 47 (0, 0)) := by
    rw [← hV, Below.heap_alloc _ _ _ (by simp)]
    have := heap_alloc_new (w3.alloc (Obj.cells #[Value.slice ps n sc] 128)) (Obj.cells #[Value.slice none 0 0] 47)
    simpa using this
  have hbm : V.heap[w3.heap.size + 2]? = some (.cells #[meetV w.heap.size w3.heap.size (w3.heap.size + 1)] 132 (0, 0)) := by
    rw [← hV]
    have := heap_alloc_new ((w3.alloc (Obj.cells #[Value.slice ps n sc] 128)).alloc (Obj.cells #[Value.slice none 0 0] 47)) (Obj.cells #[Value.func (Fn.func 86) #[] #[Value.pointer (some { block := w.heap.size, off := 0 }), Value.pointer (some { block := w3.heap.size, off := 0 }), Value.pointer (some { block := w3.heap.size + 1, off := 0 })]] 132)
    simpa [meetV] using this
  have hbh : V.heap[w.heap.size]? = some (.cells #[.pointer (some ⟨a, 0, none⟩)] 38 (0, 0)) := by
    rw [hf3V.block _ (by omega) (by simp), hf3.block _ (by omega) (by simp), hf2.block _ (by simp) (by simp)]
    exact heap_alloc_new _ _
  have hks : V.ownsRow w.heap.size 3 1 v (allTo H H.seats.length).length ((allTo H H.seats.length).map I) := by
    have h1 := own_congr (own_congr hv2 fun g hg => hf3.block g (hv2.lt g hg).2 (by simp)) (w' := V) fun g hg => hf3V.block g (by have := (hv2.lt g hg).2; omega) (by simp)
    exact own_base h1 (by simp)
  have hrc : Rc w.heap.size V a w.heap.size w3.heap.size (w3.heap.size + 1) ps n sc [] [] (.slice none 0 0) := by
    refine ⟨⟨Nat.le_refl _, by omega, by omega⟩, hbh, hbr, hba, World.ownsRow_nil _ _ _ _, fun h0 => ?_⟩
    obtain ⟨sb, e, h1, h2⟩ := hsb h0
    exact ⟨sb, e, by omega, (hf3V.block _ (lt_of_heap h2) (by simp)).trans h2⟩
  have hsbs : ∀ q, ps = some q → w2.heap.size ≤ q.block ∧ q.block < w3.heap.size := fun q e => by
    by_cases h0 : n = 0
    · rw [hps h0] at e; cases e
    · obtain ⟨sb, e1, h1, h2⟩ := hsb (by omega)
      rw [e1] at e; cases e; exact ⟨h1, lt_of_heap h2⟩
  have hEn : En w w.heap.size w3.heap.size (w3.heap.size + 1) (w3.heap.size + 1 + 1) v (allTo H H.seats.length) (touch ps (w3.heap.size + 1) (.slice none 0 0)) V := by
    refine ⟨hfw.trans hf3V (by simp), hbm, hks, fun hm => ?_, fun g hg hm => ?_, fun b hb => ?_⟩
    · rcases mem_touch.1 hm with ⟨q, e, e2⟩ | e | e
      · have := hsbs q e; omega
      · omega
      · cases e
    · have := (hv2.lt g hg).2
      rcases mem_touch.1 hm with ⟨q, e, e2⟩ | e | e
      · have := hsbs q e; omega
      · omega
      · cases e
    · rcases mem_touch.1 hb with ⟨q, e, e2⟩ | e | e
      · have := hsbs q e; omega
      · omega
      · cases e
  have hWk : Wk w.heap.size a w.heap.size w3.heap.size (w3.heap.size + 1) ps n sc V (.slice none 0 0) ([], []) (.slice none 0 0) V := Wk.refl hrc
  have HEn := mkHid hEn
  have HWk := mkHid hWk
  have HLt := mkHid hlt
  have HPs := mkHid hps
  clear hEn hWk hrc hks hbh hbm hba hbr hf3V hV hfw hsb hf2 hf3 hv2 hlt hps hsbs
  have hro := HRD.out.short
  obtain ⟨p', c', ep, hat⟩ := HRD.out.at_
  cases ep
  have HAT := mkHid hat
  clear hat HRD
  gi_loopw [24] (fun i wr => ∃ k : Nat, k ≤ roots.length ∧ i = .int .i64 k ∧ ∃ av, Hid (Wk w.heap.size a w.heap.size w3.heap.size (w3.heap.size + 1) ps n sc V (.slice none 0 0) ((roots.take k).foldl (seen1 H) ([], [])) av wr))
    (fun i _ => roots.length - (intOf i).toNat)
  case atStart => exact ⟨0, Nat.zero_le _, rfl, _, HWk⟩
  case round =>
    obtain ⟨k, hk, rfl, av, HK⟩ := hrel
    by_cases hlt : k < roots.length
    · have hE := HEn.out.step HK.out
      obtain ⟨g, off, rfl, hg, hcell⟩ := HAT.out (by omega)
      have cm := hE.cm
      unfold meetV at cm
      have cz : wr.cell? ⟨g, off + k, none⟩ = some (.int .i64 (roots.getD k 0)) := (hE.fr.cell (p := ⟨g, off + k, none⟩) hg (by simp)).trans (hcell k hlt)
      have HM := mkHid (meet_in HR.out HI.out HT.out HLt.out hn (Sh.fold H (fun z hz => (names_lt HLt.out z hz).2) (roots.take k) ([], []) (Sh.nil n)) HEn.out HK.out (roots.getD k 0))
      have HTk : Hid ((roots.take (k + 1)).foldl (seen1 H) ([], []) = seen1 H ((roots.take k).foldl (seen1 H) ([], [])) (roots.getD k 0)) := by
        show (roots.take (k + 1)).foldl (seen1 H) ([], []) = seen1 H ((roots.take k).foldl (seen1 H) ([], [])) (roots.getD k 0)
        rw [List.take_succ_eq_append_getElem hlt, List.foldl_append, List.getD_eq_getElem?_getD, List.getElem?_eq_getElem hlt]; rfl
      generalize roots.getD k 0 = z at *
      clear hE hcell HK HAT
      gi_wp2
      refine ⟨trivial, ?_⟩
      refine (callsIn_wide.2 HM.out).mono ?_
      rintro e W2 ⟨rfl, av', hk2, _⟩
      have HK2 := mkHid hk2
      clear hk2
      gi_wp2
      go_roundw
      case rel => exact ⟨k + 1, by omega, by simp, av', by rw [HTk.out]; exact HK2⟩
      case measure => simp [intOf]; omega
    · obtain rfl : k = roots.length := by omega
      rw [List.take_length] at HK
      gi_wp2
      have HSt : Hid (St w a w.heap.size w3.heap.size (w3.heap.size + 1) (w3.heap.size + 1 + 1) ps n sc v H M roots (roots.foldl (seen1 H) ([], [])) av [] wr) :=
        ⟨HEn.out.step HK.out, HK.out.rc, Sh.fold H (fun z hz => (names_lt HLt.out z hz).2) roots ([], []) (Sh.nil n), Sr.start H M roots, by simp, by simp⟩
      clear HK HEn HWk HAT
      refine wpIn_loop_ghost_k (fun m A W => ∃ (u12 u13 u14 u32 u33 u34 u35 u36 u37 u38 u39 u40 u41 u42 u43 u44 u45 u46 u47 u48 u49 u50 u51 : Value) (Ds : List Nat) (s : List Nat × List Nat) (av : Value), m = n - s.1.length + s.2.length ∧ Hid (St w a w.heap.size w3.heap.size (w3.heap.size + 1) (w3.heap.size + 1 + 1) ps n sc v H M roots s av Ds W) ∧ A = { tmps := #[Value.pointer (some ⟨a, 0, none⟩), Value.slice p roots.length c, Value.pointer (some ⟨w.heap.size, 0, none⟩), undef, Value.slice none 0 0, Value.int .i64 0, v, Value.pointer (some ⟨w3.heap.size, 0, none⟩), Value.pointer (some ⟨w3.heap.size + 1, 0, none⟩), Value.pointer (some ⟨w3.heap.size + 1 + 1, 0, none⟩), undef, u11, u12, u13, u14, Value.pointer (some ⟨a, 0, none⟩), Value.bool false, Value.pointer (some ⟨a, 0, none⟩), v, v, Value.slice ps n sc, Value.func (Fn.func 86) #[] #[Value.pointer (some ⟨w.heap.size, 0, none⟩), Value.pointer (some ⟨w3.heap.size, 0, none⟩), Value.pointer (some ⟨w3.heap.size + 1, 0, none⟩)], Value.slice p roots.length c, Value.int .i64 roots.length, Value.int .i64 roots.length, Value.bool false, u26, u27, u28, u29, u30, u31, u32, u33, u34, u35, u36, u37, u38, u39, u40, u41, u42, u43, u44, u45, u46, u47, u48, u49, u50, u51, undef, undef, undef], defers := Ds.map markOf }) _ ⟨_, _, _, _, _, _, _, _, _, _, _, _, _, _, _, _, _, _, _, _, _, _, _, [], _, av, rfl, HSt, rfl⟩ ?_
      rintro m A W ⟨u12, u13, u14, u32, u33, u34, u35, u36, u37, u38, u39, u40, u41, u42, u43, u44, u45, u46, u47, u48, u49, u50, u51, Ds, ⟨rs, ah⟩, av1, rfl, HS, rfl⟩ J K hJ hK
      clear HSt hk hlt hszV
      rcases List.eq_nil_or_concat ah with rfl | ⟨ah, q, rfl⟩
      · have ca := HS.out.rc.abox
        have cr : W.cell? ⟨w3.heap.size, 0, none⟩ = some (.slice ps n sc) := by rw [cell_in HS.out.rc.rbox]; rfl
        have cb : W.cell? ⟨w3.heap.size + 1, 0, none⟩ = some av1 := by rw [cell_in ca]; rfl
        obtain ⟨pa, cc, rfl⟩ : ∃ pa cc, av1 = .slice pa 0 cc := by
          rcases HS.out.rc.row.2 with ⟨h2, h3⟩ | ⟨g, cap, cur, h2, h3⟩
          · exact ⟨none, 0, by rw [h2]⟩
          · exact ⟨some ⟨g, 0, none⟩, cap, h2⟩
        have hks := HS.out.en.all
        have hkl : (allTo H H.seats.length).length ≤ 1048576 := by have := allTo_len H H.seats.length; have := HI.out.told.seats; omega
        have hrd := own_rd (ss := (allTo H H.seats.length).map fun x : Nat => (x : Int)) (by rw [List.length_map, List.map_map]; exact hks) (by simp; omega)
        obtain ⟨p1, c1, ev, _⟩ := hrd.at_
        rw [List.length_map] at ev
        rw [ev] at hrd
        have HMk := mkHid (marked_ok (allTo H H.seats.length) rs n p1 c1 ps sc W hrd (fun h0 => by
          have hn0 : 0 < n := by
            obtain ⟨x, hx⟩ := List.exists_mem_of_length_pos h0
            have := HLt.out x hx; omega
          obtain ⟨sb, h1, h2, h3⟩ := HS.out.rc.marksAt hn0
          exact ⟨sb, h1, lt_of_heap h3, fun i hi => by rw [cell_in h3]; simpa using keptL_at n rs i hi⟩) HLt.out hkl hn)
        rw [← ev] at HMk
        clear ca hks hrd ev
        gi_wp2
        refine ⟨trivial, ?_⟩
        refine (callsIn_wide.2 HMk.out).mono ?_
        rintro e W2 ⟨v2, rfl, hv2, hf2⟩
        gi_wp2
        have hsW := HS.out.en.fr.size
        refine leaves_marks Ds W2 HS.out.nd (fun D hD => (hf2.block _ (lt_of_heap (HS.out.marks D hD).2) (by simp)).trans (HS.out.marks D hD).2) fun w' hsh => ?_
        refine ⟨.tuple #[v2, .int .i64 0], by simp [results, Tryd.f60], v2, rfl, rs, HS.out.sr, ?_, ?_⟩
        · exact own_base (own_congr hv2 fun g hg => hsh.fr.block g (hv2.lt g hg).2 (fun hm => by have := lt_of_heap (HS.out.marks g hm).2; have := (hv2.lt g hg).1; omega)) hsW
        · exact (HS.out.en.fr.trans hf2 (by simp)).trans hsh.fr (fun b hb => .inr (HS.out.marks b hb).1)
      · rw [List.concat_eq_append] at HS hK
        obtain ⟨pa, cc, rfl⟩ : ∃ pa cc, av1 = .slice pa (ah.length + 1) cc := by
          rcases HS.out.rc.row.2 with ⟨h2, h3⟩ | ⟨g, cap, cur, h2, h3⟩
          · simp at h3
          · exact ⟨some ⟨g, 0, none⟩, cap, by rw [h2]; simp⟩
        have hrow : W.ownsRow w.heap.size 3 1 (.slice pa (ah.length + 1) cc) (ah.length + 1) (ah.map I ++ [I q]) := by
          have := HS.out.rc.row
          simpa using this
        obtain ⟨hcut, g, rfl, cq, hle, hmax, _⟩ := own_cut hrow
        have cb : W.cell? ⟨w3.heap.size + 1, 0, none⟩ = some (.slice (some ⟨g, 0, none⟩) (ah.length + 1) cc) := by rw [cell_in HS.out.rc.abox]; rfl
        have fb : W.frozen? ⟨w3.heap.size + 1, 0, none⟩ = false := frozen_in HS.out.rc.abox 0
        have ch : W.cell? ⟨w.heap.size, 0, none⟩ = some (.pointer (some ⟨a, 0, none⟩)) := by rw [cell_in HS.out.rc.hbox]; rfl
        have hne : ¬ w.heap.size = w3.heap.size + 1 := by omega
        have hne2 : ¬ w3.heap.size + 1 = w.heap.size := by omega
        have hq : q ∈ rs := HS.out.sh.sub q (by simp)
        have hah : ah.length ≤ 1048576 := by have := HS.out.sh.alen; simp at this; omega
        unfold I at cq
        have HCut := mkHid hcut
        clear hrow hcut
        gi_wp2
        refine ⟨trivial, ?_⟩
        refine (leads_in 8 a q _).mono ?_
        rintro e W2 ⟨rfl, rfl⟩
        rw [show (W.setCell ⟨w3.heap.size + 1, 0, none⟩ (.slice (some ⟨g, 0, none⟩) ah.length cc)).heap.size = W.heap.size from by simp]
        gi_wp2
        obtain ⟨V2, hV2⟩ : ∃ V2, ((W.setCell ⟨w3.heap.size + 1, 0, none⟩ (.slice (some ⟨g, 0, none⟩) ah.length cc)).alloc (.cells #[.pointer (some ⟨a, 0, none⟩)] 38)).alloc (.cells #[.int .i64 (q : Int)] 3) = V2 := ⟨_, rfl⟩
        rw [hV2]
        have hsz2 : V2.heap.size = W.heap.size + 2 := by rw [← hV2]; simp
        have hfr2 : Fr [w3.heap.size + 1] W V2 := by
          rw [← hV2]
          exact ((Fr.setCell (S := [w3.heap.size + 1]) W _ _ (by simp)).trans (Fr.alloc [] _ _) (by simp)).trans (Fr.alloc [] _ _) (by simp)
        have hb1 : V2.heap[W.heap.size]? = some (.cells #[.pointer (some ⟨a, 0, none⟩)] 38 (0, 0)) := by
          rw [← hV2, Below.heap_alloc _ _ _ (by simp)]
          have := heap_alloc_new (W.setCell ⟨w3.heap.size + 1, 0, none⟩ (.slice (some ⟨g, 0, none⟩) ah.length cc)) (.cells #[.pointer (some ⟨a, 0, none⟩)] 38)
          simpa using this
        have hb2 : V2.heap[W.heap.size + 1]? = some (.cells #[.int .i64 (q : Int)] 3 (0, 0)) := by
          rw [← hV2]
          have := heap_alloc_new ((W.setCell ⟨w3.heap.size + 1, 0, none⟩ (.slice (some ⟨g, 0, none⟩) ah.length cc)).alloc (.cells #[.pointer (some ⟨a, 0, none⟩)] 38)) (.cells #[.int .i64 (q : Int)] 3)
          simpa using this
        have hb3 : V2.heap[w3.heap.size + 1]? = some (.cells #[.slice (some ⟨g, 0, none⟩) ah.length cc] 47 (0, 0)) := by
          have hlt := lt_of_heap HS.out.rc.abox
          rw [← hV2, Below.heap_alloc _ _ _ (by simp; omega), Below.heap_alloc _ _ _ (by simpa using hlt), set_in HS.out.rc.abox]; rfl
        have hcells := HS.out.rc.cells HPs.out
        have hneg : g ≠ w3.heap.size + 1 := fun e => by
          rcases HCut.out.2 with ⟨h1, _⟩ | ⟨g', cap, cur, h1, h2, h3, _⟩
          · cases h1
          · cases h1; rw [e, HS.out.rc.abox] at h3; simp at h3
        have hrc2 : Rc w.heap.size V2 a w.heap.size w3.heap.size (w3.heap.size + 1) ps n sc rs ah (.slice (some ⟨g, 0, none⟩) ah.length cc) := by
          refine ⟨HS.out.rc.lo, (hfr2.block _ (lt_of_heap HS.out.rc.hbox) (by simp; omega)).trans HS.out.rc.hbox, (hfr2.block _ (lt_of_heap HS.out.rc.rbox) (by simp)).trans HS.out.rc.rbox, hb3, own_congr HCut.out fun g' hg' => ?_, fun h0 => ?_⟩
          · have e : g = g' := by simpa [Value.ownBlock] using hg'
            subst e
            exact hfr2.block g (HCut.out.lt g rfl).2 (by simpa using hneg)
          · obtain ⟨sb, h1, h2, h3⟩ := HS.out.rc.marksAt h0
            exact ⟨sb, h1, h2, (hfr2.block _ (lt_of_heap h3) (by simp; intro e; rw [e, HS.out.rc.abox] at h3; simp at h3)).trans h3⟩
        have hwk0 : Wk w.heap.size a w.heap.size w3.heap.size (w3.heap.size + 1) ps n sc W (.slice (some ⟨g, 0, none⟩) (ah.length + 1) cc) (rs, ah) (.slice (some ⟨g, 0, none⟩) ah.length cc) V2 :=
          ⟨hrc2, hfr2.mono (fun b hb => .inl (mem_touch.2 (.inr (.inl (by simpa using hb))))), .inl rfl⟩
        have hen2 := HS.out.en.step hwk0
        have hthere := HS.out.sr.there q hq
        have hm : mhas M (q : Int) = true := by rw [← HI.out.hasM]; exact hthere
        have hm2 := of_decide_eq_true hm
        have hbt : (M.things.getD (q - 1) noTh).there = true := by have := hm2.2.2; rwa [show ((q : Int)).toNat - 1 = q - 1 from by omega] at this
        have hIs := HI.out.is (q - 1) (th_in hbt) hbt
        rw [show q - 1 + 1 = q from by omega] at hIs
        have hmem : (H.mem.length : Int) ≤ 1048576 := by have := HI.out.safe.small.mem; have := HI.out.safe.small.words; omega
        have hsW := HS.out.en.fr.size
        have hli : Li w.heap.size W.heap.size (W.heap.size + 1) a l H q V2 := ⟨hen2.rep HR.out, fun g hg => HR.out.lt g hg, by omega, hb1, hb2⟩
        have hsh : Sh n (rs, ah) := ⟨HS.out.sh.rd, HS.out.sh.rlt, (List.nodup_append.1 HS.out.sh.ad).1, fun x hx => HS.out.sh.sub x (by simp [hx])⟩
        have hfold : ∀ pre : List Int, Sh n (pre.foldl (seen1 H) (rs, ah)) := fun pre => Sh.fold H (fun z hz => (names_lt HLt.out z hz).2) pre (rs, ah) hsh
        refine wpIn_rangeFunc_ownG (F := Fence.wide) rfl (by decide) (gf := 102) (lb := #[.pointer (some ⟨W.heap.size, 0, none⟩), .pointer (some ⟨W.heap.size + 1, 0, none⟩)]) rfl trivial (enters_of Tryd.func102 (by kernel_rfl) rfl)
          (leads_stops 8 (by decide) w.heap.size W.heap.size (W.heap.size + 1) a l H q (M.things.getD (q - 1) noTh) hIs hmem V2 hli) Kl.trans ?hKb (Below.refl _ _) (fun _ => rfl)
          (fun pre W' => ∃ av', Wk w.heap.size a w.heap.size w3.heap.size (w3.heap.size + 1) ps n sc V2 (.slice (some ⟨g, 0, none⟩) ah.length cc) (pre.foldl (seen1 H) (rs, ah)) av' W') (fun _ _ _ => False)
          (fun pre A B row hs hg hr => hs.elim fun av' hk' => ⟨av', hk'.grown hg hr⟩) (fun _ _ _ _ _ hs _ _ => hs) ⟨_, Wk.refl hrc2⟩
          (fun x => { tmps := #[Value.pointer (some ⟨a, 0, none⟩), Value.slice p roots.length c, Value.pointer (some ⟨w.heap.size, 0, none⟩), undef, Value.slice none 0 0, Value.int .i64 0, v, Value.pointer (some ⟨w3.heap.size, 0, none⟩), Value.pointer (some ⟨w3.heap.size + 1, 0, none⟩), Value.pointer (some ⟨w3.heap.size + 1 + 1, 0, none⟩), undef, u11, Value.int .i64 ah.length, Value.int .i64 q, Value.int .i64 x, Value.pointer (some ⟨a, 0, none⟩), Value.bool false, Value.pointer (some ⟨a, 0, none⟩), v, v, Value.slice ps n sc, Value.func (Fn.func 86) #[] #[Value.pointer (some ⟨w.heap.size, 0, none⟩), Value.pointer (some ⟨w3.heap.size, 0, none⟩), Value.pointer (some ⟨w3.heap.size + 1, 0, none⟩)], Value.slice p roots.length c, Value.int .i64 roots.length, Value.int .i64 roots.length, Value.bool false, u26, u27, u28, u29, u30, u31, Value.slice (some ⟨g, 0, none⟩) (ah.length + 1) cc, Value.int .i64 (ah.length + 1), Value.bool true, Value.slice (some ⟨g, 0, none⟩) (ah.length + 1) cc, Value.int .i64 (ah.length + 1), Value.int .i64 ah.length, Value.slice (some ⟨g, 0, none⟩) (ah.length + 1) cc, Value.int .i64 ah.length, Value.pointer (some ⟨g, ah.length, none⟩), Value.int .i64 q, Value.slice (some ⟨g, 0, none⟩) (ah.length + 1) cc, Value.int .i64 ah.length, Value.slice (some ⟨g, 0, none⟩) ah.length cc, Value.pointer (some ⟨a, 0, none⟩), Value.int .i64 q, Value.func (Fn.func 102) #[] #[Value.pointer (some ⟨W.heap.size, 0, none⟩), Value.pointer (some ⟨W.heap.size + 1, 0, none⟩)], Value.int .i64 x, u49, u50, u51, undef, undef, undef], defers := [] }) ?assign ?body ?done ?stop
        case hKb =>
          intro X lx o o' h1 h2 h3 h4
          refine ⟨belowK_b (w := V2) (by omega) X lx o o' h1 h2 h3 h4, World.putObj_heap_other (by omega), World.putObj_heap_other (by omega)⟩
        case assign =>
          intro lp x X KK hKK
          gi_wp2
          exact hKK
        case body =>
          rintro lp pre x X ⟨av', hk'⟩ _
          have hE := hen2.step hk'
          have cm := hE.cm
          unfold meetV at cm
          have HMM := mkHid (meet_in HR.out HI.out HT.out HLt.out hn (hfold pre) hen2 hk' x)
          have HE := mkHid hE
          have HK' := mkHid hk'
          clear hE hk'
          gi_wp2
          refine ⟨trivial, ?_⟩
          refine (CallsIn.inRound lp (callsIn_wide.2 HMM.out)).mono ?_
          rintro e X2 ⟨rfl, av2, hk2, hf2⟩
          gi_wp2
          have hX := HK'.out.fr.size
          have hfar : ∀ b, b < V2.heap.size → W.heap.size ≤ b → b ∉ touch ps (w3.heap.size + 1) av' := fun b h1 h2 hm => by
            rcases HK'.out.far b hm with h3 | h3
            · have := (hcells b h3).2.1; omega
            · omega
          refine ⟨(keeps_of_fr hf2 fun b hb => ((HK'.out.rc.cells HPs.out) b hb).2.2).from _, ⟨hf2.below (by omega) HE.out.tT, hf2.block _ (by omega) (hfar _ (by omega) (by omega)), hf2.block _ (by omega) (hfar _ (by omega) (by omega))⟩, av2, ?_⟩
          rw [List.foldl_append]
          exact hk2
        case done =>
          rintro D ys X hD rfl ⟨av', hk'⟩ hKD
          gi_wp2
          obtain ⟨kk, hl1, hl2⟩ := fold_len H (leadsOf (M.things.getD (q - 1) noTh)) (rs, ah)
          have hrl := (hfold (leadsOf (M.things.getD (q - 1) noTh))).rlen
          refine ⟨_, ?_, hJ _ _ _ ⟨_, _, _, _, _, _, _, _, _, _, _, _, _, _, _, _, _, _, _, _, _, _, _, D :: Ds, _, av', rfl, ⟨hen2.step hk', hk'.rc, hfold _, HS.out.sr.step hq, ?_, ?_⟩, rfl⟩⟩
          · simp only [List.length_append, List.length_cons, List.length_nil] at hl1 hl2 ⊢
            omega
          · refine List.nodup_cons.2 ⟨fun hm => ?_, HS.out.nd⟩
            have := lt_of_heap (HS.out.marks D hm).2; omega
          · intro E hE
            rcases List.mem_cons.1 hE with e | hE
            · rw [e]; exact ⟨by omega, hKD⟩
            · obtain ⟨h1, h2⟩ := HS.out.marks E hE
              have hE2 : E ∉ touch ps (w3.heap.size + 1) (.slice (some ⟨g, 0, none⟩) ah.length cc) := fun hm => by
                obtain ⟨_, _, cs, tt, h3⟩ := hcells E hm
                rw [h2] at h3; simp at h3
              have hE3 : E ∉ [w3.heap.size + 1] := fun hm => hE2 (mem_touch.2 (.inr (.inl (by simpa using hm))))
              have hlt := lt_of_heap h2
              exact ⟨h1, ((hk'.fr.block E (by omega) hE2).trans (hfr2.block E hlt hE3)).trans h2⟩
        case stop =>
          rintro D cx pre X _ _ hx _
          exact hx.elim
end Go.Proofs.YtkmjimdaimbdfaaDoor


namespace Go.Proofs.YtkmjimdaimbdfaaDoor
open Go.RowKit
set_option linter.unusedVariables false
attribute [local go_sem ↓] Go.wp_at_zero Go.wp_at_succ
/-- the oops that stay, rising -/
def stays (H : HS) (rs : List Nat) : List Nat := (allTo H H.seats.length).filter fun x => decide (x ∈ rs)
theorem all_has {H : HS} {M : MS} (hi : Inv H M) {q : Nat} (h : q ∈ allTo H H.seats.length) : has H (q : Int) = true := by
  unfold allTo at h
  rw [List.mem_filter] at h
  have h1 := List.mem_range.1 h.1
  have h2 := of_decide_eq_true h.2
  have h0 : q ≠ 0 := fun e => by have := hi.seat0; rw [e] at h2; omega
  unfold has
  refine decide_eq_true ⟨by omega, by omega, ?_⟩
  rw [show ((q : Int)).toNat = q from by omega]; omega
theorem stays_has {H : HS} {M : MS} (hi : Inv H M) (rs : List Nat) : ∀ j ∈ stays H rs, mhas M (j : Int) = true := fun j hj => by
  rw [← hi.hasM]; exact all_has hi (List.mem_filter.1 hj).1
set_option maxRecDepth 20000 in
set_option maxHeartbeats 1000000 in
theorem Run_ok (a : Nat) (l : Lay) (H : HS) (M : MS) (p : Option Addr) (c : Nat) (roots : List Int) (w : World) (h : Rep w a l H) (hi : Inv H M) (hT : Tab w) (hr : Rd w (.slice p roots.length c) roots) (hage : H.age ≤ 1000000000) :
    Calls Tryd.prog 51 #[.pointer (some ⟨a, 0, none⟩), .slice p roots.length c] w fun e w' => ∃ rs, Sr H M roots (rs, []) ∧ e = .returned (.tuple #[.int .i64 ((H.count : Int) - (keepH H (stays H rs)).count), .int .i64 ((H.mem.length : Int) - (keepH H (stays H rs)).mem.length), .int .i64 0]) ∧
      Rep w' a l (keepH H (stays H rs)) ∧ Inv (keepH H (stays H rs)) { M with things := keptTh M.things (stays H rs) } ∧ Nx a l l w w' := by
  have HRe := mkHid (Reach_ok a l H M p c roots w h hi hT hr)
  have HR := mkHid h
  have HI := mkHid hi
  clear h hi hT hr
  go_enter Tryd.func51, Tryd.ntmps51
  go_wp2_with fail
  refine Calls.mono HRe.out ?_
  rintro e w2 ⟨v, rfl, rs, hsr, hrow, hf2⟩
  have hrow' : w2.ownsRow w.heap.size 3 1 v (stays H rs).length ((stays H rs).map I) := hrow
  obtain ⟨hK, hI2⟩ := HI.out.keep (stays H rs) (stays_has HI.out rs) hage
  obtain ⟨pv, cv, ev, hcv⟩ := own_slot (ss := (stays H rs).map fun x : Nat => (x : Int)) (by rw [List.length_map, List.map_map]; exact hrow')
  rw [List.length_map] at ev
  subst ev
  have hlen : (stays H rs).length ≤ H.seats.length := Nat.le_trans (List.length_filter_le _ _) (allTo_len H _)
  have hse := HI.out.told.seats
  have HKe := mkHid (Keep_any (stays H rs) pv cv a l H w2 (HR.out.keep hf2 (by simp)) hK (fun j hj => by
    obtain ⟨g, e, h3⟩ := hcv (by simp; omega)
    subst e
    have hg := hrow'.lt g rfl
    refine ⟨g, rfl, hg.2, fun hm => ?_, ?_⟩
    · have := HR.out.lt g hm; omega
    · rw [h3 j (by simpa using hj), List.getD_eq_getElem?_getD, List.getElem?_map, List.getD_eq_getElem?_getD, List.getElem?_eq_getElem hj]; rfl) (by omega))
  have HX := mkHid hI2
  have HF := mkHid hf2
  have HSr := mkHid hsr
  generalize hks : stays H rs = ks at *
  clear hrow hrow' hK hI2 hcv hf2 hsr
  go_wp2_with fail
  refine Calls.mono HKe.out ?_
  rintro e w3 ⟨rfl, hr3, hn3⟩
  have HN := mkHid hn3
  have HR3 := mkHid hr3
  have HKs := mkHid hks
  clear hn3 hr3 hks
  go_wp2_with fail
  refine bodyPost_ret (results_tmp3 rfl _ _ _) rfl ?_
  refine ⟨rs, HSr.out, ?_⟩
  rw [HKs.out]
  exact ⟨rfl, HR3.out, HX.out, (Nx.fr (HF.out.mono (by simp))).trans HN.out⟩
end Go.Proofs.YtkmjimdaimbdfaaDoor

