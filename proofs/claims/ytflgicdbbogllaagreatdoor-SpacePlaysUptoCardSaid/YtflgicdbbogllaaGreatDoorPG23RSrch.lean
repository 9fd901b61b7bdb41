import Derived.Test.YtflgicdbbogllaaGreatDoorPG22CPure
import Derived.Sort.LoopGhostIn
import Derived.Laws.EntriesVeiled
set_option maxHeartbeats 4000000
set_option maxRecDepth 100000
set_option linter.unusedSimpArgs false
set_option linter.unusedVariables false
namespace Go.Proofs.YtflgicdbbogllaaGreatDoor
open Go.RowKit Go.Shelf Tryz
open Value (int)
open IntKind (i64)
variable {B a ba bh bm br n sc : Nat} {H : HS} {T ah ks rs : List Nat} {V W W' w : World} {av av0 v : Value} {l : Lay} {ps : Option Addr}
theorem Rc.cells (h : Rc B W a bh br ba ps n sc rs ah av) (hp : n = 0 → ps = none) : ∀ b ∈ kCe ps ba av, B ≤ b ∧ b < W.heap.size ∧ ∃ cs t, W.heap[b]? = some (.cells cs t (0, 0)) := by
 intro b hb;unfold kCe at hb;rcases jAC.1 hb with h1 | h1
 ·by_cases hn : n = 0
  ·rw [hp hn] at h1; simp at h1
  ·obtain ⟨sb, e, h2, h3⟩ := h.marksAt (by omega);rw [e] at h1;have : b = sb := by simpa using h1
   rw [this];exact ⟨h2, kAB h3, _, _, h3⟩
 ·rcases jAF.1 h1 with e | h1
  ·rw [e]; exact ⟨h.lo.2.2, kAB h.abox, _, _, h.abox⟩
  ·rcases h.row.2 with ⟨e, _⟩ | ⟨g, cap, cur, e, h2, h3, _⟩
   ·rw [e] at h1; simp [Value.ownBlock] at h1
   ·rw [e] at h1;have : b = g := by simpa [Value.ownBlock] using h1
    rw [this];exact ⟨h2, kAB h3, _, _, h3⟩
theorem Rc.cong (h : Rc B W a bh br ba ps n sc rs ah av) (hf : ∀ (b : Nat) (cs : Array Value) (t : TypeId), W.heap[b]? = some (Obj.cells cs t (0, 0)) → V.heap[b]? = W.heap[b]?) : Rc B V a bh br ba ps n sc rs ah av :=
 ⟨h.lo, (hf _ _ _ h.hbox).trans h.hbox, (hf _ _ _ h.rbox).trans h.rbox, (hf _ _ _ h.abox).trans h.abox, kAE h.row fun g hg => by
  rcases h.row.2 with ⟨e, _⟩ | ⟨g', cap, cur, e, h2, h3, _⟩
  ·rw [e] at hg; simp [Value.ownBlock] at hg
  ·rw [e] at hg;have : g' = g := by simpa [Value.ownBlock] using hg
   rw [← this]; exact hf _ _ _ h3, fun hn => by
  obtain ⟨sb, h1, h2, h3⟩ := h.marksAt hn;exact ⟨sb, h1, h2, (hf _ _ _ h3).trans h3⟩⟩
structure Wk (B : Nat) (a bh br ba : Nat) (ps : Option Addr) (n sc : Nat) (V : World) (av0 : Value) (s : List Nat × List Nat) (av : Value) (W : World) : Prop where
 rc : Rc B W a bh br ba ps n sc s.1 s.2 av
 fr : Fr (kCe ps ba av0) V W
 own : av.ownBlock = av0.ownBlock ∨ ∃ g, av.ownBlock = some g ∧ V.heap.size ≤ g
theorem kBk {b : Nat} : b ∈ kCe ps ba av ↔ (∃ p, ps = some p ∧ b = p.block) ∨ b = ba ∨ av.ownBlock = some b := by
 unfold kCe;rw [jAC, jAF]
 cases ps <;> cases av.ownBlock <;> simp [eq_comm]
theorem Wk.far {s : List Nat × List Nat} (h : Wk B a bh br ba ps n sc V av0 s av W) : ∀ b ∈ kCe ps ba av, b ∈ kCe ps ba av0 ∨ V.heap.size ≤ b := by
 intro b hb;rcases kBk.1 hb with h1 | h1 | h1
 ·exact .inl (kBk.2 (.inl h1))
 ·exact .inl (kBk.2 (.inr (.inl h1)))
 ·rcases h.own with e | ⟨g, e, hg⟩
  ·exact .inl (kBk.2 (.inr (.inr (e ▸ h1))))
  ·rw [h1] at e; cases e; exact .inr hg
theorem Wk.refl {s : List Nat × List Nat} (h : Rc B V a bh br ba ps n sc s.1 s.2 av) : Wk B a bh br ba ps n sc V av s av V := ⟨h, Fr.refl _ _, .inl rfl⟩
theorem Wk.step {s s' : List Nat × List Nat} {av' : Value} (h : Wk B a bh br ba ps n sc V av0 s av W) (h1 : Rc B W' a bh br ba ps n sc s'.1 s'.2 av') (h2 : Fr (kCe ps ba av) W W') (h3 : av'.ownBlock = av.ownBlock ∨ ∃ g, av'.ownBlock = some g ∧ W.heap.size ≤ g) : Wk B a bh br ba ps n sc V av0 s' av' W' := by
 refine ⟨h1, h.fr.trans h2 h.far, ?_⟩;rcases h3 with e | ⟨g, e, hg⟩
 ·rw [e]; exact h.own
 ·exact .inr ⟨g, e, jAU h.fr.size hg⟩
theorem Wk.grown {s : List Nat × List Nat} {row : Option Nat} (h : Wk B a bh br ba ps n sc V av0 s av W) (hg : W.grownBy W' row) (hr : ∀ r, row = some r → V.heap.size ≤ r ∧ ∃ o : Obj, W.heap[r]? = some o ∧ o.isCells = false) : Wk B a bh br ba ps n sc V av0 s av W' := by
 refine ⟨h.rc.cong fun b cs t hb => hg.block b (kAB hb) (fun e => ?_), ?_, h.own⟩
 ·obtain ⟨_, o, h1, h2⟩ := hr b e.symm;rw [hb] at h1; cases h1; simp [Obj.isCells] at h2
 ·exact h.fr.trans (Fr.grown (S := row.toList) hg (fun k hk => by rw [hk]; simp)) (fun b hb => .inr (hr b (by simpa using hb)).1)
theorem kHW {S : List Nat} (h : Fr S W W') (hc : ∀ b ∈ S, ∃ cs t, W.heap[b]? = some (.cells cs t (0, 0))) : KeepsOthers W W' :=
 ⟨h.size, fun k o hk ho => by
  rw [h.block k (kAB hk) (fun hm => by obtain ⟨cs, t, e⟩ := hc k hm; rw [hk] at e; cases e; simp [Obj.isCells] at ho)];exact hk⟩
theorem kOt {base e : Nat} {p : Option Addr} {c m : Nat} {xs : List Value} {x : Value} (h : W.ownsRow base e 1 (.slice p (m + 1) c) (m + 1) (xs ++ [x])) : W.ownsRow base e 1 (.slice p m c) m xs ∧ ∃ g, p = some ⟨g, 0, none⟩ ∧ W.cell? ⟨g, m, none⟩ = some x ∧ m + 1 ≤ c ∧ c ≤ maxLen ∧ xs.length = m := by
 obtain ⟨hl, h⟩ := h;have hm : xs.length = m := by simp at hl; omega
 rcases h with ⟨h1, _⟩ | ⟨g, cap, cur, h1, h2, h3, h4, h5, h6, h7⟩
 ·cases h1
 ·cases h1
  have h8 : cur.toList.take m = xs := by
   have := congrArg (List.take m) h7;rw [List.take_take] at this;rw [show min m ((m + 1) * 1) = m by omega] at this;rw [this, ← hm]; simp
  refine ⟨⟨by omega, .inr ⟨g, c, cur, rfl, h2, h3, by omega, h5, h6, by rw [jBk]; exact h8⟩⟩, g, rfl, ?_, h4, h5, hm⟩;rw [kAC h3];have h9 : (cur.toList.take (m + 1))[m]? = some x := by rw [jBk] at h7; rw [h7, ← hm]; simp
  rw [jAx] at h9;rw [jp (by omega)] at h9
  simpa using h9
theorem kJZ (H : HS) (k : Nat) : (kAq H k).Pairwise (· < ·) := by
 unfold kAq;exact List.Pairwise.filter _ List.pairwise_lt_range
theorem kKv {l : List Nat} (h : l.Pairwise (· < ·)) : ∀ q ∈ l, q ≤ l.getD (l.length - 1) 0 := by
 intro q hq;obtain ⟨i, hi, e⟩ := jBP hq;have hl : l.length - 1 < l.length := by omega
 rw [jAA, jAB hl, Option.getD_some, ← e]
 by_cases c : i = l.length - 1
 ·simp [c]
 ·exact Nat.le_of_lt (jAm.1 h i (l.length - 1) hi hl (by omega))
theorem kKx (H : HS) (ks : List Nat) (hks : ks = kAq H H.fD.length) (hs : (H.fD.length : Int) ≤ 65538) (base : Nat) (v : Value) (w : World) (h : w.ownsRow base 3 1 v ks.length (ks.map I)) :
  Calls prog 121 #[v] w fun e w' => ∃ ps n sc, e = .returned (.slice ps n sc) ∧ (n = 0 → ps = none) ∧ Fr [] w w' ∧ n ≤ 1048576 ∧ (∀ q ∈ ks, q < n) ∧ (0 < n → ∃ sb, ps = some ⟨sb, 0, none⟩ ∧ w.heap.size ≤ sb ∧ w'.heap[sb]? = some (.cells (kCT n []).toArray 4 (0, 0))) := by
 have hlen : ks.length ≤ H.fD.length := by rw [hks]; exact kDl H _
 have hbig : ∀ q ∈ ks, q < H.fD.length := fun q hq => by rw [hks] at hq; unfold kAq at hq; simpa using (jBV.1 hq).1
 have hrise : ks.Pairwise (· < ·) := by rw [hks]; exact kJZ H _
 by_cases hk : ks.length = 0
 ·have : ∃ p c, v = .slice p 0 c := by
   rcases h.2 with ⟨e, _⟩ | ⟨g, cap, cur, e, _⟩
   ·exact ⟨_, _, e⟩
   ·exact ⟨some ⟨g, 0, none⟩, cap, by rw [e, hk]⟩
  obtain ⟨p, c, rfl⟩ := this;refine (kKe p c w).mono ?_;rintro e w' ⟨rfl, rfl⟩;have hnil : ks = [] := jBT.1 hk;exact ⟨none, 0, 0, rfl, fun _ => rfl, Fr.refl _ _, by omega, by simp [hnil], fun c => absurd c (by omega)⟩
 ·obtain ⟨p, c, rfl, hc⟩ := kCZ (ss := ks.map fun x : Nat => (x : Int)) (by rw [jAR, jAa]; exact h);obtain ⟨g, rfl, hcell⟩ := hc (by simp; omega);have hl := hcell (ks.length - 1) (by simp; omega)
  have hz : (ks.map fun x : Nat => (x : Int)).getD (ks.length - 1) 0 = ((ks.getD (ks.length - 1) 0 : Nat) : Int) := by
   rw [jAA, jAQ, jAA, jAB (by omega)]; rfl
  rw [hz] at hl;have hmem : ks.getD (ks.length - 1) 0 ∈ ks := by rw [jAA, jAB (by omega)]; exact jAT _
  have hzl := hbig _ hmem;rw [jAR];refine (kNR g c ks.length (ks.getD (ks.length - 1) 0) w (by omega) (by omega) (by omega) hl).mono ?_;rintro e w' ⟨rfl, rfl⟩;refine ⟨_, _, _, rfl, fun e => by omega, Fr.alloc _ _ _, by omega, fun q hq => by have := kKv hrise q hq; omega, fun _ => ⟨_, rfl, jAD _, ?_⟩⟩;exact heap_alloc_new w _
def kJW (bh br ba : Nat) : Value := .func (.func 122) #[] #[.pointer (some ⟨bh, 0, none⟩), .pointer (some ⟨br, 0, none⟩), .pointer (some ⟨ba, 0, none⟩)]
structure En (w : World) (bh br ba bm : Nat) (v : Value) (ks : List Nat) (T : List Nat) (X : World) : Prop where
 fr : Fr [] w X
 mbox : X.heap[bm]? = some (.cells #[kJW bh br ba] 168 (0, 0))
 all : X.ownsRow w.heap.size 3 1 v ks.length (ks.map I)
 mT : bm ∉ T
 aT : ∀ g, v.ownBlock = some g → g ∉ T
 tT : ∀ b ∈ T, w.heap.size ≤ b
theorem En.step {s : List Nat × List Nat} (h : En w bh br ba bm v ks (kCe ps ba av0) V) (k : Wk w.heap.size a bh br ba ps n sc V av0 s av W) : En w bh br ba bm v ks (kCe ps ba av) W := by
 refine ⟨h.fr.trans k.fr (fun b hb => .inr (h.tT b hb)), (k.fr.block _ (kAB h.mbox) h.mT).trans h.mbox, kAE h.all fun g hg => k.fr.block g (h.all.lt g hg).2 (h.aT g hg), fun hm => ?_, fun g hg hm => ?_, fun b hb => ?_⟩
 ·rcases k.far _ hm with h1 | h1
  ·exact h.mT h1
  ·have := kAB h.mbox; omega
 ·rcases k.far _ hm with h1 | h1
  ·exact h.aT g hg h1
  ·have := (h.all.lt g hg).2; omega
 ·rcases k.far _ hb with h1 | h1
  ·exact h.tT b h1
  ·have := h.fr.size; omega
theorem En.cm (h : En w bh br ba bm v ks T V) : V.cell? ⟨bm, 0, none⟩ = some (kJW bh br ba) := by rw [kAC h.mbox]; rfl
theorem En.rep (h : En w bh br ba bm v ks T V) (hr : Rep w a l H) : Rep V a l H := hr.keep h.fr (by simp)
theorem En.tab (h : En w bh br ba bm v ks T V) (hr : Rep w a l H) (hT : Tab w) : Tab V := hT.fr h.fr (Nat.zero_lt_of_lt (kAB hr.top))
theorem kPs {q : Nat} (h : has H (q : Int) = true) : q ∈ kAq H H.fD.length := by
 obtain ⟨h1, h2, h3⟩ := kAk h;unfold kAq;rw [jBV];exact ⟨List.mem_range.2 (by omega), decide_eq_true (by omega)⟩
theorem kEP (hlt : ∀ q ∈ kAq H H.fD.length, q < n) (z : Int) (hz : kAi H z = true) : 0 ≤ z / 4 ∧ (z / 4).toNat < n :=
 ⟨(kCJ hz).2, hlt _ (kPs (kCJ hz).1)⟩
theorem Sh.nil (n : Nat) : Sh n ([], []) := ⟨by simp, by simp, by simp, by simp⟩
theorem kJt {bh br ba bm : Nat} {v : Value} {ks : List Nat} {ps : Option Addr} {sc : Nat} {V W : World} {av0 av : Value} {s : List Nat × List Nat} {M : MS} (hr : Rep w a l H) (hi : Inv H M) (hT : Tab w) (hlt : ∀ q ∈ kAq H H.fD.length, q < n) (hn : n ≤ 1048576) (hs : Sh n s) 
  (h : En w bh br ba bm v ks (kCe ps ba av0) V) (k : Wk w.heap.size a bh br ba ps n sc V av0 s av W) (z : Int) :
  Calls prog 122 #[int i64 z, .pointer (some ⟨bh, 0, none⟩), .pointer (some ⟨br, 0, none⟩), .pointer (some ⟨ba, 0, none⟩)] W fun e W' => e = .returned (.tuple #[]) ∧ ∃ av', Wk w.heap.size a bh br ba ps n sc V av0 (kAo H s z) av' W' ∧ Fr (kCe ps ba av) W W' := by
 have hE := h.step k;have ha := hs.alen;refine (kMv z w.heap.size a bh br ba ps n sc s.1 s.2 av l H M W (hE.rep hr) hi (hE.tab hr hT) k.rc (kEP hlt z) hn (by omega)).mono ?_;rintro e W' ⟨rfl, av', h1, h2, h3⟩;exact ⟨rfl, av', k.step h1 h2 h3, h2⟩
end Go.Proofs.YtflgicdbbogllaaGreatDoor
namespace Go.Proofs.YtflgicdbbogllaaGreatDoor
open Go.RowKit Go.Shelf Tryz
open Value (int)
open IntKind (i64)
attribute [local go_sem] Oper.semAt_some
structure StC (w : World) (a bh br ba bm : Nat) (ps : Option Addr) (n sc : Nat) (v : Value) (H : HS) (M : MS) (roots : List Int) (s : List Nat × List Nat) (av : Value) (Ds : List Nat) (W : World) : Prop where
 en : En w bh br ba bm v (kAq H H.fD.length) (kCe ps ba av) W
 rc : Rc w.heap.size W a bh br ba ps n sc s.1 s.2 av
 sh : Sh n s
 sr : Sr H M roots s
 nd : Ds.Nodup
 marks : ∀ D ∈ Ds, w.heap.size ≤ D ∧ W.heap[D]? = some (.deferred (some []))
theorem kNY (a : Nat) (l : Lay) (H : HS) (M : MS) (p : Option Addr) (c : Nat) (roots : List Int) (w : World) (h : Rep w a l H) (hi : Inv H M) (hT : Tab w) (hr : Rd w (.slice p roots.length c) roots) :
  Calls prog 81 #[.pointer (some ⟨a, 0, none⟩), .slice p roots.length c] w fun e w' => ∃ v, e = .returned (.tuple #[v, int i64 0]) ∧ ∃ rs, Sr H M roots (rs, []) ∧ w'.ownsRow w.heap.size 3 1 v ((kAq H H.fD.length).filter fun x => decide (x ∈ rs)).length (((kAq H H.fD.length).filter fun x => decide (x ∈ rs)).map I) ∧ Fr [] w w' := by
 refine (callsIn_wide (n := 9)).1 ?_;refine callsIn_of_wp_marks func81 rfl trivial ?_ rfl;simp only [ntmps81, List.size_toArray, jBG, jBn, Nat.reduceAdd, Nat.reduceSub, Array.replicate_succ, Array.replicate_zero, List.push_toArray, List.append_toArray, jBo, List.cons_append];have HR := kAA h;have HI := kAA hi;have HT := kAA hT;have HRD := kAA hr;clear h hi hT hr
 gi_wp2
 refine ⟨trivial, ?_⟩;refine (callsIn_wide.2 (All_ok a l H _ (HR.out.alloc _) HI.out.told.fD)).mono ?_;rintro e w2 ⟨v, rfl, hv2, hf2⟩
 gi_wp2
 refine ⟨trivial, ?_⟩;refine (callsIn_wide.2 (kKx H _ rfl HI.out.told.fD _ v w2 hv2)).mono ?_;rintro e w3 ⟨ps, n, sc, rfl, hps, hf3, hn, hlt, hsb⟩
 gi_wp2
 have hs2 : w.heap.size + 1 ≤ w2.heap.size := by have := hf2.size; simpa using this
 have hs3 := hf3.size;have hfw : Fr [] w w3 := ((Fr.alloc [] w (.cells #[.pointer (some ⟨a, 0, none⟩)] 46)).trans hf2 (by simp)).trans hf3 (by simp);obtain ⟨V, hV⟩ := jxe ((((w3.alloc (Obj.cells #[Value.slice ps n sc] 164)).alloc (Obj.cells #[Value.slice none 0 0] 88)).alloc (Obj.cells #[Value.func (Fn.func 122) #[] #[Value.pointer (some { block := w.heap.size, off := 0 }), Value.pointer (some { block := w3.heap.size, off := 0 }), Value.pointer (some { block := w3.heap.size + 1, off := 0 })]] 168)));rw [hV];have hf3V : Fr [] w3 V := by rw [← hV]; exact ((Fr.alloc [] _ _).trans (Fr.alloc [] _ _) (by simp)).trans (Fr.alloc [] _ _) (by simp)
 have hszV : V.heap.size = w3.heap.size + 3 := by rw [← hV]; simp
 have hbr : V.heap[w3.heap.size]? = some (.cells #[.slice ps n sc] 164 (0, 0)) := by
  rw [← hV, jAN _ _ _ (by simp; omega), jAN _ _ _ (by simp)]; exact heap_alloc_new _ _
 have hba : V.heap[w3.heap.size + 1]? = some (.cells #[.slice none 0 0] 88 (0, 0)) := by
  rw [← hV, jAN _ _ _ (by simp)];have := heap_alloc_new (w3.alloc (Obj.cells #[Value.slice ps n sc] 164)) (Obj.cells #[Value.slice none 0 0] 88)
  simpa using this
 have hbm : V.heap[w3.heap.size + 2]? = some (.cells #[kJW w.heap.size w3.heap.size (w3.heap.size + 1)] 168 (0, 0)) := by
  rw [← hV];have := heap_alloc_new ((w3.alloc (Obj.cells #[Value.slice ps n sc] 164)).alloc (Obj.cells #[Value.slice none 0 0] 88)) (Obj.cells #[Value.func (Fn.func 122) #[] #[Value.pointer (some { block := w.heap.size, off := 0 }), Value.pointer (some { block := w3.heap.size, off := 0 }), Value.pointer (some { block := w3.heap.size + 1, off := 0 })]] 168)
  simpa [kJW] using this
 have hbh : V.heap[w.heap.size]? = some (.cells #[.pointer (some ⟨a, 0, none⟩)] 46 (0, 0)) := by
  rw [hf3V.block _ (by omega) (by simp), hf3.block _ (by omega) (by simp), hf2.block _ (by simp) (by simp)];exact heap_alloc_new _ _
 have hks : V.ownsRow w.heap.size 3 1 v (kAq H H.fD.length).length ((kAq H H.fD.length).map I) := by
  have h1 := kAE (kAE hv2 fun g hg => hf3.block g (hv2.lt g hg).2 (by simp)) (w' := V) fun g hg => hf3V.block g (by have := (hv2.lt g hg).2; omega) (by simp)
  exact kAV h1 (by simp)
 have hrc : Rc w.heap.size V a w.heap.size w3.heap.size (w3.heap.size + 1) ps n sc [] [] (.slice none 0 0) := by
  refine ⟨⟨jAD _, by omega, by omega⟩, hbh, hbr, hba, jAS _ _ _ _, fun h0 => ?_⟩;obtain ⟨sb, e, h1, h2⟩ := hsb h0;exact ⟨sb, e, by omega, (hf3V.block _ (kAB h2) (by simp)).trans h2⟩
 have hsbs : ∀ q, ps = some q → w2.heap.size ≤ q.block ∧ q.block < w3.heap.size := fun q e => by
  by_cases h0 : n = 0
  ·rw [hps h0] at e; cases e
  ·obtain ⟨sb, e1, h1, h2⟩ := hsb (by omega);rw [e1] at e; cases e; exact ⟨h1, kAB h2⟩
 have hEn : En w w.heap.size w3.heap.size (w3.heap.size + 1) (w3.heap.size + 1 + 1) v (kAq H H.fD.length) (kCe ps (w3.heap.size + 1) (.slice none 0 0)) V := by
  refine ⟨hfw.trans hf3V (by simp), hbm, hks, fun hm => ?_, fun g hg hm => ?_, fun b hb => ?_⟩
  ·rcases kBk.1 hm with ⟨q, e, e2⟩ | e | e
   ·have := hsbs q e; omega
   ·omega
   ·cases e
  ·have := (hv2.lt g hg).2;rcases kBk.1 hm with ⟨q, e, e2⟩ | e | e
   ·have := hsbs q e; omega
   ·omega
   ·cases e
  ·rcases kBk.1 hb with ⟨q, e, e2⟩ | e | e
   ·have := hsbs q e; omega
   ·omega
   ·cases e
 have hWk : Wk w.heap.size a w.heap.size w3.heap.size (w3.heap.size + 1) ps n sc V (.slice none 0 0) ([], []) (.slice none 0 0) V := Wk.refl hrc;have HEn := kAA hEn;have HWk := kAA hWk;have HLt := kAA hlt;have HPs := kAA hps;clear hEn hWk hrc hks hbh hbm hba hbr hf3V hV hfw hsb hf2 hf3 hv2 hlt hps hsbs;have hro := HRD.out.short;obtain ⟨p', c', ep, hat⟩ := HRD.out.at_
 cases ep
 have HAT := kAA hat;clear hat HRD
 gi_loopw [24] (fun i wr => ∃ k : Nat, k ≤ roots.length ∧ i = int i64 k ∧ ∃ av, Hid (Wk w.heap.size a w.heap.size w3.heap.size (w3.heap.size + 1) ps n sc V (.slice none 0 0) ((roots.take k).foldl (kAo H) ([], [])) av wr))
  (fun i _ => roots.length - (intOf i).toNat)
 case atStart => exact ⟨0, jAH _, rfl, _, HWk⟩
 case round =>
  obtain ⟨k, hk, rfl, av, HK⟩ := hrel
  by_cases hlt : k < roots.length
  ·have hE := HEn.out.step HK.out;obtain ⟨g, off, rfl, hg, hcell⟩ := HAT.out (by omega);have cm := hE.cm;unfold kJW at cm;have cz : wr.cell? ⟨g, off + k, none⟩ = some (int i64 (roots.getD k 0)) := (hE.fr.cell (p := ⟨g, off + k, none⟩) hg (by simp)).trans (hcell k hlt);have HM := kAA (kJt HR.out HI.out HT.out HLt.out hn (Sh.fold H (fun z hz => (kEP HLt.out z hz).2) (roots.take k) ([], []) (Sh.nil n)) HEn.out HK.out (roots.getD k 0))
   have HTk : Hid ((roots.take (k + 1)).foldl (kAo H) ([], []) = kAo H ((roots.take k).foldl (kAo H) ([], [])) (roots.getD k 0)) := by
    show (roots.take (k + 1)).foldl (kAo H) ([], []) = kAo H ((roots.take k).foldl (kAo H) ([], [])) (roots.getD k 0);rw [jAO hlt, List.foldl_append, jAA, jAB hlt]; rfl
   generalize roots.getD k 0 = z at *;clear hE hcell HK HAT
   gi_wp2
   refine ⟨trivial, ?_⟩;refine (callsIn_wide.2 HM.out).mono ?_;rintro e W2 ⟨rfl, av', hk2, _⟩;have HK2 := kAA hk2;clear hk2
   gi_wp2
   go_roundw
   case rel => exact ⟨k + 1, by omega, by simp, av', by rw [HTk.out]; exact HK2⟩
   case measure => simp [intOf]; omega
  ·obtain rfl : k = roots.length := by omega
   rw [jAV] at HK
   gi_wp2
   have HSt : Hid (StC w a w.heap.size w3.heap.size (w3.heap.size + 1) (w3.heap.size + 1 + 1) ps n sc v H M roots (roots.foldl (kAo H) ([], [])) av [] wr) :=
    ⟨HEn.out.step HK.out, HK.out.rc, Sh.fold H (fun z hz => (kEP HLt.out z hz).2) roots ([], []) (Sh.nil n), Sr.start H M roots, by simp, by simp⟩
   clear HK HEn HWk HAT;refine wpIn_loop_ghost_k (fun m A W => ∃ (u12 u13 u14 u32 u33 u34 u35 u36 u37 u38 u39 u40 u41 u42 u43 u44 u45 u46 u47 u48 u49 u50 u51 : Value) (Ds : List Nat) (s : List Nat × List Nat) (av : Value), m = n - s.1.length + s.2.length ∧ Hid (StC w a w.heap.size w3.heap.size (w3.heap.size + 1) (w3.heap.size + 1 + 1) ps n sc v H M roots s av Ds W) ∧ A = { tmps := #[Value.pointer (some ⟨a, 0, none⟩), Value.slice p roots.length c, Value.pointer (some ⟨w.heap.size, 0, none⟩), undef, Value.slice none 0 0, int i64 0, v, Value.pointer (some ⟨w3.heap.size, 0, none⟩), Value.pointer (some ⟨w3.heap.size + 1, 0, none⟩), Value.pointer (some ⟨w3.heap.size + 1 + 1, 0, none⟩), undef, u11, u12, u13, u14, Value.pointer (some ⟨a, 0, none⟩), Value.bool false, Value.pointer (some ⟨a, 0, none⟩), v, v, Value.slice ps n sc, Value.func (Fn.func 122) #[] #[Value.pointer (some ⟨w.heap.size, 0, none⟩), Value.pointer (some ⟨w3.heap.size, 0, none⟩), Value.pointer (some ⟨w3.heap.size + 1, 0, none⟩)], Value.slice p roots.length c, int i64 roots.length, int i64 roots.length, Value.bool false, u26, u27, u28, u29, u30, u31, u32, u33, u34, u35, u36, u37, u38, u39, u40, u41, u42, u43, u44, u45, u46, u47, u48, u49, u50, u51, undef, undef, undef], defers := Ds.map kOi }) _ ⟨_, _, _, _, _, _, _, _, _, _, _, _, _, _, _, _, _, _, _, _, _, _, _, [], _, av, rfl, HSt, rfl⟩ ?_;rintro m A W ⟨u12, u13, u14, u32, u33, u34, u35, u36, u37, u38, u39, u40, u41, u42, u43, u44, u45, u46, u47, u48, u49, u50, u51, Ds, ⟨rs, ah⟩, av1, rfl, HS, rfl⟩ J K hJ hK;clear HSt hk hlt hszV;rcases List.eq_nil_or_concat ah with rfl | ⟨ah, q, rfl⟩
   ·have ca := HS.out.rc.abox;have cr : W.cell? ⟨w3.heap.size, 0, none⟩ = some (.slice ps n sc) := by rw [kAC HS.out.rc.rbox]; rfl
    have cb : W.cell? ⟨w3.heap.size + 1, 0, none⟩ = some av1 := by rw [kAC ca]; rfl
    obtain ⟨pa, cc, rfl⟩ : ∃ pa cc, av1 = .slice pa 0 cc := by
     rcases HS.out.rc.row.2 with ⟨h2, h3⟩ | ⟨g, cap, cur, h2, h3⟩
     ·exact ⟨none, 0, by rw [h2]⟩
     ·exact ⟨some ⟨g, 0, none⟩, cap, h2⟩
    have hks := HS.out.en.all;have hkl : (kAq H H.fD.length).length ≤ 1048576 := by have := kDl H H.fD.length; have := HI.out.told.fD; omega
    have hrd := kCC (ss := (kAq H H.fD.length).map fun x : Nat => (x : Int)) (by rw [jAR, jAa]; exact hks) (by simp; omega);obtain ⟨p1, c1, ev, _⟩ := hrd.at_;rw [jAR] at ev;rw [ev] at hrd
    have HMk := kAA (kKE (kAq H H.fD.length) rs n p1 c1 ps sc W hrd (fun h0 => by
     have hn0 : 0 < n := by
      obtain ⟨x, hx⟩ := List.exists_mem_of_length_pos h0;have := HLt.out x hx; omega
     obtain ⟨sb, h1, h2, h3⟩ := HS.out.rc.marksAt hn0;exact ⟨sb, h1, kAB h3, fun i hi => by rw [kAC h3]; simpa using kCd n rs i hi⟩) HLt.out hkl hn)
    rw [← ev] at HMk;clear ca hks hrd ev
    gi_wp2
    refine ⟨trivial, ?_⟩;refine (callsIn_wide.2 HMk.out).mono ?_;rintro e W2 ⟨v2, rfl, hv2, hf2⟩
    gi_wp2
    have hsW := HS.out.en.fr.size;refine kEE Ds W2 HS.out.nd (fun D hD => (hf2.block _ (kAB (HS.out.marks D hD).2) (by simp)).trans (HS.out.marks D hD).2) fun w' hsh => ?_
    refine ⟨.tuple #[v2, int i64 0], by simp [results, Tryz.f81], v2, rfl, rs, HS.out.sr, ?_, ?_⟩
    ·exact kAV (kAE hv2 fun g hg => hsh.fr.block g (hv2.lt g hg).2 (fun hm => by have := kAB (HS.out.marks g hm).2; have := (hv2.lt g hg).1; omega)) hsW
    ·exact (HS.out.en.fr.trans hf2 (by simp)).trans hsh.fr (fun b hb => .inr (HS.out.marks b hb).1)
   ·rw [List.concat_eq_append] at HS hK
    obtain ⟨pa, cc, rfl⟩ : ∃ pa cc, av1 = .slice pa (ah.length + 1) cc := by
     rcases HS.out.rc.row.2 with ⟨h2, h3⟩ | ⟨g, cap, cur, h2, h3⟩
     ·simp at h3
     ·exact ⟨some ⟨g, 0, none⟩, cap, by rw [h2]; simp⟩
    have hrow : W.ownsRow w.heap.size 3 1 (.slice pa (ah.length + 1) cc) (ah.length + 1) (ah.map I ++ [I q]) := by
     have := HS.out.rc.row
     simpa using this
    obtain ⟨hcut, g, rfl, cq, hle, hmax, _⟩ := kOt hrow;have cb : W.cell? ⟨w3.heap.size + 1, 0, none⟩ = some (.slice (some ⟨g, 0, none⟩) (ah.length + 1) cc) := by rw [kAC HS.out.rc.abox]; rfl
    have fb : W.frozen? ⟨w3.heap.size + 1, 0, none⟩ = false := kAD HS.out.rc.abox 0;have ch : W.cell? ⟨w.heap.size, 0, none⟩ = some (.pointer (some ⟨a, 0, none⟩)) := by rw [kAC HS.out.rc.hbox]; rfl
    have hne : ¬ w.heap.size = w3.heap.size + 1 := by omega
    have hne2 : ¬ w3.heap.size + 1 = w.heap.size := by omega
    have hq : q ∈ rs := HS.out.sh.sub q (by simp);have hah : ah.length ≤ 1048576 := by have := HS.out.sh.alen; simp at this; omega
    unfold I at cq;have HCut := kAA hcut;clear hrow hcut
    gi_wp2
    refine ⟨trivial, ?_⟩;refine (kMn 8 a q _).mono ?_;rintro e W2 ⟨rfl, rfl⟩;rw [show (W.setCell ⟨w3.heap.size + 1, 0, none⟩ (.slice (some ⟨g, 0, none⟩) ah.length cc)).heap.size = W.heap.size from by simp]
    gi_wp2
    obtain ⟨V2, hV2⟩ := jxe (((W.setCell ⟨w3.heap.size + 1, 0, none⟩ (.slice (some ⟨g, 0, none⟩) ah.length cc)).alloc (.cells #[.pointer (some ⟨a, 0, none⟩)] 46)).alloc (.cells #[int i64 q] 3));rw [hV2];have hsz2 : V2.heap.size = W.heap.size + 2 := by rw [← hV2]; simp
    have hfr2 : Fr [w3.heap.size + 1] W V2 := by
     rw [← hV2];exact ((Fr.setCell (S := [w3.heap.size + 1]) W _ _ (by simp)).trans (Fr.alloc [] _ _) (by simp)).trans (Fr.alloc [] _ _) (by simp)
    have hb1 : V2.heap[W.heap.size]? = some (.cells #[.pointer (some ⟨a, 0, none⟩)] 46 (0, 0)) := by
     rw [← hV2, jAN _ _ _ (by simp)];have := heap_alloc_new (W.setCell ⟨w3.heap.size + 1, 0, none⟩ (.slice (some ⟨g, 0, none⟩) ah.length cc)) (.cells #[.pointer (some ⟨a, 0, none⟩)] 46)
     simpa using this
    have hb2 : V2.heap[W.heap.size + 1]? = some (.cells #[int i64 q] 3 (0, 0)) := by
     rw [← hV2];have := heap_alloc_new ((W.setCell ⟨w3.heap.size + 1, 0, none⟩ (.slice (some ⟨g, 0, none⟩) ah.length cc)).alloc (.cells #[.pointer (some ⟨a, 0, none⟩)] 46)) (.cells #[int i64 q] 3)
     simpa using this
    have hb3 : V2.heap[w3.heap.size + 1]? = some (.cells #[.slice (some ⟨g, 0, none⟩) ah.length cc] 88 (0, 0)) := by
     have hlt := kAB HS.out.rc.abox;rw [← hV2, jAN _ _ _ (by simp; omega), jAN _ _ _ (by simpa using hlt), kAI HS.out.rc.abox]; rfl
    have kBv := HS.out.rc.cells HPs.out
    have hneg : g ≠ w3.heap.size + 1 := fun e => by
     rcases HCut.out.2 with ⟨h1, _⟩ | ⟨g', cap, cur, h1, h2, h3, _⟩
     ·cases h1
     ·cases h1; rw [e, HS.out.rc.abox] at h3; simp at h3
    have hrc2 : Rc w.heap.size V2 a w.heap.size w3.heap.size (w3.heap.size + 1) ps n sc rs ah (.slice (some ⟨g, 0, none⟩) ah.length cc) := by
     refine ⟨HS.out.rc.lo, (hfr2.block _ (kAB HS.out.rc.hbox) (by simp; omega)).trans HS.out.rc.hbox, (hfr2.block _ (kAB HS.out.rc.rbox) (by simp)).trans HS.out.rc.rbox, hb3, kAE HCut.out fun g' hg' => ?_, fun h0 => ?_⟩
     ·have e : g = g' := by simpa [Value.ownBlock] using hg'
      subst e;exact hfr2.block g (HCut.out.lt g rfl).2 (by simpa using hneg)
     ·obtain ⟨sb, h1, h2, h3⟩ := HS.out.rc.marksAt h0;exact ⟨sb, h1, h2, (hfr2.block _ (kAB h3) (by simp; intro e; rw [e, HS.out.rc.abox] at h3; simp at h3)).trans h3⟩
    have hwk0 : Wk w.heap.size a w.heap.size w3.heap.size (w3.heap.size + 1) ps n sc W (.slice (some ⟨g, 0, none⟩) (ah.length + 1) cc) (rs, ah) (.slice (some ⟨g, 0, none⟩) ah.length cc) V2 :=
     ⟨hrc2, hfr2.mono (fun b hb => .inl (kBk.2 (.inr (.inl (by simpa using hb))))), .inl rfl⟩
    have hen2 := HS.out.en.step hwk0;have hthere := HS.out.sr.fI q hq;have hm : mhas M (q : Int) = true := by rw [← HI.out.hasM]; exact hthere
    have hm2 := of_decide_eq_true hm;have hbt : (M.fA.getD (q - 1) noTh).fI = true := by have := hm2.2.2; rwa [show ((q : Int)).toNat - 1 = q - 1 from by omega] at this
    have hIs := HI.out.is (q - 1) (kAs hbt) hbt;rw [show q - 1 + 1 = q from by omega] at hIs;have hmem : (H.mem.length : Int) ≤ 1048576 := by have := HI.out.safe.small.mem; have := HI.out.safe.small.fH; omega
    have hsW := HS.out.en.fr.size;have hli : Li w.heap.size W.heap.size (W.heap.size + 1) a l H q V2 := ⟨hen2.rep HR.out, fun g hg => HR.out.lt g hg, by omega, hb1, hb2⟩;have hsh : Sh n (rs, ah) := ⟨HS.out.sh.rd, HS.out.sh.rlt, (List.nodup_append.1 HS.out.sh.ad).1, fun x hx => HS.out.sh.sub x (by simp [hx])⟩;have hfold : ∀ pre : List Int, Sh n (pre.foldl (kAo H) (rs, ah)) := fun pre => Sh.fold H (fun z hz => (kEP HLt.out z hz).2) pre (rs, ah) hsh
    refine wpIn_rangeFunc_ownG (F := Fence.wide) rfl (by decide) (gf := 146) (lb := #[.pointer (some ⟨W.heap.size, 0, none⟩), .pointer (some ⟨W.heap.size + 1, 0, none⟩)]) rfl trivial (enters_of func146 (by kernel_rfl) rfl)
     (kHc 8 (by decide) w.heap.size W.heap.size (W.heap.size + 1) a l H q (M.fA.getD (q - 1) noTh) hIs hmem V2 hli) Kl.trans ?hKb (Below.refl _ _) (fun _ => rfl)
     (fun pre W' => ∃ av', Wk w.heap.size a w.heap.size w3.heap.size (w3.heap.size + 1) ps n sc V2 (.slice (some ⟨g, 0, none⟩) ah.length cc) (pre.foldl (kAo H) (rs, ah)) av' W') (fun _ _ _ => False)
     (fun pre A B row hs hg hr => hs.elim fun av' hk' => ⟨av', hk'.grown hg hr⟩) (fun _ _ _ _ _ hs _ _ => hs) ⟨_, Wk.refl hrc2⟩
     (fun x => { tmps := #[Value.pointer (some ⟨a, 0, none⟩), Value.slice p roots.length c, Value.pointer (some ⟨w.heap.size, 0, none⟩), undef, Value.slice none 0 0, int i64 0, v, Value.pointer (some ⟨w3.heap.size, 0, none⟩), Value.pointer (some ⟨w3.heap.size + 1, 0, none⟩), Value.pointer (some ⟨w3.heap.size + 1 + 1, 0, none⟩), undef, u11, int i64 ah.length, int i64 q, int i64 x, Value.pointer (some ⟨a, 0, none⟩), Value.bool false, Value.pointer (some ⟨a, 0, none⟩), v, v, Value.slice ps n sc, Value.func (Fn.func 122) #[] #[Value.pointer (some ⟨w.heap.size, 0, none⟩), Value.pointer (some ⟨w3.heap.size, 0, none⟩), Value.pointer (some ⟨w3.heap.size + 1, 0, none⟩)], Value.slice p roots.length c, int i64 roots.length, int i64 roots.length, Value.bool false, u26, u27, u28, u29, u30, u31, Value.slice (some ⟨g, 0, none⟩) (ah.length + 1) cc, int i64 (ah.length + 1), Value.bool true, Value.slice (some ⟨g, 0, none⟩) (ah.length + 1) cc, int i64 (ah.length + 1), int i64 ah.length, Value.slice (some ⟨g, 0, none⟩) (ah.length + 1) cc, int i64 ah.length, Value.pointer (some ⟨g, ah.length, none⟩), int i64 q, Value.slice (some ⟨g, 0, none⟩) (ah.length + 1) cc, int i64 ah.length, Value.slice (some ⟨g, 0, none⟩) ah.length cc, Value.pointer (some ⟨a, 0, none⟩), int i64 q, Value.func (Fn.func 146) #[] #[Value.pointer (some ⟨W.heap.size, 0, none⟩), Value.pointer (some ⟨W.heap.size + 1, 0, none⟩)], int i64 x, u49, u50, u51, undef, undef, undef], defers := [] }) ?assign ?body ?done ?stop
    case hKb =>
     intro X lx o o' h1 h2 h3 h4;refine ⟨belowK_b (w := V2) (by omega) X lx o o' h1 h2 h3 h4, World.putObj_heap_other (by omega), World.putObj_heap_other (by omega)⟩
    case assign =>
     intro lp x X KK hKK
     gi_wp2
     exact hKK
    case body =>
     rintro lp pre x X ⟨av', hk'⟩ _;have hE := hen2.step hk';have cm := hE.cm;unfold kJW at cm;have HMM := kAA (kJt HR.out HI.out HT.out HLt.out hn (hfold pre) hen2 hk' x);have HE := kAA hE;have HK' := kAA hk';clear hE hk'
     gi_wp2
     refine ⟨trivial, ?_⟩;refine (CallsIn.inRound lp (callsIn_wide.2 HMM.out)).mono ?_;rintro e X2 ⟨rfl, av2, hk2, hf2⟩
     gi_wp2
     have hX := HK'.out.fr.size
     have hfar : ∀ b, b < V2.heap.size → W.heap.size ≤ b → b ∉ kCe ps (w3.heap.size + 1) av' := fun b h1 h2 hm => by
      rcases HK'.out.far b hm with h3 | h3
      ·have := (kBv b h3).2.1; omega
      ·omega
     refine ⟨(kHW hf2 fun b hb => ((HK'.out.rc.cells HPs.out) b hb).2.2).from _, ⟨hf2.below (by omega) HE.out.tT, hf2.block _ (by omega) (hfar _ (by omega) (by omega)), hf2.block _ (by omega) (hfar _ (by omega) (by omega))⟩, av2, ?_⟩;rw [List.foldl_append];exact hk2
    case done =>
     rintro D ys X hD rfl ⟨av', hk'⟩ hKD
     gi_wp2
     obtain ⟨kk, hl1, hl2⟩ := kIf H (kBy (M.fA.getD (q - 1) noTh)) (rs, ah);have hrl := (hfold (kBy (M.fA.getD (q - 1) noTh))).rlen;refine ⟨_, ?_, hJ _ _ _ ⟨_, _, _, _, _, _, _, _, _, _, _, _, _, _, _, _, _, _, _, _, _, _, _, D :: Ds, _, av', rfl, ⟨hen2.step hk', hk'.rc, hfold _, HS.out.sr.step hq, ?_, ?_⟩, rfl⟩⟩
     ·simp only [jAG, jBG, jBn] at hl1 hl2 ⊢;omega
     ·refine List.nodup_cons.2 ⟨fun hm => ?_, HS.out.nd⟩;have := kAB (HS.out.marks D hm).2; omega
     ·intro E hE;rcases jAF.1 hE with e | hE
      ·rw [e]; exact ⟨by omega, hKD⟩
      ·obtain ⟨h1, h2⟩ := HS.out.marks E hE
       have hE2 : E ∉ kCe ps (w3.heap.size + 1) (.slice (some ⟨g, 0, none⟩) ah.length cc) := fun hm => by
        obtain ⟨_, _, cs, tt, h3⟩ := kBv E hm;rw [h2] at h3; simp at h3
       have hE3 : E ∉ [w3.heap.size + 1] := fun hm => hE2 (kBk.2 (.inr (.inl (by simpa using hm))))
       have hlt := kAB h2;exact ⟨h1, ((hk'.fr.block E (by omega) hE2).trans (hfr2.block E hlt hE3)).trans h2⟩
    case stop =>
     rintro D cx pre X _ _ hx _;exact hx.elim
end Go.Proofs.YtflgicdbbogllaaGreatDoor
namespace Go.Proofs.YtflgicdbbogllaaGreatDoor
open Go.RowKit Tryz
open Value (int)
open IntKind (i64)
attribute [local go_sem ↓] wp_at_zero wp_at_succ
variable {H : HS} {M : MS} {ls rs : List Nat} {roots : List Int} {v : Value} {w0 wr : World} {z : Int}
def kKH (H : HS) (rs : List Nat) : List Nat := (kAq H H.fD.length).filter fun x => decide (x ∈ rs)
theorem mem_zs {l : List Nat} : z ∈ zs l ↔ ∃ q ∈ l, (q : Int) = z := by unfold zs; exact jAZ
theorem kMr (n : Int) (w : World) (hk : kAJ n = 3) : Calls prog 147 #[int i64 n] w fun e w' => e = .returned (.tuple #[int i64 (n / 4), int i64 0]) ∧ w' = w := by
 have hK := kBY n w;rw [hk] at hK;obtain ⟨h1, h2, h3⟩ := (kHT n).1 hk;have hd : n.tdiv 4 = n / 4 := Int.tdiv_eq_ediv_of_nonneg (by omega);have HK := kAA hK;clear hK hk;go_enter func147, ntmps147
 go_wp2_with (go_at_call 98; refine HK.out.mono ?_; rintro e w' ⟨rfl, hw'⟩; rw [hw']; clear hw' w')
 go_ret2
 refine ⟨?_, rfl⟩
 first | rfl | (rw [hd]) | (congr 4)
theorem kQJ (n : Int) (w : World) (hk : kAJ n ≠ 3) : Calls prog 147 #[int i64 n] w fun e w' => e = .returned (.tuple #[int i64 0, int i64 10]) ∧ w' = w := by
 have hK := kBY n w;have hb : (kAJ n == 3) = false := by simpa using hk
 have HK := kAA hK;generalize kAJ n = kz at *;clear hK hk;go_enter func147, ntmps147
 go_wp2_with (go_at_call 98; refine HK.out.mono ?_; rintro e w' ⟨rfl, hw'⟩; rw [hw']; clear hw' w')
 go_ret2
 exact ⟨rfl, rfl⟩
structure Tw (H : HS) (M : MS) (R : RS) : Prop where
 has : ∀ z : Int, has H z = true ↔ ¬ RNo R z
 at_ : ∀ k, k < R.fE.length → lk M (R.fE.getD k noRO).oop = (R.fE.getD k noRO).cls :: (if (R.fE.getD k noRO).fmt = 0 then (R.fE.getD k noRO).fB else [])
def namN (H : HS) (z : Int) : Nat := if kAi H z = true then (z / 4).toNat else 0
theorem kEq (z : Int) (H : HS) (M : MS) (B r : Nat) (R : RS) (w : World) (h : RRep w B r R) (hl : R.fE.length ≤ 1048576) (ht : Tw H M R) :
  Calls prog 127 #[.pointer (some ⟨r, 0, none⟩), int i64 z] w fun e w' => e = .returned (int i64 (namN H z : Nat)) ∧ Fr [] w w' := by
 by_cases hk : kAJ z = 3
 ·have HO := kAA (kMr z w hk);have HC := kAA (kDy (z / 4) B r R w h hl);have hz := (kHT z).1 hk
  have hyes : ¬ RNo R (z / 4) → ((namN H z : Nat) : Int) = z / 4 := fun hn => by
   have hb : kAi H z = true := by unfold kAi; rw [decide_eq_true hk, (ht.has _).2 hn]; rfl
   unfold namN;rw [jp hb]; omega
  have hno : RNo R (z / 4) → ((namN H z : Nat) : Int) = 0 := fun hn => by
   have hb : ¬ kAi H z = true := by
    unfold kAi;rw [decide_eq_true hk, Bool.true_and];exact fun h => (ht.has _).1 h hn
   unfold namN;rw [jn hb]; rfl
  have HY := kAA hyes;have HN := kAA hno;generalize z / 4 = q at *;generalize namN H z = nz at *;clear h ht hk hz hyes hno;go_enter func127, ntmps127
  go_wp2_with (go_at_call 147; refine HO.out.mono ?_; rintro e w' ⟨rfl, hw'⟩; rw [hw']; clear hw' w')
  refine HC.out.mono ?_;rintro e w2 ⟨⟨k, hk, rfl⟩ | ⟨hn, rfl⟩, hf2⟩
  ·have e1 := HY.out (fun hno => hno k hk.1 hk.2);have E1 := kAA e1;have HF := kAA hf2;clear hk e1 hf2
   go_wp2_with fail
   go_ret
   exact ⟨by rw [E1.out]; rfl, HF.out⟩
  ·have E1 := kAA (HN.out hn);have HF := kAA hf2;clear hn hf2
   go_wp2_with fail
   go_ret
   exact ⟨by rw [E1.out]; rfl, HF.out⟩
 ·have HO := kAA (kQJ z w hk)
  have e1 : Hid (((namN H z : Nat) : Int) = 0) := by
   show ((namN H z : Nat) : Int) = 0;unfold namN kAi;rw [decide_eq_false hk]; simp
  generalize namN H z = nz at *;clear h ht hk;go_enter func127, ntmps127
  go_wp2_with (go_at_call 147; refine HO.out.mono ?_; rintro e w' ⟨rfl, hw'⟩; rw [hw']; clear hw' w')
  go_ret
  exact ⟨by rw [e1.out]; rfl, Fr.refl _ _⟩
theorem kOg (ss : List Int) (z : Int) (va : Value) (w : World) (ha : Rd w va ss) :
  Calls prog 129 #[va, int i64 z] w fun e w' => e = .returned (.bool (decide (z ∈ ss))) ∧ w' = w := by
 obtain ⟨pa, ca, rfl, hpa⟩ := ha.at_;have hl := ha.short;clear ha;have HA := kAA hpa;clear hpa;go_enter func129, ntmps129
 go_wp2_with fail
 go_loopw [5] (fun q wr => ∃ k : Nat, k ≤ ss.length ∧ q = int i64 k ∧ wr = w ∧ Hid (z ∉ ss.take k)) (fun q _ => ss.length - (intOf q).toNat)
 case atStart => exact ⟨0, jAH _, rfl, rfl, kAA (by simp)⟩
 case round =>
  obtain ⟨k, hkn, rfl, rfl, HZ⟩ := hrel
  by_cases hlt : k < ss.length
  ·obtain ⟨ga, oa, rfl, -, hca⟩ := HA.out (by omega);have x1 := hca k hlt;have k1 := ng k;have k2 : (k : Int) < ss.length := by omega
   have HT : Hid (ss.take (k + 1) = ss.take k ++ [ss.getD k 0]) := by
    show ss.take (k + 1) = ss.take k ++ [ss.getD k 0];rw [jAO hlt, jAA, jAB hlt]; rfl
   have HM : Hid (ss.getD k 0 ∈ ss) := by
    show ss.getD k 0 ∈ ss;rw [jAA, jAB hlt]; exact jAT _
   generalize ss.getD k 0 = y at *;clear hca HA
   by_cases he : y = z
   ·subst he;have HD : Hid (decide (y ∈ ss) = true) := decide_eq_true HM.out;clear HM HT HZ
    go_wp2_with fail
    go_ret
    exact ⟨by rw [HD.out]; rfl, rfl⟩
   ·have hb : (y == z) = false := by simpa using he
    have HN : Hid (z ∉ ss.take (k + 1)) := by
     show z ∉ ss.take (k + 1);rw [HT.out, jAC];rintro (h1 | h1)
     ·exact HZ.out h1
     ·simp at h1; exact he h1.symm
    clear HT HM HZ he
    go_wp2_with fail
    go_roundw
    case rel => exact ⟨k + 1, by omega, by go_num, trivial, HN⟩
    case measure => simp [intOf]; omega
  ·have hke : k = ss.length := by omega
   subst hke;have HD : Hid (decide (z ∈ ss) = false) := decide_eq_false (by have := HZ.out; rwa [jAV] at this)
   go_wp2_with fail
   go_ret
   exact ⟨by rw [HD.out]; rfl, rfl⟩
structure Mine (w0 wr : World) (v : Value) (ls : List Nat) : Prop where
 own : wr.ownsRow w0.heap.size 3 1 v ls.length (ls.map I)
 fr : Fr [] w0 wr
theorem Mine.nil (w : World) : Mine w w (.slice none 0 0) [] := ⟨jAS _ _ _ _, Fr.refl _ _⟩
theorem Mine.fK {V : World} (h : Mine w0 wr v ls) (hf : Fr [] wr V) : Mine w0 V v ls :=
 ⟨kAE h.own fun g hg => hf.block g (h.own.lt g hg).2 (by simp), h.fr.trans hf (by simp)⟩
theorem Mine.grow {w1 : World} {v' : Value} {m : Nat} {o : Obj} (h : Mine w0 wr v ls) (hown : w1.ownsRow w0.heap.size 3 1 v' (ls.length + 1) (ls.map I ++ [I m])) (hg : (wr.alloc o).grownBy w1 v.ownBlock) : Mine w0 w1 v' (ls ++ [m]) := by
 refine ⟨by simpa using hown, ?_⟩;have h1 : Fr [] w0 (wr.alloc o) := h.fr.trans (Fr.alloc [] _ _) (by simp);refine ⟨hg.os.trans h1.os, hg.tape.trans h1.tape, hg.output.trans h1.output, jAU h1.size hg.size, fun i hi hni => ?_⟩;rw [hg.block i (jAb hi h1.size) (fun e => by have := (h.own.lt i e.symm).1; omega)];exact h1.block i hi hni
theorem Mine.is (h : Mine w0 wr v ls) : ∃ p c, v = .slice p ls.length c := by
 rcases h.own.2 with ⟨h2, h3⟩ | ⟨g, cap, cur, h2, h3⟩
 ·exact ⟨none, 0, by rw [h2, h3]⟩
 ·exact ⟨_, cap, h2⟩
theorem I_map (ls : List Nat) : ls.map I = (ls.map fun x : Nat => (x : Int)).map (int i64) := by rw [jAa]; rfl
theorem Mine.rd (h : Mine w0 wr v ls) (hl : ls.length ≤ 1048576) : Rd wr v (zs ls) := by
 have h1 := h.own;rw [I_map] at h1;have e : (zs ls).length = ls.length := by simp [zs]
 have h2 : wr.ownsRow w0.heap.size 3 1 v (zs ls).length ((zs ls).map (int i64)) := by rw [e]; exact h1
 exact kCC h2 (by omega)
theorem Mine.cell {w0 wr : World} {v : Value} {ls : List Nat} (h : Mine w0 wr v ls) (k : Nat) (hk : k < ls.length) : ∃ g c, v = .slice (some ⟨g, 0, none⟩) ls.length c ∧ wr.cell? ⟨g, k, none⟩ = some (int i64 (ls.getD k 0 : Nat)) := by
 rcases h.own.2 with ⟨h2, h3⟩ | ⟨g, cap, cur, h2, h3⟩
 ·omega
 ·refine ⟨g, cap, h2, ?_⟩;have h1 := h.own;rw [h2] at h1;rw [h1.cellAt k (by omega), jAQ, jAA, jAB hk];rfl
def addL (ls : List Nat) (m : Nat) : List Nat := if m = 0 ∨ m ∈ ls then ls else ls ++ [m]
theorem kGG (ls : List Nat) (m : Nat) (v : Value) (w0 wr : World) (h : Mine w0 wr v ls) (hl : ls.length ≤ 1048576) :
  Calls prog 126 #[v, int i64 m] wr fun e w' => ∃ v', e = .returned v' ∧ Mine w0 w' v' (addL ls m) := by
 obtain ⟨j0, ji, jz0, jz1, jz2⟩ := info_parts kGs;obtain ⟨p, c, rfl⟩ := h.is;have HI := kAA (kOg (zs ls) (m : Int) _ wr (h.rd hl));have HM := kAA h
 have e1 : decide ((m : Int) ∈ zs ls) = decide (m ∈ ls) := by
  rw [jBZ, decide_eq_true_eq, decide_eq_true_eq, kHf]
 rw [e1] at HI;have HA : Hid (addL ls m = if m = 0 ∨ m ∈ ls then ls else ls ++ [m]) := rfl;generalize addL ls m = L2 at *;clear h e1
 by_cases h0 : m = 0
 ·have hb : ((m : Int) == 0) = true := by simpa using h0
  have HA2 := HA.out;rw [jp (.inl h0)] at HA2;have HA3 := kAA HA2;clear HA2 HA h0 HI;go_enter func126, ntmps126
  go_wp2_with fail
  all_goals try (go_quiet (fail); go_wp2_with fail)
  all_goals
   go_ret
   refine ⟨_, rfl, ?_⟩;rw [HA3.out];exact HM.out.fK (by first | exact Fr.refl _ _ | exact Fr.drew [] _ | exact Fr.drewN [] _ _)
 ·have hb : ((m : Int) == 0) = false := by simpa using h0
  by_cases hin : m ∈ ls
  ·have HA2 := HA.out;rw [jp (.inr hin)] at HA2;rw [decide_eq_true hin] at HI;have HA3 := kAA HA2;clear HA2 HA h0 hin;go_enter func126, ntmps126
   go_wp2_with (go_at_call 129; refine HI.out.mono ?_; rintro e w' ⟨rfl, hw'⟩; rw [hw']; clear hw' w')
   go_ret
   refine ⟨_, rfl, ?_⟩;rw [HA3.out];exact HM.out
  ·have HA2 := HA.out;rw [jn (fun h => by rcases h with h | h; exact h0 h; exact hin h)] at HA2;rw [decide_eq_false hin] at HI;have HA3 := kAA HA2;have hz := HM.out.fr.size;have hown2 := HM.out.own.alloc (.cells #[int i64 m] 3);clear HA2 HA h0 hin;go_enter func126, ntmps126
   go_wp2_with (first | (at_builtin; refine wpList_append_own _ rfl (.tmp 13) (.tmp 15) 88 rfl w0.heap.size 3 j0 (int i64 0) 1 8 underlying88 ji jz0 jz1 jz2 rfl (by decide) _ _ _ rfl hown2 ⟨wr.heap.size, 0, none⟩ 1 1 [int i64 m] rfl rfl ?c1 ?c2 ?c3 ?c4 ?c5 ?_) | (go_at_call 129; refine HI.out.mono ?_; rintro e w' ⟨rfl, hw'⟩; rw [hw']; clear hw' w') | go_in)
   case c1 =>
    have := World.news_of_block (heap_alloc_new wr (.cells #[int i64 m] 3))
    simpa using this
   case c2 => first | rfl | (intro u hu; simp at hu; subst hu; rfl)
   case c3 => unfold maxLen; omega
   case c4 => omega
   case c5 => first | omega | (simp; omega)
   intro v' w1 hown' hgrow _;have HG := kAA (HM.out.grow (m := m) hown' hgrow);clear hown' hgrow hown2
   go_wp2
   go_ret
   exact ⟨_, rfl, by rw [HA3.out]; exact HG.out⟩
theorem kLy (h : kAi H z = true) : namN H z = (z / 4).toNat ∧ namN H z ≠ 0 := by
 have h1 := kCJ h;unfold namN;rw [jp h];refine ⟨rfl, fun e => ?_⟩;unfold kAi at h;rw [jBA, decide_eq_true_eq] at h;have := (kHT z).1 h.1;omega
theorem kMk (H : HS) (rs : List Nat) (t : Nat) (ht : t ≤ rs.length) (z : Int) : kAo H (rs, rs.drop t) z = (addL rs (namN H z), (addL rs (namN H z)).drop t) := by
 unfold kAo addL
 by_cases hn : kAi H z = true
 ·obtain ⟨e1, e2⟩ := kLy hn;rw [e1] at e2 ⊢
  by_cases hm : (z / 4).toNat ∈ rs
  ·rw [jn (fun h => h.2 hm), jp (.inr hm)]
  ·rw [jp ⟨hn, hm⟩, jn (fun h => by rcases h with h | h; exact e2 h; exact hm h)];rw [List.drop_append_of_le_length ht]
 ·have e : namN H z = 0 := by unfold namN; rw [jn hn]
  rw [jn (fun h => hn h.1), e, jp (.inl rfl)]
def adds (H : HS) (rs : List Nat) (l : List Int) : List Nat := l.foldl (fun s z => addL s (namN H z)) rs
theorem kFt (rs : List Nat) (m : Nat) : rs.length ≤ (addL rs m).length := by unfold addL; split <;> simp
theorem kNh (rs : List Nat) (m t : Nat) (ht : t < rs.length) : (addL rs m).getD t 0 = rs.getD t 0 := by
 unfold addL
 split
 ·rfl
 ·rw [jAA, jAK ht, ← jAA]
theorem kFo (H : HS) (t : Nat) : ∀ (l : List Int) (rs : List Nat), t ≤ rs.length → l.foldl (kAo H) (rs, rs.drop t) = (adds H rs l, (adds H rs l).drop t)
 | [], rs, _ => rfl
 | z :: l, rs, ht => by
  rw [List.foldl_cons, kMk H rs t ht z];have := kFt rs (namN H z);rw [kFo H t l _ (by omega)];rfl
theorem kIh (H : HS) : ∀ (l : List Int) (rs : List Nat), rs.length ≤ (adds H rs l).length
 | [], rs => jAD _
 | z :: l, rs => jAU (kFt rs (namN H z)) (kIh H l _)
theorem kIL (H : HS) (t : Nat) : ∀ (l : List Int) (rs : List Nat), t < rs.length → (adds H rs l).getD t 0 = rs.getD t 0
 | [], rs, _ => rfl
 | z :: l, rs, ht => by
  have := kFt rs (namN H z);show (adds H (addL rs (namN H z)) l).getD t 0 = _;rw [kIL H t l _ (by omega), kNh rs _ t ht]
theorem kGH (H : HS) (rs : List Nat) (l : List Int) (z : Int) : adds H rs (l ++ [z]) = addL (adds H rs l) (namN H z) := by
 unfold adds;rw [List.foldl_append];rfl
structure Fnd (H : HS) (rs : List Nat) : Prop where
 nd : rs.Nodup
 th : ∀ q ∈ rs, has H (q : Int) = true
theorem Fnd.nil (H : HS) : Fnd H [] := ⟨by simp, by simp⟩
theorem Fnd.len (h : Fnd H rs) : rs.length ≤ H.fD.length :=
 kDJ _ _ h.nd fun q hq => by
  have := of_decide_eq_true (h.th q hq);omega
theorem Fnd.add (h : Fnd H rs) (z : Int) : Fnd H (addL rs (namN H z)) := by
 unfold addL
 split
 ·exact h
 ·rename_i hc
  have hn : kAi H z = true := Classical.byContradiction fun hn => hc (.inl (by unfold namN; rw [jn hn]))
  obtain ⟨e1, e2⟩ := kLy hn;refine ⟨kDs h.nd (fun hm => hc (.inr hm)), fun q hq => ?_⟩;rcases jAC.1 hq with h1 | h1
  ·exact h.th q h1
  ·rw [jAp.1 h1, e1];exact (kCJ hn).1
theorem Fnd.adds : ∀ (l : List Int) {rs : List Nat}, Fnd H rs → Fnd H (adds H rs l)
 | [], _, h => h
 | z :: l, _, h => Fnd.adds l (h.add z)
theorem Sr.pop {ah : List Nat} {q : Nat} (h : Sr H M roots (rs, q :: ah)) (hq : q ∈ rs) : Sr H M roots ((lk M q).foldl (kAo H) (rs, ah)) := by
 obtain ⟨a1, a2, a3, a4⟩ := kEV H (lk M q) (rs, ah);refine ⟨fun p hp => ?_, fun z hz hn => a1 _ (h.fN z hz hn), fun p hp => ?_, fun X hX p hp => ?_⟩
 ·rcases a3 p hp with h1 | ⟨_, z, _, h1, h2⟩
  ·exact h.fI p h1
  ·rw [h2]; exact (kCJ h1).1
 ·rcases a3 p hp with h1 | ⟨h1, _⟩
  ·by_cases e : p = q
   ·right; intro z hz hn; rw [e] at hz; exact a4 z hz hn
   ·rcases h.on p h1 with h2 | h2
    ·left
     rcases jAF.1 h2 with h3 | h3
     ·exact absurd h3 e
     ·exact a2 p h3
    ·right; intro z hz hn; exact a1 _ (h2 z hz hn)
  ·exact .inl h1
 ·rcases a3 p hp with h1 | ⟨_, z, hz, h1, h2⟩
  ·exact h.least X hX p h1
  ·rw [h2]; exact hX.on q (h.least X hX q hq) z hz h1
theorem kNm (H : HS) (M : MS) (roots : List Int) : Sr H M roots (adds H [] roots, (adds H [] roots).drop 0) := by
 have := Sr.start H M roots;have e := kFo H 0 roots [] (jAD _);rw [List.drop_zero] at e;rw [e] at this;exact this
theorem kQD {t : Nat} (ht : t < rs.length) (h : Sr H M roots (rs, rs.drop t)) : Sr H M roots (adds H rs (lk M (rs.getD t 0)), (adds H rs (lk M (rs.getD t 0))).drop (t + 1)) := by
 have e1 : rs.getD t 0 = rs[t] := by rw [jAA, jAB ht]; rfl
 rw [jBD ht] at h;have := h.pop (jAT ht);rw [kFo H (t + 1) _ rs ht] at this;rw [e1];exact this
end Go.Proofs.YtflgicdbbogllaaGreatDoor
