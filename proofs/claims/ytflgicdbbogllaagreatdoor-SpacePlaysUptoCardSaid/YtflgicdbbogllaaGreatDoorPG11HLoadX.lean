import Derived.Test.YtflgicdbbogllaaGreatDoorPG10HObj
set_option maxHeartbeats 1000000
set_option maxRecDepth 20000
set_option linter.unusedSimpArgs false
set_option linter.unusedVariables false
namespace Go.Proofs.YtflgicdbbogllaaGreatDoor
open Go.RowKit Tryz
open Value (int)
open IntKind (i64)
attribute [local go_sem ↓] wp_at_zero wp_at_succ
variable {B base fH fM mark : Nat} {H : HS} {M : MS} {W w w' : World} {ov v : Value} {ss : List Int}
structure OS where
 oop : Nat
 cls : Int
 fmt : Nat
 fB : List Int
 v : Value
def os4 (o : OS) : List Value := [int i64 o.oop, int i64 o.cls, int i64 o.fmt, o.v]
def kBI (l : List OS) : List Value := l.flatMap os4
def kDo (o : OS) : Nat × Int × Nat × List Int := (o.oop, o.cls, o.fmt, o.fB)
structure SRep (w : World) (base : Nat) (ov : Value) (l : List OS) : Prop where
 row : w.ownsRow base 139 4 ov l.length (kBI l)
 fB : ∀ o ∈ l, w.ownsRow base 41 1 o.v o.fB.length (o.fB.map (int i64))
theorem SRep.fK {l : List OS} (h : SRep w base ov l) (hf : Fr [] w w') : SRep w' base ov l :=
 ⟨kAE h.row fun g hg => hf.block g (h.row.lt g hg).2 (by simp), fun o ho => kAE (h.fB o ho) fun g hg => hf.block g ((h.fB o ho).lt g hg).2 (by simp)⟩
def kAr (H : HS) (S : List Th) (j : Nat) : List (Nat × Int × Nat × List Int) := ((H.fC.take j).filter (fun o => o != 0)).map fun o => (o, (S.getD (o - 1) noTh).cls, (S.getD (o - 1) noTh).fmt, (S.getD (o - 1) noTh).fB)
theorem kHh (H : HS) (S : List Th) (j : Nat) (hj : j < H.fC.length) (h0 : H.fC.getD j 0 = 0) : kAr H S (j + 1) = kAr H S j := by
 unfold kAr;rw [jAA, jAB hj] at h0;have h0' : H.fC[j] = 0 := h0;rw [jAO hj, jAs, h0']
 simp
theorem kJq (H : HS) (S : List Th) (j o : Nat) (hj : j < H.fC.length) (h0 : H.fC.getD j 0 = o) (hn : o ≠ 0) : kAr H S (j + 1) = kAr H S j ++ [(o, (S.getD (o - 1) noTh).cls, (S.getD (o - 1) noTh).fmt, (S.getD (o - 1) noTh).fB)] := by
 unfold kAr;rw [jAA, jAB hj] at h0;have h0' : H.fC[j] = o := h0;rw [jAO hj, jAs, h0', jAP]
 simp [hn]
structure St1 (w W : World) (B fH fM mark : Nat) (ks : List (Nat × Int × Nat × List Int)) : Prop where
 fr : Fr [] w W
 lo : w.heap.size + 1 ≤ B
 res : W.heap[w.heap.size]? = some (.cells #[int i64 0, int i64 0, int i64 0, .slice none 0 0] 82 (0, 0))
 at_ : ∃ ov l, W.heap[B]? = some (.cells #[int i64 fH, int i64 fM, int i64 mark, ov] 82 (0, 0)) ∧ SRep W (B + 1) ov l ∧ l.map kDo = ks
theorem St1.fK {W' : World} {ks : List (Nat × Int × Nat × List Int)} (h : St1 w W B fH fM mark ks) (hf : Fr [] W W') : St1 w W' B fH fM mark ks := by
 obtain ⟨ov, l, h1, h2, h3⟩ := h.at_;exact ⟨h.fr.trans hf (by simp), h.lo, (hf.block _ (kAB h.res) (by simp)).trans h.res, ov, l, (hf.block _ (kAB h1) (by simp)).trans h1, h2.fK hf, h3⟩
theorem kFF (l : List OS) (o : OS) : kBI (l ++ [o]) = kBI l ++ os4 o := by simp [kBI]
theorem St1.next {V W2 : World} {ks : List (Nat × Int × Nat × List Int)} {l : List OS} {o : OS} {g2 cap : Nat} (h : St1 w W B fH fM mark ks) (hv : W.heap[B]? = some (.cells #[int i64 fH, int i64 fM, int i64 mark, ov] 82 (0, 0))) (hr : SRep W (B + 1) ov l) (hk : l.map kDo = ks) 
  (ho : W.ownsRow (B + 1) 41 1 o.v o.fB.length (o.fB.map (int i64)))
  (hg : (W.alloc (.cells (os4 o).toArray 139)).grownBy W2 ov.ownBlock) (hown : W2.ownsRow (B + 1) 139 4 (.slice (some ⟨g2, 0, none⟩) (l.length + 1) cap) (l.length + 1) (kBI l ++ os4 o))
  (he : Eqw (W2.setCell ⟨B, 3, none⟩ (.slice (some ⟨g2, 0, none⟩) (l.length + 1) cap)) V) : St1 w V B fH fM mark (ks ++ [kDo o]) := by
 have hBl := kAB hv;have hlo := h.lo;have hne : ∀ b, ov.ownBlock = some b → B + 1 ≤ b := fun b hb => (hr.row.lt b hb).1
 have hsame : ∀ i, i < W.heap.size → some i ≠ ov.ownBlock → W2.heap[i]? = W.heap[i]? := fun i hi hn => by
  rw [hg.block i (by simp; omega) hn];exact jAN _ _ _ hi
 have hlow : ∀ i, i < W.heap.size → i ≤ B → W2.heap[i]? = W.heap[i]? := fun i hi hle => hsame i hi (fun e => by have := hne _ e.symm; omega)
 have hV : ∀ i, i ≠ B → V.heap[i]? = W2.heap[i]? := fun i hi => by rw [he.2.2.2, kAK hi]
 have hg2 : B + 1 ≤ g2 := (hown.lt g2 rfl).1
 have hsl : ∀ x : OS, W.ownsRow (B + 1) 41 1 x.v x.fB.length (x.fB.map (int i64)) → V.ownsRow (B + 1) 41 1 x.v x.fB.length (x.fB.map (int i64)) := fun x hx => by
  refine kAE hx fun g hg3 => ?_
  have hl := hx.lt g hg3;rw [hV g (by omega)];refine hsame g hl.2 (fun e => ?_);rcases hx.2 with ⟨q1, _⟩ | ⟨g', cap', cur', q1, q2, q3, _⟩
  ·rw [q1] at hg3; simp [Value.ownBlock] at hg3
  ·rw [q1] at hg3;have e1 : g' = g := by simpa [Value.ownBlock] using hg3
   subst e1;rcases hr.row.2 with ⟨r1, _⟩ | ⟨g'', cap'', cur'', r1, r2, r3, _⟩
   ·rw [r1] at e; simp [Value.ownBlock] at e
   ·rw [r1] at e;have e2 : g' = g'' := by simpa [Value.ownBlock] using e
    subst e2;rw [q3] at r3
    simp at r3
 refine ⟨?_, h.lo, ?_, .slice (some ⟨g2, 0, none⟩) (l.length + 1) cap, l ++ [o], ?_, ⟨?_, ?_⟩, by rw [jAP, hk]; rfl⟩
 ·have F1 : Fr [] w W2 := by
   refine ⟨hg.os.trans h.fr.os, hg.tape.trans h.fr.tape, hg.output.trans h.fr.output, jAU h.fr.size (jAU (by simp) hg.size), fun i hi hn => ?_⟩;have := h.fr.size;rw [hlow i (by omega) (by omega)];exact h.fr.block i hi (by simp)
  have F2 : Fr [] w (W2.setCell ⟨B, 3, none⟩ (.slice (some ⟨g2, 0, none⟩) (l.length + 1) cap)) := F1.trans (Fr.setCell (S := [B]) _ _ _ (by simp)) (fun b hb => by simp at hb; subst hb; right; omega);exact F2.trans (he.fr []) (by simp)
 ·rw [hV _ (by omega), hlow _ (kAB h.res) (by omega)]; exact h.res
 ·have h4 := hlow B hBl (jAD _);rw [hv] at h4;rw [he.2.2.2, kAI h4];rfl
 ·rw [jAG, kFF]
  exact kAE hown fun g hg3 => hV g (by
   have : g = g2 := by simpa [Value.ownBlock] using hg3.symm
   omega)
 ·intro x hx;rcases jAC.1 hx with h1 | h1
  ·exact hsl x (hr.fB x h1)
  ·have : x = o := by simpa using h1
   rw [this];exact hsl o ho
def kAl (S : List Th) (q : Nat) (t : Th) : List Th := if q < S.length then S.set q t else S ++ (List.replicate (q - S.length) noTh ++ [t])
theorem kHH (S : List Th) (q i : Nat) (t : Th) : (kAl S q t).getD i noTh = if i = q then t else S.getD i noTh := by
 unfold kAl
 split
 ·rename_i h; exact kAX S q i t h
 ·rename_i h
  rw [jAA, jAA]
  by_cases h1 : i < S.length
  ·rw [jAK h1, jn (by omega)]
  ·rw [jAI (by omega), jAM (l := S) (by omega)]
   by_cases h2 : i < q
   ·rw [jAK (by simp; omega), jAo, jp (by omega), jn (by omega)]; rfl
   ·rw [jAI (by simp; omega), jAY]
    by_cases h3 : i = q
    ·rw [jp h3, show i - S.length - (q - S.length) = 0 from by omega]; rfl
    ·rw [jn h3, jAM (by simp; omega)]
theorem kCw (S : List Th) (q : Nat) (t : Th) : (kAl S q t).length = max S.length (q + 1) := by
 unfold kAl
 split
 ·rw [jAL]; omega
 ·simp; omega
theorem kFh (S : List Th) (q : Nat) (t : Th) (hf : (S.getD q noTh).fI = false) (ht : t.fI = true) : kAG (kAl S q t) (kAl S q t).length = kAG S S.length + 1 := by
 by_cases h : q < S.length
 ·have := kEx S q t (by omega) hf ht;unfold kAY at this;unfold kAl;rw [jp h] at this ⊢;exact this
 ·unfold kAl;rw [jn h];unfold kAG;rw [jAV, jAV, jAs, jAs]
  simp [ht, noTh]
theorem Inv.layAt (h : Inv H M) (q : Nat) (hq0 : q < M.fM) (hqf : (M.fA.getD q noTh).fI = false) (cl : Int) (n f : Nat) (p pt : Option Addr) (c ct : Nat) (hf : f ≤ 1) (hn : n ≤ 8192) (hr1 : H.count < H.fM) (hr2 : H.mem.length + lenN n f ≤ H.fH) :
  Inv (layH H (q + 1) cl n f) { M with fA := kAl M.fA q ⟨true, cl, f, kAp M.fA M.fA.length, List.replicate n (newX f), p, c⟩, pt := pt, ct := ct } := by
 have hfree : (M.fA.getD q noTh).fI = false ∧ True := ⟨hqf, trivial⟩;rw [← h.fin];generalize ht : (⟨true, cl, f, H.mem.length, List.replicate n (newX f), p, c⟩ : Th) = t;have t1 : t.fI = true := by rw [← ht]
 have t2 : t.cls = cl := by rw [← ht]
 have t3 : t.fmt = f := by rw [← ht]
 have t4 : t.fJ = H.mem.length := by rw [← ht]
 have t5 : t.fB = List.replicate n (newX f) := by rw [← ht]
 have t6 : t.fB.length = n := by rw [t5]; simp
 have hg := fun i => kHH M.fA q i t
 have hgl := kCw M.fA q t;have hS : ∀ i, (layH H (q + 1) cl n f).fD.getD i (0, 0, 0) = if i = q + 1 then (H.mem.length, lenN n f, H.fC.length) else H.fD.getD i (0, 0, 0) := fun i => kHs H.fD (q + 1) i _
 have hSl : (layH H (q + 1) cl n f).fD.length = max H.fD.length (q + 2) := by
  show ((kBA H.fD (q + 1 + 1)).set (q + 1) _).length = _;unfold kBA
  simp
  omega
 have hM : (layH H (q + 1) cl n f).mem = H.mem ++ kAQ cl n f := rfl;have hMl : (H.mem ++ kAQ cl n f).length = H.mem.length + lenN n f := by rw [jAG, kCP cl n f hf]
 have hO : (layH H (q + 1) cl n f).fC = H.fC ++ [q + 1] := rfl
 have hOg : ∀ j, (H.fC ++ [q + 1]).getD j 0 = if j = H.fC.length then q + 1 else H.fC.getD j 0 := fun j => by
  rw [jAA, jAA]
  by_cases e : j = H.fC.length
  ·rw [jp e, e, jAI (jAD _)]; simp
  ·rw [jn e]
   by_cases hl : j < H.fC.length
   ·rw [jAK hl]
   ·rw [jAM (by simp; omega), jAM (by omega)]
 have hL := h.len;have hsm := h.safe.small;have ho := hsm.fM;have hw := hsm.fH;have hshort := h.short;have hl2 := kAR n f;have hmost := h.most;have hoo := h.fM;have hend : ∀ i, i < M.fA.length → (M.fA.getD i noTh).fI = true → (M.fA.getD i noTh).fJ + lenN (M.fA.getD i noTh).fB.length (M.fA.getD i noTh).fmt ≤ H.mem.length := fun i h1 h2 => by rw [h.fin]; exact kEX M.fA _ i h1 h2
 exact {
  safe := ⟨⟨hw, ho, by rw [hM, hMl]; show ((H.mem.length + lenN n f : Nat) : Int) ≤ (H.fH : Int); omega, by show ((H.count + 1 : Nat) : Int) ≤ (H.fM : Int); omega, hsm.mark⟩,
   by show H.low ≤ (kBB H.bits (q + 1)).length; rw [kCf]; have := h.safe.low; omega,
   by show ((kBB H.bits (q + 1)).length : Int) ≤ 1024; rw [kCf]; have := h.safe.bl; omega,
   fun i => kCz H.bits (q + 1) h.safe.bits i, by rw [hSl]; have := h.safe.fD; omega,
   by rw [hO]; simp only [jAG, jBQ]; omega⟩
  fH := h.fH
  fM := h.fM
  mark := h.mark
  len := by
   rw [hSl];show max H.fD.length (q + 2) ≤ (kAl M.fA q t).length + 1;rw [hgl];omega
  seat0 := by rw [hS, jn (by omega)]; exact h.seat0
  fI := fun i hi => by
   show (((kAl M.fA q t).getD i noTh).fI = true ↔ _);rw [hg i, hS (i + 1)]
   by_cases e : i = q
   ·rw [jp e, jp (by omega)]; simp only [t1, true_iff]; show lenN n f ≠ 0; omega
   ·rw [jn e, jn (by omega)]
    by_cases hil : i < M.fA.length
    ·exact h.fI i hil
    ·have e1 : M.fA.getD i noTh = noTh := by rw [jAA, jAM (by omega)]; rfl
     have e2 : H.fD.getD (i + 1) (0, 0, 0) = (0, 0, 0) := by
      rw [jAA, jAM (by omega)]; rfl
     rw [e1, e2]
     simp [noTh]
  seat := fun i hi hb => by
   have hb2 : ((kAl M.fA q t).getD i noTh).fI = true := hb;show _ = ((kAl M.fA q t).getD i noTh).fJ ∧ _ = lenN ((kAl M.fA q t).getD i noTh).fB.length ((kAl M.fA q t).getD i noTh).fmt;rw [hg i] at hb2 ⊢;rw [hS (i + 1)]
   by_cases e : i = q
   ·rw [jp e, jp (by omega), t4, t6, t3]; exact ⟨rfl, rfl⟩
   ·rw [jn e] at hb2 ⊢; rw [jn (by omega)]; exact h.seat i (kAs hb2) hb2
  is := fun i hi hb => by
   have hb2 : ((kAl M.fA q t).getD i noTh).fI = true := hb;show Is _ (i + 1) ((kAl M.fA q t).getD i noTh);rw [hg i] at hb2 ⊢
   by_cases e : i = q
   ·rw [jp e, e]; exact kLJ _ q cl n f t hf hn t2 t3 t5
   ·rw [jn e] at hb2 ⊢;have hi2 := kAs hb2;have hI := h.is i hi2 hb2;have hr := hI.room;refine hI.same (by rw [hS, jn (by omega)]) (by rw [hSl]; have := (kAk hI.has).2.1; omega) (by rw [hM, hMl]; omega) (fun x h1 h2 => by rw [hM]; exact kDe _ _ x (by omega))
  count := by show H.count + 1 = kAG (kAl M.fA q t) (kAl M.fA q t).length; rw [kFh M.fA q t hqf t1, h.count]
  fin := by
   rw [hM, hMl];show _ = kAp (kAl M.fA q t) (kAl M.fA q t).length;refine (kCY _ _ _ (fun j hj hb => ?_) (.inr ⟨q, by omega, by rw [hg, jp rfl]; exact t1, by rw [hg, jp rfl, t4, t6, t3]⟩)).symm;rw [hg j] at hb ⊢
   by_cases e : j = q
   ·rw [jp e, t4, t6, t3]; exact jAD _
   ·rw [jn e] at hb ⊢;have := hend j (kAs hb) hb;omega
  fO := fun i hi hb => by
   have hb2 : ((kAl M.fA q t).getD i noTh).fI = true := hb;rw [hg i] at hb2;rw [hS (i + 1), hO, hOg]
   by_cases e : i = q
   ·rw [jp (by omega)]; simp; omega
   ·rw [jn e] at hb2;rw [jn (by omega)];have := h.fO i (kAs hb2) hb2;rw [jn (by omega)];exact ⟨by rw [jAG, jBQ]; omega, this.2⟩
  fC := fun j hj hne => by
   rw [hO] at hj hne ⊢;show _ ≤ (kAl M.fA q t).length ∧ ((kAl M.fA q t).getD _ noTh).fI = true ∧ _;rw [hOg] at hne ⊢
   by_cases e : j = H.fC.length
   ·rw [jp e, hS, jp rfl, hg, jp (by omega)];exact ⟨by omega, t1, e.symm⟩
   ·rw [jn e] at hne ⊢
    simp at hj
    obtain ⟨o1, o2, o3⟩ := h.fC j (by omega) hne
    have hne2 : H.fC.getD j 0 ≠ q + 1 := fun e2 => by
     rw [e2, jAJ, hfree.1] at o2
     simp at o2
    rw [hS, jn hne2, hg, jn (by omega)];exact ⟨by omega, o2, o3⟩
  rise := fun i j hij hj hi0 hj0 => by
   rw [hO] at hj hi0 hj0 ⊢;rw [hOg] at hi0 hj0 ⊢;rw [hOg j]
   simp at hj
   rw [jn (by omega)] at hi0 ⊢;obtain ⟨o1, o2, o3⟩ := h.fC i (by omega) hi0
   have hne2 : H.fC.getD i 0 ≠ q + 1 := fun e2 => by
    rw [e2, jAJ, hfree.1] at o2
    simp at o2
   rw [hS, jn hne2, hS]
   by_cases e : j = H.fC.length
   ·rw [jp e, jp rfl];have hI := h.seat (H.fC.getD i 0 - 1) (by omega) o2;have := hend (H.fC.getD i 0 - 1) (by omega) o2;rw [show H.fC.getD i 0 - 1 + 1 = H.fC.getD i 0 from by omega] at hI;show _ ≤ H.mem.length;omega
   ·rw [jn e] at hj0 ⊢;obtain ⟨p1, p2, p3⟩ := h.fC j (by omega) hj0
    have hne3 : H.fC.getD j 0 ≠ q + 1 := fun e2 => by
     rw [e2, jAJ, hfree.1] at p2
     simp at p2
    rw [jn hne3];exact h.rise i j hij (by omega) hi0 hj0
  last := fun j hj => by
   rw [hO] at hj ⊢
   simp at hj
   rw [hOg, jp (by omega)];omega
  gaps := fun x hx hc => by
   rw [hM] at hx ⊢;rw [hMl] at hx
   by_cases hlt : x < H.mem.length
   ·rw [kDe _ _ x hlt];refine h.gaps x hlt (fun i hi hb => ?_);have hiq : i ≠ q := fun e => by rw [e, hfree.1] at hb; simp at hb
    have := hc i (by show i < (kAl M.fA q t).length; omega) (by show ((kAl M.fA q t).getD i noTh).fI = true; rw [hg, jn hiq]; exact hb);have h3 : x < ((kAl M.fA q t).getD i noTh).fJ ∨ ((kAl M.fA q t).getD i noTh).fJ + lenN ((kAl M.fA q t).getD i noTh).fB.length ((kAl M.fA q t).getD i noTh).fmt ≤ x := this;rw [hg, jn hiq] at h3;exact h3
   ·have := hc q (by show q < (kAl M.fA q t).length; omega) (by show ((kAl M.fA q t).getD q noTh).fI = true; rw [hg, jp rfl]; exact t1);have h3 : x < ((kAl M.fA q t).getD q noTh).fJ ∨ ((kAl M.fA q t).getD q noTh).fJ + lenN ((kAl M.fA q t).getD q noTh).fB.length ((kAl M.fA q t).getD q noTh).fmt ≤ x := this;rw [hg, jp rfl, t4, t6, t3] at h3;omega
  bit := fun j => by
   show ((kBB H.bits (q + 1)).getD (j / 64) 0).testBit (j % 64) = ((kAl M.fA q t).getD j noTh).fI;rw [kEe H.bits (q + 1) j (by omega), hg, jAJ]
   split
   ·exact t1.symm
   ·exact h.bit j
  low := fun i hi => by
   have hi2 : i < H.low := hi;show (kBB H.bits (q + 1)).getD i 0 = full;have hb : H.bits.getD i 0 = full := h.low i hi2;have h1 := kCz H.bits (q + 1) h.safe.bits i;rw [kCO] at h1 ⊢
   split
   ·rw [jp (by assumption)] at h1;have := Nat.left_le_or (n := H.bits.getD i 0) (m := 2 ^ ((q + 1 - 1) % 64));omega
   ·exact hb
  model := ⟨by show ((kAl M.fA q t).length : Int) ≤ 65538; have := h.model.len; omega, fun i hi => by
    show (((kAl M.fA q t).getD i noTh).fB.length : Int) ≤ 8192;rw [hg]
    split
    ·rw [t6]; omega
    ·by_cases hil : i < M.fA.length
     ·exact h.model.fB i hil
     ·rw [jAA, jAM (by omega)]; simp [noTh], fun i hi => by
    show (((kAl M.fA q t).getD i noTh).fJ : Int) ≤ 1048576;rw [hg]
    split
    ·rw [t4]; have := h.room; omega
    ·by_cases hil : i < M.fA.length
     ·exact h.model.fJ i hil
     ·rw [jAA, jAM (by omega)]; simp [noTh]⟩
  deep := fun j hj hne => by
   rw [hO] at hj hne ⊢;rw [hOg] at hne ⊢
   by_cases e : j = H.fC.length
   ·rw [jp e, hS, jp rfl];show 2 * j ≤ H.mem.length;omega
   ·rw [jn e] at hne ⊢
    simp at hj
    obtain ⟨o1, o2, o3⟩ := h.fC j (by omega) hne
    have hne2 : H.fC.getD j 0 ≠ q + 1 := fun e2 => by
     rw [e2, jAJ, hfree.1] at o2
     simp at o2
    rw [hS, jn hne2];exact h.deep j (by omega) hne
  most := by show (kAl M.fA q t).length ≤ M.fM; omega
  room := h.room }
theorem kMz (a : Nat) (l : Lay) (H : HS) (M : MS) (w : World) (h : Rep w a l H) (hi : InvV H M) :
  Calls prog 42 #[.pointer (some ⟨a, 0, none⟩)] w fun e w' => ∃ ov ls, e = .returned (.agg #[int i64 H.fH, int i64 H.fM, int i64 H.mark, ov]) ∧ SRep w' w.heap.size ov ls ∧ ls.map kDo = kAr H M.fA H.fC.length ∧ Fr [] w w' := by
 have hal := h.lt a (by simp [foot]);have hsm := hi.safe.small;have hord := hi.safe.fC;have hsb := hsm.fH;have hsm2 := hsm.mem;have hcb := hsm.count;have hob := hsm.fM;have hb : (H.mem.length : Int) ≤ 1048576 := by omega
 have HR : Hid (∀ V, Fr [] w V → Rep V a l H) := fun V hV => h.keep hV (by simp)
 have HObj : Hid (∀ V, Fr [] w V → ∀ j, j < H.fC.length → H.fC.getD j 0 ≠ 0 → Calls prog 90 #[.pointer (some ⟨a, 0, none⟩), int i64 (H.fC.getD j 0 : Nat)] V fun e w' => ∃ v, e = .returned v ∧ ∃ o : OS, v = .agg #[int i64 o.oop, int i64 o.cls, int i64 o.fmt, o.v] ∧ kDo o = (H.fC.getD j 0, (M.fA.getD (H.fC.getD j 0 - 1) noTh).cls, (M.fA.getD (H.fC.getD j 0 - 1) noTh).fmt, (M.fA.getD (H.fC.getD j 0 - 1) noTh).fB) ∧ w'.ownsRow V.heap.size 41 1 o.v o.fB.length (o.fB.map (int i64)) ∧ Fr [] V w') := by
  intro V hV j hj hne;obtain ⟨o1, o2, o3⟩ := hi.fC j hj hne;have hI := hi.is (H.fC.getD j 0 - 1) (by omega) o2;rw [show H.fC.getD j 0 - 1 + 1 = H.fC.getD j 0 from by omega] at hI;refine Calls.mono (kKN (H.fC.getD j 0) _ a l H V (h.keep hV (by simp)) hI hb) ?_;rintro e w' ⟨v, rfl, h1, h2⟩;exact ⟨_, rfl, ⟨H.fC.getD j 0, _, _, _, v⟩, rfl, rfl, h1, h2⟩
 have c0 := (jAE w (.cells #[int i64 0, int i64 0, int i64 0, .slice none 0 0] 82) ⟨a, 0, none⟩ hal).trans h.c0;have HM := kAA (kAh a _ c0);have c1 := h.c1;have c2 := h.c2;have c3 := h.c3;clear h;go_enter func42, ntmps42
 go_wp2_with (go_at_call 88; refine HM.out.mono ?_; rintro e w' ⟨rfl, hw'⟩; rw [hw']; clear hw' w')
 obtain ⟨W0, hW0⟩ := jex (w.alloc (.cells #[int i64 0, int i64 0, int i64 0, .slice none 0 0] 82));rw [← hW0];have F0 : Fr [] w W0 := by rw [hW0]; exact Fr.alloc [] _ _
 have hB0 : W0.heap[w.heap.size]? = some (.cells #[int i64 0, int i64 0, int i64 0, .slice none 0 0] 82 (0, 0)) := by rw [hW0]; exact heap_alloc_new _ _
 have hz0 : W0.heap.size = w.heap.size + 1 := by rw [hW0]; simp
 have d1 := (F0.cell (p := ⟨a, 1, none⟩) hal (by simp)).trans c1;have d2 := (F0.cell (p := ⟨a, 2, none⟩) hal (by simp)).trans c2;have d3 := (F0.cell (p := ⟨a, 3, none⟩) hal (by simp)).trans c3;have ha0 : a < W0.heap.size := by omega
 clear hW0 c0 c1 c2 c3 HM;have HF0 := kAA F0;have HB0 := kAA hB0
 have HS1 : Hid (∀ V, Eqw (W0.alloc (.cells #[int i64 H.fH, int i64 H.fM, int i64 H.mark, .slice none 0 0] 82)) V → St1 w V (w.heap.size + 1) H.fH H.fM H.mark []) := by
  intro V hV;refine ⟨(HF0.out.trans (Fr.alloc [] _ _) (by simp)).trans (hV.fr []) (by simp), by omega, ?_, .slice none 0 0, [], ?_, ⟨jAS _ _ _ _, fun o ho => by simp at ho⟩, rfl⟩
  ·rw [hV.2.2.2, jAN _ _ _ (by omega)]; exact HB0.out
  ·have := heap_alloc_new W0 (.cells #[int i64 H.fH, int i64 H.fM, int i64 H.mark, .slice none 0 0] 82); rw [hz0] at this; rw [hV.2.2.2]; exact this
 clear F0 hB0
 go_wp2_with fail
 go_region
 all_goals go_wp2_with fail
 have HS2 := kAA (HS1.out _ (kAS _));have hVs : ((W0.alloc (.cells #[int i64 H.fH, int i64 H.fM, int i64 H.mark, .slice none 0 0] 82)).drew).heap.size = (w.heap.size + 1) + 1 := by simp [hz0]
 have e3 : ((W0.alloc (.cells #[int i64 H.fH, int i64 H.fM, int i64 H.mark, .slice none 0 0] 82)).drew).heap[(w.heap.size + 1)]? = some (.cells #[int i64 H.fH, int i64 H.fM, int i64 H.mark, .slice none 0 0] 82 (0, 0)) := by have := heap_alloc_new W0 (.cells #[int i64 H.fH, int i64 H.fM, int i64 H.mark, .slice none 0 0] 82); rw [hz0] at this; exact this
 generalize (W0.alloc (.cells #[int i64 H.fH, int i64 H.fM, int i64 H.mark, .slice none 0 0] 82)).drew = V0 at *;have hR0 := HR.out V0 HS2.out.fr;have c9 := hR0.c9;have e4 : V0.cell? ⟨(w.heap.size + 1), 3, none⟩ = some (.slice none 0 0) := by rw [kAC e3]; rfl
 have HG : Hid (Calls prog 89 #[.slice none 0 0, int i64 H.count] V0.drew fun e w' => ∃ v, e = .returned v ∧ ((∃ p c, v = .slice p 0 c) ∧ w'.ownsRow ((w.heap.size + 1) + 1) 139 4 v 0 [] ∧ Hid (Fr [] V0 w'))) := by
  refine Calls.mono (grow61 H.count (by omega) V0.drew) ?_;rintro e w' ⟨v, rfl, h1, h2⟩;refine ⟨v, rfl, ?_, ?_, (Fr.drew [] _).trans h2 (by simp)⟩
  ·rcases h1.2 with ⟨q1, q2⟩ | ⟨g, cap, cur, q1, _⟩
   ·exact ⟨none, 0, q1⟩
   ·exact ⟨_, cap, q1⟩
  ·rw [← hVs]; exact h1
 have HN : Hid (∀ V p c w4, Hid (Fr [] V0 w4) → w4.ownsRow ((w.heap.size + 1) + 1) 139 4 (.slice p 0 c) 0 [] → Eqw (w4.setCell ⟨(w.heap.size + 1), 3, none⟩ (.slice p 0 c)) V → St1 w V (w.heap.size + 1) H.fH H.fM H.mark []) := by
  intro V p c w4 hf ho hV;have hS := HS2.out.fK hf.out;have hb4 := (hf.out.block _ (kAB e3) (by simp)).trans e3;have hne : ∀ i, i ≠ (w.heap.size + 1) → V.heap[i]? = w4.heap[i]? := fun i hi => by rw [hV.2.2.2, kAK hi]
  refine ⟨(hS.fr.trans (Fr.setCell (S := [(w.heap.size + 1)]) _ _ _ (by simp)) (fun b hb => by simp at hb; subst hb; right; omega)).trans (hV.fr []) (by simp), hS.lo, (hne _ (by omega)).trans hS.res, .slice p 0 c, [], ?_, ⟨?_, fun o ho => by simp at ho⟩, rfl⟩
  ·rw [hV.2.2.2, kAI hb4]; rfl
  ·exact kAE ho fun g hg => hne g (by have := (ho.lt g hg).1; omega)
 have HFz : Hid (∀ w4, Hid (Fr [] V0 w4) → w4.frozen? ⟨(w.heap.size + 1), 3, none⟩ = false ∧ w4.cell? ⟨(w.heap.size + 1), 3, none⟩ = some (.slice none 0 0)) := by
  intro w4 hf;have hb4 := (hf.out.block _ (kAB e3) (by simp)).trans e3;exact ⟨kAD hb4 3, by rw [kAC hb4]; rfl⟩
 clear hR0 e3 HS1 d1 d2 d3
 go_cut [] (fun V => Hid (St1 w V (w.heap.size + 1) H.fH H.fM H.mark []))
 case first =>
  go_region_law
   (refine kCp rfl 89 Tryz.f89 func89 (by kernel_rfl) (by kernel_rfl) _ _ rfl _ (by simp [Act.eval]) _ HG.out ?_; rintro _ w4 ⟨⟨p4, c4, rfl⟩, ho4, hf4⟩; obtain ⟨z1, z2⟩ := HFz.out w4 hf4)
  all_goals go_wp2_with fail
  all_goals
   go_meet
   case rel => exact HN.out _ p4 c4 w4 hf4 ho4 ⟨rfl, rfl, rfl, rfl⟩
 case rest =>
  have HC := hcut;clear hcut HN HFz HG e4 c9 hVs HS2;have hRc := HR.out wc HC.out.fr;have c6 := hRc.c6;clear hRc;obtain ⟨k0, ki, kz0, kz1, kz2⟩ := info_parts kFT
  go_wp2_with fail
  go_loopw [37] (fun q wr => ∃ j : Nat, j ≤ H.fC.length ∧ q = int i64 j ∧ Hid (St1 w wr (w.heap.size + 1) H.fH H.fM H.mark (kAr H M.fA j))) (fun q _ => H.fC.length - (intOf q).toNat)
  case atStart => exact ⟨0, jAH _, rfl, by simpa [kAr] using HC⟩
  case round =>
   clear c6 HC;obtain ⟨j, hjn, rfl, hq⟩ := hrel;have hRr := HR.out wr hq.out.fr;obtain ⟨ov, ls, hv, hsr, hkk⟩ := hq.out.at_
   by_cases hlt : j < H.fC.length
   ·obtain ⟨go, hgo, hco, hfo, hgoa, hgol⟩ := hRr.orderAt j hlt;have o1 := hco j hlt;have k1 := ng j;have k2 : (j : Int) < H.fC.length := by omega
    rw [hgo]
    by_cases h0 : H.fC.getD j 0 = 0
    ·rw [h0] at o1;have HN : Hid (kAr H M.fA (j + 1) = kAr H M.fA j) := kHh H M.fA j hlt h0;clear hRr hco hfo hv hsr hkk HObj h0 hgo
     go_wp2_with fail
     go_roundw
     case rel => exact ⟨j + 1, by omega, by go_num, by rw [HN.out]; exact hq.out⟩
     case measure => simp [intOf]; omega
    ·have hob2 : ((H.fC.getD j 0 : Int) != 0) = true := by rw [bne_iff_ne]; omega
     have hll : ls.length ≤ j := by
      have e1 : ls.length = (kAr H M.fA j).length := by rw [← hkk, jAR]
      rw [e1];unfold kAr;rw [jAR];exact jAU (jBH _ _) (by simp; omega)
     have HNk := kAA (kJq H M.fA j _ hlt rfl h0)
     have HSk : Hid (Calls prog 90 #[.pointer (some ⟨a, 0, none⟩), int i64 (H.fC.getD j 0 : Nat)] wr.drew fun e w' => ∃ v, e = .returned v ∧ (∃ (oo : Nat) (oc : Int) (of_ : Nat) (os : List Int) (p : Option Addr) (c : Nat), v = .agg #[int i64 oo, int i64 oc, int i64 of_, .slice p os.length c] ∧ kAr H M.fA (j + 1) = kAr H M.fA j ++ [(oo, oc, of_, os)] ∧ w'.ownsRow (w.heap.size + 2) 41 1 (.slice p os.length c) os.length (os.map (int i64)) ∧ Hid (Fr [] wr w'))) := by
      refine Calls.mono (HObj.out wr.drew (hq.out.fr.trans (Fr.drew [] wr) (by simp)) j hlt h0) ?_;rintro e w' ⟨v, rfl, ⟨oo, oc, of_, os, ov⟩, rfl, hkey, ho, hf⟩;dsimp only at *
      obtain ⟨p, c, rfl⟩ : ∃ p c, ov = .slice p os.length c := by
       rcases ho.2 with ⟨q1, q2⟩ | ⟨g, cap, cur, q1, _⟩
       ·exact ⟨none, 0, by rw [q1, q2]⟩
       ·exact ⟨_, cap, q1⟩
      refine ⟨_, rfl, oo, oc, of_, os, p, c, rfl, by rw [HNk.out, ← hkey]; rfl, kAV ho ?_, (Fr.drew [] wr).trans hf (by simp)⟩;have := kAB hv;show w.heap.size + 2 ≤ wr.heap.size;omega
     have HBf : Hid (∀ V oo oc of_ p n c, Hid (Fr [] wr V) → w.heap.size + 1 < V.heap.size ∧ V.cell? ⟨w.heap.size + 1, 3, none⟩ = some ov ∧ (V.alloc (.cells #[int i64 oo, int i64 oc, int i64 of_, .slice p n c] 139)).ownsRow (w.heap.size + 1 + 1) 139 4 ov ls.length (kBI ls) ∧ (∀ j u, ([int i64 oo, int i64 oc, int i64 of_, .slice p n c] : List Value)[j]? = some u → (V.alloc (.cells #[int i64 oo, int i64 oc, int i64 of_, .slice p n c] 139)).cell? ((⟨V.heap.size, 0, none⟩ : Addr).add j) = some u)) := by
      intro V oo oc of_ p n c hV;refine ⟨jAb (kAB hv) hV.out.size, ?_, (kAE hsr.row fun g hg => hV.out.block g (hsr.row.lt g hg).2 (by simp)).alloc _, World.news_of_block (heap_alloc_new V (.cells #[int i64 oo, int i64 oc, int i64 of_, .slice p n c] 139))⟩;rw [kAC ((hV.out.block _ (kAB hv) (by simp)).trans hv)];rfl
     have HNx : Hid (∀ V (oo : Nat) (oc : Int) (of_ : Nat) (os : List Int) p c g2 cap W2 V2, Hid (Fr [] wr V) → kAr H M.fA (j + 1) = kAr H M.fA j ++ [(oo, oc, of_, os)] → V.ownsRow (w.heap.size + 2) 41 1 (.slice p os.length c) os.length (os.map (int i64)) → (V.alloc (.cells #[int i64 oo, int i64 oc, int i64 of_, .slice p os.length c] 139)).grownBy W2 ov.ownBlock → W2.ownsRow (w.heap.size + 1 + 1) 139 4 (.slice (some ⟨g2, 0, none⟩) (ls.length + 1) cap) (ls.length + 1) (kBI ls ++ [int i64 oo, int i64 oc, int i64 of_, .slice p os.length c]) → Eqw (W2.setCell ⟨w.heap.size + 1, 3, none⟩ (.slice (some ⟨g2, 0, none⟩) (ls.length + 1) cap)) V2 → St1 w V2 (w.heap.size + 1) H.fH H.fM H.mark (kAr H M.fA (j + 1))) := by
      intro V oo oc of_ os p c g2 cap W2 V2 hV hk ho hg hown he;rw [hk];exact (hq.out.fK hV.out).next (o := ⟨oo, oc, of_, os, .slice p os.length c⟩) ((hV.out.block _ (kAB hv) (by simp)).trans hv) (hsr.fK hV.out) hkk ho hg hown he
     have HFz : Hid (∀ V oo oc of_ p n c W2, Hid (Fr [] wr V) → (V.alloc (.cells #[int i64 oo, int i64 oc, int i64 of_, .slice p n c] 139)).grownBy W2 ov.ownBlock → W2.frozen? ⟨w.heap.size + 1, 3, none⟩ = false ∧ W2.cell? ⟨w.heap.size + 1, 3, none⟩ = some ov) := by
      intro V oo oc of_ p n c W2 hV hg
      have h1 : W2.heap[w.heap.size + 1]? = some (.cells #[int i64 H.fH, int i64 H.fM, int i64 H.mark, ov] 82 (0, 0)) := by
       rw [hg.block _ (by simp; have := kAB hv; have := hV.out.size; omega) (fun e => by have := (hsr.row.lt _ e.symm).1; omega), jAN _ _ _ (jAb (kAB hv) hV.out.size)];exact (hV.out.block _ (kAB hv) (by simp)).trans hv
      exact ⟨kAD h1 3, by rw [kAC h1]; rfl⟩
     have d3 : wr.cell? ⟨w.heap.size + 1, 3, none⟩ = some ov := by rw [kAC hv]; rfl
     have hBl := kAB hv;generalize H.fC.getD j 0 = o at *;clear hRr hco hfo hv hsr hkk HObj hgo hq HNk
     go_wp2_with fail
     go_region_law
      (first | (refine step_append_lies _ rfl (.tmp 44) (.tmp 48) 80 rfl (w.heap.size + 1 + 1) 139 k0 (.agg #[int i64 0, int i64 0, int i64 0, .slice none 0 0]) 4 48 underlying80 ki kz0 kz1 kz2 rfl (by decide) ov ls.length (kBI ls) (by simp [Act.eval]) z3 ⟨w5.heap.size, 0, none⟩ 1 1 [int i64 oo, int i64 oc, int i64 of_, .slice p5 os5.length c5] (by simp [Act.eval]) rfl z4 (by simp [Value.oneCell']) (by decide) (by unfold maxLen; omega) (by omega) (by simp; omega) _ rfl ?_; intro g6 c6 w6 hown6 hgrow6 hat6 hlt6; obtain ⟨y1, y2⟩ := HFz.out w5 oo oc of_ p5 os5.length c5 w6 hf5 hgrow6) | (refine kCp rfl 90 Tryz.f90 func90 (by kernel_rfl) (by kernel_rfl) _ _ rfl _ (by simp [Act.eval, Act.put]) _ HSk.out ?_; rintro _ w5 ⟨oo, oc, of_, os5, p5, c5, rfl, hk5, ho5, hf5⟩; obtain ⟨z1, z2, z3, z4⟩ := HBf.out w5 oo oc of_ p5 os5.length c5 hf5))
     all_goals go_wp2_with fail
     all_goals
      go_roundw
      case rel => exact ⟨j + 1, by omega, by go_num, HNx.out w5 oo oc of_ os5 p5 c5 g6 c6 w6 _ hf5 hk5 ho5 hgrow6 hown6 ⟨rfl, rfl, rfl, rfl⟩⟩
      case measure => simp [intOf]; omega
   ·have hje : j = H.fC.length := by omega
    subst hje;have hB := kAB hv;have d0 : wr.cell? ⟨w.heap.size + 1, 0, none⟩ = some (int i64 H.fH) := by rw [kAC hv]; rfl
    have d1 : wr.cell? ⟨w.heap.size + 1, 1, none⟩ = some (int i64 H.fM) := by rw [kAC hv]; rfl
    have d2 : wr.cell? ⟨w.heap.size + 1, 2, none⟩ = some (int i64 H.mark) := by rw [kAC hv]; rfl
    have d3 : wr.cell? ⟨w.heap.size + 1, 3, none⟩ = some ov := by rw [kAC hv]; rfl
    have hr := hq.out.res;have r0 : wr.cell? ⟨w.heap.size, 0, none⟩ = some (int i64 0) := by rw [kAC hr]; rfl
    have r1 : wr.cell? ⟨w.heap.size, 1, none⟩ = some (int i64 0) := by rw [kAC hr]; rfl
    have r2 : wr.cell? ⟨w.heap.size, 2, none⟩ = some (int i64 0) := by rw [kAC hr]; rfl
    have r3 : wr.cell? ⟨w.heap.size, 3, none⟩ = some (.slice none 0 0) := by rw [kAC hr]; rfl
    have y0 := kAD hr 0;have y1 := kAD hr 1;have y2 := kAD hr 2;have y3 := kAD hr 3
    obtain ⟨pv, cv, rfl⟩ : ∃ p c, ov = .slice p ls.length c := by
     rcases hsr.row.2 with ⟨h2, h3⟩ | ⟨g, cap, cur, h2, _⟩
     ·exact ⟨none, 0, by rw [h2, h3]⟩
     ·exact ⟨_, cap, h2⟩
    have HE : Hid (∀ V, Fr [w.heap.size] wr V → SRep V w.heap.size (.slice pv ls.length cv) ls ∧ ls.map kDo = kAr H M.fA H.fC.length ∧ Fr [] w V) := by
     intro V hV;refine ⟨⟨kAV (kAE hsr.row fun g hg => hV.block g (hsr.row.lt g hg).2 (by have := (hsr.row.lt g hg).1; simp; omega)) (by omega), fun o ho => kAV (kAE (hsr.fB o ho) fun g hg => hV.block g ((hsr.fB o ho).lt g hg).2 (by have := ((hsr.fB o ho).lt g hg).1; simp; omega)) (by omega)⟩, hkk, hq.out.fr.trans hV (fun b hb => by simp at hb; subst hb; right; exact jAD _)⟩
    have HRes := kAA hr;generalize hln : ls.length = ln at *;clear hq hv hsr hkk hr hRr HObj
    go_wp2_with fail
    obtain ⟨V, hV⟩ := jex ((((wr.setCell ⟨w.heap.size, 0, none⟩ (int i64 H.fH)).setCell ⟨w.heap.size, 1, none⟩ (int i64 H.fM)).setCell ⟨w.heap.size, 2, none⟩ (int i64 H.mark)).setCell ⟨w.heap.size, 3, none⟩ (.slice pv ln cv))
    have hVb : V.heap[w.heap.size]? = some (.cells #[int i64 H.fH, int i64 H.fM, int i64 H.mark, .slice pv ln cv] 82 (0, 0)) := by
     rw [hV, kAI (kAI (kAI (kAI HRes.out 0 _) 1 _) 2 _) 3 _];rfl
    have F : Fr [w.heap.size] wr V := by
     rw [hV];exact (((Fr.setCell (S := [w.heap.size]) wr ⟨w.heap.size, 0, none⟩ (int i64 H.fH) (by simp)).trans (Fr.setCell (S := [w.heap.size]) _ ⟨w.heap.size, 1, none⟩ (int i64 H.fM) (by simp)) (fun b hb => .inl hb)).trans (Fr.setCell (S := [w.heap.size]) _ ⟨w.heap.size, 2, none⟩ (int i64 H.mark) (by simp)) (fun b hb => .inl hb)).trans (Fr.setCell (S := [w.heap.size]) _ ⟨w.heap.size, 3, none⟩ (.slice pv ln cv) (by simp)) (fun b hb => .inl hb)
    rw [← hV];clear hV;have x0 : V.cell? ⟨w.heap.size, 0, none⟩ = some (int i64 H.fH) := by rw [kAC hVb]; rfl
    have x1 : V.cell? ⟨w.heap.size, 1, none⟩ = some (int i64 H.fM) := by rw [kAC hVb]; rfl
    have x2 : V.cell? ⟨w.heap.size, 2, none⟩ = some (int i64 H.mark) := by rw [kAC hVb]; rfl
    have x3 : V.cell? ⟨w.heap.size, 3, none⟩ = some (.slice pv ln cv) := by rw [kAC hVb]; rfl
    refine bodyPost_ret (v := .agg #[int i64 H.fH, int i64 H.fM, int i64 H.mark, .slice pv ln cv]) (by simp [results, results42, go_sem, x0, x1, x2, x3]) rfl ?_;obtain ⟨h5, h6, h7⟩ := HE.out V F;exact ⟨_, ls, rfl, h5, h6, h7⟩
structure Rd (w : World) (v : Value) (ss : List Int) : Prop where
 at_ : ∃ p c, v = .slice p ss.length c ∧ (0 < ss.length → ∃ g off, p = some ⟨g, off, none⟩ ∧ g < w.heap.size ∧ ∀ i, i < ss.length → w.cell? ⟨g, off + i, none⟩ = some (int i64 (ss.getD i 0)))
 nil : ∀ c, v = .slice none ss.length c → c = 0
 short : ss.length ≤ 17592186043904
theorem kCZ {t : TypeId} (h : w.ownsRow base t 1 v ss.length (ss.map (int i64))) : ∃ p c, v = .slice p ss.length c ∧ (0 < ss.length → ∃ g, p = some ⟨g, 0, none⟩ ∧ ∀ i, i < ss.length → w.cell? ⟨g, i, none⟩ = some (int i64 (ss.getD i 0))) := by
 rcases h.2 with ⟨h2, h3⟩ | ⟨g, cap, cur, h2, h3⟩
 ·exact ⟨none, 0, by rw [h2, h3], fun hp => by omega⟩
 ·refine ⟨some ⟨g, 0, none⟩, cap, h2, fun hp => ⟨g, rfl, fun i hi => ?_⟩⟩;rw [h2] at h;rw [h.cellAt i (by omega), jAQ, jAA, jAB hi];rfl
theorem kCC {t : TypeId} (h : w.ownsRow base t 1 v ss.length (ss.map (int i64))) (hs : ss.length ≤ 17592186043904) : Rd w v ss := by
 obtain ⟨p, c, e, h1⟩ := kCZ h;refine ⟨⟨p, c, e, fun hp => ?_⟩, fun c' hc => ?_, hs⟩
 rotate_left
 ·rcases h.2 with ⟨h2, h3⟩ | ⟨g, cap, cur, h2, h3⟩
  ·rw [h2] at hc; injection hc with _ _ e3; exact e3.symm
  ·rw [h2] at hc; injection hc with e3; cases e3
 obtain ⟨g, e2, h2⟩ := h1 hp;exact ⟨g, 0, e2, jAf w ⟨g, 0, none⟩ (h2 0 hp), fun i hi => by rw [jAl]; exact h2 i hi⟩
theorem Rd.keep {S : List Nat} (h : Rd w v ss) (hf : Fr S w w') (hd : 0 < ss.length → ∀ g, v.ownBlock = some g → g ∉ S) : Rd w' v ss := by
 obtain ⟨p, c, e, h1⟩ := h.at_;refine ⟨⟨p, c, e, fun hp => ?_⟩, h.nil, h.short⟩;obtain ⟨g, off, e2, h2, h3⟩ := h1 hp;have hn := hd hp g (by rw [e, e2]; rfl);exact ⟨g, off, e2, by have := hf.size; omega, fun i hi => (hf.cell (p := ⟨g, off + i, none⟩) h2 hn).trans (h3 i hi)⟩
theorem Rd.fK (h : Rd w v ss) (hf : Fr [] w w') : Rd w' v ss := h.keep hf (by simp)
theorem Rd.lt (h : Rd w v ss) (hp : 0 < ss.length) (g : Nat) (hg : v.ownBlock = some g) : g < w.heap.size := by
 obtain ⟨p, c, e, h1⟩ := h.at_;obtain ⟨g', off, e2, h2, h3⟩ := h1 hp;rw [e, e2] at hg;have : g' = g := by simpa [Value.ownBlock] using hg
 omega
theorem kCi (ss : List Int) (u : Value) (w : World) (h : Rd w u ss) : ∃ v' w', (Builtin.append_ #[35, 35] 35 #[.slice none 0 0, u]).run prog w = .ok v' w' ∧ w'.ownsRow w.heap.size 41 1 v' ss.length (ss.map (int i64)) ∧ Fr [] w w' := by
 obtain ⟨p, c, rfl, h1⟩ := h.at_;obtain ⟨i33, ii, iz, is, ib⟩ := info_parts kCx;have hown : w.ownsRow w.heap.size 41 1 (.slice none 0 0) 0 [] := jAS _ _ _ _
 cases p with
 | none =>
  have h0 : ss.length = 0 := by
   rcases Nat.eq_zero_or_pos ss.length with h0 | h0
   ·exact h0
   ·obtain ⟨g, off, e2, _⟩ := h1 h0; cases e2
  have hs : ss = [] := jBT.1 h0;have hc := h.nil c rfl;subst hs;subst hc;exact ⟨_, _, run_append_owned_none (P := prog) (w := w) w.heap.size 35 35 41 i33 1 underlying35 ii _ _ _ hown, hown, Fr.refl _ _⟩
 | some ad =>
  have hnews : ∀ j x, (ss.map (int i64))[j]? = some x → w.cell? (ad.add j) = some x := fun j x hx => by
   rw [jAQ] at hx
   cases hz : ss[j]? with
   | none => rw [hz] at hx; simp at hx
   | some z =>
    rw [hz] at hx
    simp at hx
    obtain ⟨hj, hjz⟩ := jAc.1 hz;obtain ⟨g, off, e2, h2, h3⟩ := h1 (by omega);rw [Option.some.inj e2, Addr.add_mid, h3 j hj, jAA, hz, ← hx];rfl
  have hsh := h.short;obtain ⟨v', w', hr, h2, h3, _, h5⟩ := run_append_own_at (P := prog) w w.heap.size 35 35 41 i33 (int i64 0) 1 8 underlying35 ii iz is ib rfl (by decide) _ _ _ hown ad ss.length c (ss.map (int i64)) (by simp) hnews (fun x hx => by obtain ⟨z, _, rfl⟩ := jAZ.1 hx; rfl) (by unfold maxLen; omega) (by omega) (jAD _);refine ⟨v', w', hr, ?_, Fr.grown h3 (fun k hk => by cases hk)⟩;rw [jAl] at h2;exact h2
structure OI where
 oop : Int
 cls : Int
 fmt : Int
 fB : List Int
 v : Value
def kAU (o : OI) : Int × Int × Int × List Int := (o.oop, o.cls, o.fmt, o.fB)
structure SAt (w : World) (ov : Value) (l : List OI) : Prop where
 at_ : ∃ p c, ov = .slice p l.length c ∧ (0 < l.length → ∃ g off, p = some ⟨g, off, none⟩ ∧ ∀ k, k < l.length → ∃ o, l[k]? = some o ∧ w.cell? ⟨g, off + k * 4, none⟩ = some (int i64 o.oop) ∧ w.cell? ⟨g, off + k * 4 + 1, none⟩ = some (int i64 o.cls) ∧ w.cell? ⟨g, off + k * 4 + 2, none⟩ = some (int i64 o.fmt) ∧ w.cell? ⟨g, off + k * 4 + 3, none⟩ = some o.v)
 fB : ∀ o ∈ l, Rd w o.v o.fB
 short : l.length ≤ 2932031007317
theorem SAt.fK {l : List OI} (h : SAt w ov l) (hf : Fr [] w w') : SAt w' ov l := by
 obtain ⟨p, c, e, h1⟩ := h.at_;refine ⟨⟨p, c, e, fun hp => ?_⟩, fun o ho => (h.fB o ho).fK hf, h.short⟩;obtain ⟨g, off, e2, h3⟩ := h1 hp;refine ⟨g, off, e2, fun k hk => ?_⟩;obtain ⟨o, h4, a0, a1, a2, a3⟩ := h3 k hk;have hl := jAf w ⟨g, off + k * 4, none⟩ a0;exact ⟨o, h4, (hf.cell (p := ⟨g, off + k * 4, none⟩) hl (by simp)).trans a0, (hf.cell (p := ⟨g, off + k * 4 + 1, none⟩) hl (by simp)).trans a1, (hf.cell (p := ⟨g, off + k * 4 + 2, none⟩) hl (by simp)).trans a2, (hf.cell (p := ⟨g, off + k * 4 + 3, none⟩) hl (by simp)).trans a3⟩
theorem kJk (l : List OS) : ∀ k, k < l.length → ∃ o, l[k]? = some o ∧ (kBI l)[k * 4]? = some (int i64 o.oop) ∧ (kBI l)[k * 4 + 1]? = some (int i64 o.cls) ∧ (kBI l)[k * 4 + 2]? = some (int i64 o.fmt) ∧ (kBI l)[k * 4 + 3]? = some o.v := by
 induction l with
 | nil => intro k hk; simp at hk
 | cons o l ih =>
  intro k hk;have e : kBI (o :: l) = os4 o ++ kBI l := by simp [kBI]
  rw [e]
  cases k with
  | zero => exact ⟨o, rfl, rfl, rfl, rfl, rfl⟩
  | succ k =>
   obtain ⟨x, h0, h1, h2, h3, h4⟩ := ih k (by simpa using hk);refine ⟨x, by simpa using h0, ?_, ?_, ?_, ?_⟩
   ·rw [jAI (by simp [os4]; omega), show (k + 1) * 4 - (os4 o).length = k * 4 from by simp [os4]; omega]; exact h1
   ·rw [jAI (by simp [os4]; omega), show (k + 1) * 4 + 1 - (os4 o).length = k * 4 + 1 from by simp [os4]; omega]; exact h2
   ·rw [jAI (by simp [os4]; omega), show (k + 1) * 4 + 2 - (os4 o).length = k * 4 + 2 from by simp [os4]; omega]; exact h3
   ·rw [jAI (by simp [os4]; omega), show (k + 1) * 4 + 3 - (os4 o).length = k * 4 + 3 from by simp [os4]; omega]; exact h4
theorem SRep.at {l : List OS} (h : SRep w base ov l) : ∃ p c, ov = .slice p l.length c ∧ True := by
 rcases h.row.2 with ⟨h2, h3⟩ | ⟨g, cap, cur, h2, h3⟩
 ·exact ⟨none, 0, by rw [h2, h3], trivial⟩
 ·exact ⟨some ⟨g, 0, none⟩, cap, h2, trivial⟩
def toOI (o : OS) : OI := ⟨o.oop, o.cls, o.fmt, o.fB, o.v⟩
theorem SRep.sat {l : List OS} (h : SRep w base ov l) (hl : l.length ≤ 2932031007317) (hs : ∀ o ∈ l, o.fB.length ≤ 17592186043904) : SAt w ov (l.map toOI) := by
 have hr := h.row;refine ⟨?_, fun o ho => ?_, by simpa using hl⟩
 ·rcases hr.2 with ⟨h2, h3⟩ | ⟨g, cap, cur, h2, h3⟩
  ·exact ⟨none, 0, by rw [h2, jAR, h3], fun hp => by rw [jAR] at hp; omega⟩
  ·refine ⟨some ⟨g, 0, none⟩, cap, by rw [jAR]; exact h2, fun hp => ⟨g, 0, rfl, fun k hk => ?_⟩⟩;rw [jAR] at hk;rw [h2] at hr;obtain ⟨o, h0, h1, h4, h5, h6⟩ := kJk l k hk;refine ⟨toOI o, by rw [jAQ, h0]; rfl, ?_, ?_, ?_, ?_⟩
   ·rw [jAl, hr.cellAt _ (by omega)]; exact h1
   ·rw [jAl, hr.cellAt _ (by omega)]; exact h4
   ·rw [jAl, hr.cellAt _ (by omega)]; exact h5
   ·rw [jAl, hr.cellAt _ (by omega)]; exact h6
 ·obtain ⟨x, hx, rfl⟩ := jAZ.1 ho;exact kCC (h.fB x hx) (hs x hx)
theorem kHq (k i : Nat) (v : Int) (a : Nat) (l : Lay) (H : HS) (M : MS) (w : World) (h : Rep w a l H) (hi : Inv H M) (hk : k < M.fA.length) (hb : (M.fA.getD k noTh).fI = true) (hil : i < (M.fA.getD k noTh).fB.length) (hm : mayB v ((M.fA.getD k noTh).fmt : Int) = true) :
  ∃ H', Inv H' { M with fA := M.fA.set k (kCD (M.fA.getD k noTh) i v) } ∧ H'.age = H.age ∧ H'.fH = H.fH ∧ H'.fM = H.fM ∧ H'.mark = H.mark ∧ H'.fC = H.fC ∧ H'.fD = H.fD ∧ H'.count = H.count ∧ H'.mem.length = H.mem.length ∧ Calls prog 105 #[.pointer (some ⟨a, 0, none⟩), sv (H.fD.getD (k + 1) (0, 0, 0)), int i64 ((M.fA.getD k noTh).fmt : Int), int i64 i, int i64 v] w fun e w' => e = .returned (.tuple #[]) ∧ Rep w' a l H' ∧ Nx a l l w w' := by
 have hI := hi.is k hk hb;have hmem : (H.mem.length : Int) ≤ 1048576 := by have := hi.safe.small.mem; have := hi.safe.small.fH; omega
 have hroom := hI.room;have h22 := kAR (M.fA.getD k noTh).fB.length (M.fA.getD k noTh).fmt;have hfl := hI.fmt;have hlen := hI.len;rcases (show (M.fA.getD k noTh).fmt = 0 ∨ (M.fA.getD k noTh).fmt = 1 from by omega) with hf | hf
 ·have hw := kCK (M.fA.getD k noTh).fB.length i (M.fA.getD k noTh).fmt hf hil;refine ⟨_, hi.putW k hk hb i v hil hf, rfl, rfl, rfl, rfl, rfl, rfl, rfl, by simp, ?_⟩;rw [hf];exact kGv (H.fD.getD (k + 1) (0, 0, 0)) i v a l H w h (by omega) hmem
 ·have hw := kCI (M.fA.getD k noTh).fB.length i hil;rw [← hf] at hw;obtain ⟨old, o1, o2, o3⟩ := hI.byte hf i hil
  have hv : 0 ≤ v ∧ v ≤ 255 := by
   unfold mayB at hm;rw [jp (by omega)] at hm;exact of_decide_eq_true hm
  obtain ⟨vn, rfl⟩ : ∃ vn : Nat, v = (vn : Int) := ⟨v.toNat, by omega⟩
  refine ⟨_, hi.putB' k hk hb i vn old hil hf (by omega) o1 o2, rfl, rfl, rfl, rfl, rfl, rfl, rfl, by simp, ?_⟩;rw [hf];exact kIa (H.fD.getD (k + 1) (0, 0, 0)) i vn old a l H w h (by omega) hmem o1 (by omega) (by omega) o2
structure Ld (H0 : HS) (M0 : MS) (q : Nat) (cls : Int) (fmt : Nat) (ss : List Int) (i : Nat) (H : HS) (M : MS) : Prop where
 inv : Inv H M
 age : H.age = H0.age
 fH : H.fH = H0.fH
 fM : H.fM = H0.fM
 mark : H.mark = H0.mark
 fC : H.fC = H0.fC ++ [q + 1]
 seat : H.fD.getD (q + 1) (0, 0, 0) = (H0.mem.length, lenN ss.length fmt, H0.fC.length)
 len : q < M.fA.length
 at_ : (M.fA.getD q noTh).fI = true ∧ (M.fA.getD q noTh).cls = cls ∧ (M.fA.getD q noTh).fmt = fmt ∧ (M.fA.getD q noTh).fB.length = ss.length ∧ ∀ j, j < i → (M.fA.getD q noTh).fB.getD j 0 = ss.getD j 0
 count : H.count = H0.count + 1
 mem : H.mem.length = H0.mem.length + lenN ss.length fmt
 rest : ∀ k, k ≠ q → M.fA.getD k noTh = M0.fA.getD k noTh
 tl : ∀ B, M0.fA.length ≤ B → q < B → M.fA.length ≤ B
theorem Ld.next {H0 H' : HS} {M0 : MS} {q fmt i : Nat} {cls : Int} (h : Ld H0 M0 q cls fmt ss i H M) (hi : i < ss.length) (hinv : Inv H' { M with fA := M.fA.set q (kCD (M.fA.getD q noTh) i (ss.getD i 0)) }) (e1 : H'.age = H.age) (e2 : H'.fH = H.fH) (e3 : H'.fM = H.fM) (e4 : H'.mark = H.mark) (e5 : H'.fC = H.fC) (e6 : H'.fD = H.fD) (e7 : H'.count = H.count) (e8 : H'.mem.length = H.mem.length) :
  Ld H0 M0 q cls fmt ss (i + 1) H' { M with fA := M.fA.set q (kCD (M.fA.getD q noTh) i (ss.getD i 0)) } := by
 obtain ⟨a1, a2, a3, a4, a5⟩ := h.at_;have hg := fun k => kAX M.fA q k (kCD (M.fA.getD q noTh) i (ss.getD i 0)) h.len
 refine ⟨hinv, e1.trans h.age, e2.trans h.fH, e3.trans h.fM, e4.trans h.mark, e5.trans h.fC, by rw [e6]; exact h.seat, by show q < (M.fA.set q _).length; rw [jAL]; exact h.len, ?_, e7.trans h.count, e8.trans h.mem, fun k hk => ?_, fun B h1 h2 => by show (M.fA.set q _).length ≤ B; rw [jAL]; exact h.tl B h1 h2⟩
 ·show ((M.fA.set q _).getD q noTh).fI = true ∧ ((M.fA.set q _).getD q noTh).cls = cls ∧ ((M.fA.set q _).getD q noTh).fmt = fmt ∧ ((M.fA.set q _).getD q noTh).fB.length = ss.length ∧ ∀ j, j < i + 1 → ((M.fA.set q _).getD q noTh).fB.getD j 0 = ss.getD j 0
  rw [hg q, jp rfl];refine ⟨a1, a2, a3, by show ((M.fA.getD q noTh).fB.set i _).length = _; rw [jAL]; exact a4, fun j hj => ?_⟩;show ((M.fA.getD q noTh).fB.set i (ss.getD i 0)).getD j 0 = _;rw [kBQ _ _ _ _ (by omega)]
  by_cases e : j = i
  ·rw [jp e, e]
  ·rw [jn e]; exact a5 j (by omega)
 ·show (M.fA.set q _).getD k noTh = _;rw [hg k, jn hk];exact h.rest k hk
theorem kMq (h : Inv H M) (q : Nat) (hq : q < M.fM) (hf0 : (M.fA.getD q noTh).fI = false) (cls : Int) (fmt : Nat) (ss : List Int) (hf : fmt ≤ 1) (hn : ss.length ≤ 8192) (hr1 : H.count < H.fM) (hr2 : H.mem.length + lenN ss.length fmt ≤ H.fH) :
  ∃ M', Ld H M q cls fmt ss 0 (layH H (q + 1) cls ss.length fmt) M' := by
 have hinv := h.layAt q hq hf0 cls ss.length fmt none none 0 0 hf hn hr1 hr2;have hg := fun i => kHH M.fA q i ⟨true, cls, fmt, kAp M.fA M.fA.length, List.replicate ss.length (newX fmt), none, 0⟩
 refine ⟨_, hinv, rfl, rfl, rfl, rfl, rfl, ?_, ?_, ?_, rfl, ?_, fun k hk => ?_, fun B h1 h2 => by show (kAl M.fA q _).length ≤ B; rw [kCw]; omega⟩
 ·show ((kBA H.fD (q + 1 + 1)).set (q + 1) (H.mem.length, lenN ss.length fmt, H.fC.length)).getD (q + 1) (0, 0, 0) = _;rw [kGe _ _ _ _ (by unfold kBA; simp; omega), jp rfl]
 ·show q < (kAl M.fA q _).length;rw [kCw]; omega
 ·show ((kAl M.fA q _).getD q noTh).fI = true ∧ ((kAl M.fA q _).getD q noTh).cls = cls ∧ ((kAl M.fA q _).getD q noTh).fmt = fmt ∧ ((kAl M.fA q _).getD q noTh).fB.length = ss.length ∧ ∀ j, j < 0 → _
  rw [hg q, jp rfl];exact ⟨rfl, rfl, rfl, by simp, fun j hj => by omega⟩
 ·show (H.mem ++ kAQ cls ss.length fmt).length = _;rw [jAG, kCP cls ss.length fmt hf]
 ·show (kAl M.fA q _).getD k noTh = _;rw [hg k, jn hk]
theorem kPK (q : Nat) (cls : Int) (fmt : Nat) (ss : List Int) (v : Value) (a : Nat) (l : Lay) (H : HS) (M : MS) (w : World) (h : Rep w a l H) (hi : Inv H M) (hq : q < M.fM) (hf0 : (M.fA.getD q noTh).fI = false) (hf : fmt ≤ 1) (hn : ss.length ≤ 8192) (hr1 : H.count < H.fM) (hr2 : H.mem.length + lenN ss.length fmt ≤ H.fH) 
  (hmay : ∀ j, j < ss.length → mayB (ss.getD j 0) (fmt : Int) = true) (ho : Rd w v ss) (hbn : 0 < ss.length → ∀ g, v.ownBlock = some g → g ∉ foot a l) :
  Calls prog 144 #[.pointer (some ⟨a, 0, none⟩), .agg #[int i64 ((q : Int) + 1), int i64 cls, int i64 fmt, v]] w fun e w' => e = .returned (.tuple #[]) ∧ ∃ l' H' M', Rep w' a l' H' ∧ Nx a l l' w w' ∧ Ld H M q cls fmt ss ss.length H' M' := by
 obtain ⟨p, c, rfl, hrow⟩ := ho.at_;have hsm := hi.safe.small;have hoo := hi.fM;obtain ⟨M1, hld⟩ := kMq hi q hq hf0 cls fmt ss hf hn hr1 hr2;have hlay := kKC (q + 1) ss.length fmt cls a l H (w.alloc (.cells #[int i64 ((q : Int) + 1), int i64 cls, int i64 fmt, .slice p ss.length c] 139)) (h.alloc _) hsm (by omega) (by have := hsm.fM; omega) (by omega) (by omega) hr2 hi.safe.fD (by have := hi.safe.fC; omega) hi.safe.bits (by have := hi.safe.bl; omega);rw [show ((q + 1 : Nat) : Int) = (q : Int) + 1 from by omega] at hlay;have HLay := kAA hlay;have HL0 := kAA hld;have HMay := kAA hmay;have hBn : w.heap.size ∉ foot a l := fun hb => by have := h.lt _ hb; omega
 have HRow : Hid (0 < ss.length → ∃ g off, p = some ⟨g, off, none⟩ ∧ g < w.heap.size ∧ g ∉ foot a l ∧ ∀ i, i < ss.length → w.cell? ⟨g, off + i, none⟩ = some (int i64 (ss.getD i 0))) := by
  intro hp;obtain ⟨g, off, hg, hgl, hc⟩ := hrow hp;exact ⟨g, off, hg, hgl, hbn hp g (by rw [hg]; rfl), hc⟩
 obtain ⟨W1, hW1⟩ := jex (w.alloc (.cells #[int i64 ((q : Int) + 1), int i64 cls, int i64 fmt, .slice p ss.length c] 139));have HX1 : Hid (Nx a l l w W1) := by rw [hW1]; exact Nx.frw (Fr.alloc _ _ _)
 have hB1 : W1.heap[w.heap.size]? = some (.cells #[int i64 ((q : Int) + 1), int i64 cls, int i64 fmt, .slice p ss.length c] 139 (0, 0)) := by rw [hW1]; exact heap_alloc_new _ _
 have HB1 := kAA hB1;rw [← hW1] at HLay;have hWs : W1.heap.size = w.heap.size + 1 := by rw [hW1]; simp
 have HWs := kAA hWs;clear h hi ho hbn hrow hmay hlay hld hB1 hWs hf0 hr2 hr1 hsm;simp only [I] at HLay;go_enter func144, ntmps144
 go_wp2_with fail
 rw [← hW1];clear hW1;refine HLay.out.mono ?_;rintro e w2 ⟨rfl, l2, hr2, hx2⟩;have hb2 := (hx2.1.block _ (kAB HB1.out) hBn).trans HB1.out;have e3 : w2.cell? ⟨w.heap.size, 3, none⟩ = some (.slice p ss.length c) := by rw [kAC hb2]; rfl
 have hz2 := kAB hb2;have HR2 := kAA (hr2.alloc (.cells #[int i64 H.mem.length, int i64 ((lenN ss.length fmt : Nat) : Int), int i64 H.fC.length] 148));have HX2 : Hid (Nx a l l2 w (w2.alloc (.cells #[int i64 H.mem.length, int i64 ((lenN ss.length fmt : Nat) : Int), int i64 H.fC.length] 148))) := (HX1.out.trans hx2).trans (Nx.frw (Fr.alloc _ _ _));have HBs : Hid ((w2.alloc (.cells #[int i64 H.mem.length, int i64 ((lenN ss.length fmt : Nat) : Int), int i64 H.fC.length] 148)).heap[w.heap.size]? = some (.cells #[int i64 ((q : Int) + 1), int i64 cls, int i64 fmt, .slice p ss.length c] 139 (0, 0)) ∧ (w2.alloc (.cells #[int i64 H.mem.length, int i64 ((lenN ss.length fmt : Nat) : Int), int i64 H.fC.length] 148)).heap[w2.heap.size]? = some (.cells #[int i64 H.mem.length, int i64 ((lenN ss.length fmt : Nat) : Int), int i64 H.fC.length] 148 (0, 0))) := ⟨by rw [jAN _ _ _ hz2]; exact hb2, heap_alloc_new _ _⟩
 have hn1 : w.heap.size ∉ foot a l2 := fun hb => by
  rcases hx2.2 _ hb with h1 | h1
  ·exact hBn h1
  ·have := HWs.out; omega
 have hn2 : w2.heap.size ∉ foot a l2 := fun hb => by have := hr2.lt _ hb; omega
 have HRow2 : Hid (0 < ss.length → ∃ g off, p = some ⟨g, off, none⟩ ∧ g < (w2.alloc (.cells #[int i64 H.mem.length, int i64 ((lenN ss.length fmt : Nat) : Int), int i64 H.fC.length] 148)).heap.size ∧ g ∉ foot a l2 ∧ ∀ i, i < ss.length → (w2.alloc (.cells #[int i64 H.mem.length, int i64 ((lenN ss.length fmt : Nat) : Int), int i64 H.fC.length] 148)).cell? ⟨g, off + i, none⟩ = some (int i64 (ss.getD i 0))) := by
  intro hp;obtain ⟨g, off, g1, g2, g3, g4⟩ := HRow.out hp;have hs := HX2.out.1.size;refine ⟨g, off, g1, by omega, fun hb => ?_, fun i hi => ?_⟩
  ·rcases hx2.2 _ hb with h1 | h1
   ·exact g3 h1
   ·have := HWs.out; omega
  ·exact (HX2.out.1.cell (p := ⟨g, off + i, none⟩) g2 g3).trans (g4 i hi)
 clear hr2 hx2 hb2 HLay HX1 HB1 HRow
 go_wp2_with fail
 generalize w2.alloc (.cells #[int i64 H.mem.length, int i64 ((lenN ss.length fmt : Nat) : Int), int i64 H.fC.length] 148) = W2 at *;generalize w2.heap.size = S at *
 go_loopw [21] (fun qq wr => ∃ i : Nat, i ≤ ss.length ∧ qq = int i64 i ∧ Hid (Nx a l2 l2 W2 wr ∧ ∃ H' M', Rep wr a l2 H' ∧ Ld H M q cls fmt ss i H' M')) (fun qq _ => ss.length - (intOf qq).toNat)
 case atStart => exact ⟨0, jAH _, rfl, Nx.refl _ _ _, _, M1, HR2.out, HL0.out⟩
 case round =>
  obtain ⟨i, hin, rfl, hqq⟩ := hrel;obtain ⟨hx, H3, M3, hr3, hl3⟩ := hqq.out;have b0 := (hx.1.block _ (kAB HBs.out.1) hn1).trans HBs.out.1;have b1 := (hx.1.block _ (kAB HBs.out.2) hn2).trans HBs.out.2
  by_cases hlt : i < ss.length
  ·obtain ⟨g, off, rfl, g2, g3, g4⟩ := HRow2.out (by omega);have gx := (hx.1.cell (p := ⟨g, off + i, none⟩) g2 g3).trans (g4 i hlt);obtain ⟨a1, a2, a3, a4, a5⟩ := hl3.at_;obtain ⟨H4, hinv4, e1, e2, e3', e4, e5, e6, e7, e8, hcall⟩ := kHq q i (ss.getD i 0) a l2 H3 M3 wr hr3 hl3.inv hl3.len a1 (by omega) (by rw [a3]; exact HMay.out i hlt);rw [hl3.seat, a3] at hcall;have hnx := hl3.next hlt hinv4 e1 e2 e3' e4 e5 e6 e7 e8;have d2 : wr.cell? ⟨w.heap.size, 2, none⟩ = some (int i64 fmt) := by rw [kAC b0]; rfl
   have s0 : wr.cell? ⟨S, 0, none⟩ = some (int i64 H.mem.length) := by rw [kAC b1]; rfl
   have s1 : wr.cell? ⟨S, 1, none⟩ = some (int i64 ((lenN ss.length fmt : Nat) : Int)) := by rw [kAC b1]; rfl
   have s2 : wr.cell? ⟨S, 2, none⟩ = some (int i64 H.fC.length) := by rw [kAC b1]; rfl
   dsimp only [sv, I] at hcall;have HC := kAA hcall;have HN := kAA hnx;have HX := kAA hx;have k1 := ng i;have k2 : (i : Int) < ss.length := by omega
   generalize ss.getD i 0 = xv at *;clear hqq hx hr3 hl3 a1 a2 a3 a4 a5 hinv4 e1 e2 e3' e4 e5 e6 e7 e8 hcall hnx b0 b1 g4 g2 g3
   go_wp2_with fail
   refine HC.out.mono ?_;rintro e w5 ⟨rfl, hr5, hx5⟩;have HF : Hid (Nx a l2 l2 W2 w5 ∧ ∃ H' M', Rep w5 a l2 H' ∧ Ld H M q cls fmt ss (i + 1) H' M') := ⟨HX.out.trans hx5, _, _, hr5, HN.out⟩;clear hr5 hx5
   go_wp2_with fail
   go_roundw
   case rel => exact ⟨i + 1, by omega, by go_num, HF.out⟩
   case measure => simp [intOf]; omega
  ·have hie : i = ss.length := by omega
   subst hie;have HF : Hid (∃ l' H' M', Rep wr a l' H' ∧ Nx a l l' w wr ∧ Ld H M q cls fmt ss ss.length H' M') := ⟨l2, H3, M3, hr3, HX2.out.trans hx, hl3⟩;clear hqq hx hr3 hl3 b0 b1
   go_wp2_with fail
   go_end0
   exact ⟨rfl, HF.out⟩
end Go.Proofs.YtflgicdbbogllaaGreatDoor
