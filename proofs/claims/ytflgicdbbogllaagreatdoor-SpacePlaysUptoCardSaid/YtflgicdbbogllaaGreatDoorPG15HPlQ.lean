import Derived.Test.YtflgicdbbogllaaGreatDoorPG14HLoadT
set_option maxHeartbeats 1000000
set_option maxRecDepth 20000
set_option linter.unusedSimpArgs false
set_option linter.unusedVariables false
namespace Go.Proofs.YtflgicdbbogllaaGreatDoor
open Go.RowKit Tryz
open Value (int)
open IntKind (i64)
attribute [local go_sem ↓] wp_at_zero wp_at_succ
variable {C M : MS} {G H : HS}
def kBO (H : HS) (M : MS) : List Key := ((kAa H).map (keyO M.fA)).map kCA
theorem kMu (L : List Nat) (i x : Nat) (hx : L[i]? = some x) : L = L.take i ++ x :: L.drop (i + 1) := by
 obtain ⟨hi, e⟩ := jAc.1 hx;rw [← e, ← jBD hi, jAt]
theorem Inv.takesAll (h : Inv H M) (hg : Good M) : allK H.fH H.fM (kBO H M) := by
 intro i o ho;unfold kBO at ho ⊢;rw [jAQ, jAQ] at ho
 cases hx : (kAa H)[i]? with
 | none => rw [hx] at ho; simp at ho
 | some x =>
  rw [hx] at ho;have ho' : kCA (keyO M.fA x) = o := by simpa using ho
  subst ho';have hs := kMu _ i x hx;have hp := h.toInvV.lives;rw [← jBS, ← jBS];have hxm : x ∈ kAa H := by rw [hs]; simp
  rw [hs] at hp;obtain ⟨p1, p2, p3⟩ := jAi.1 hp;obtain ⟨k, hk0, hk, hb, s1, s2, s3⟩ := h.toInvV.liveIn x hxm;obtain ⟨f1, f2, f3⟩ := hg k hb
  have hne : ∀ y ∈ (kAa H).take i, y ≠ x := fun y hy e => by
   have := p3 y hy x (by simp);have := kCt M.fA y;rw [e] at this;rw [e] at *;omega
  have hsum := kIR M.fA _ (plO M.fA x) p1 (fun y hy => p3 y hy x (by simp));have hsl := h.model.fB k hk;have hmem := h.safe.small.mem;have hmost := h.most;have hoo := h.fM;have e0 : x - 1 = k := by omega
  have g1 : isW (M.fA.getD (x - 1) noTh).cls = true := by rw [e0]; exact f1
  have g2 : (M.fA.getD (x - 1) noTh).fmt ≤ 1 := by rw [e0]; exact f2
  have g3 : ∀ z ∈ (M.fA.getD (x - 1) noTh).fB, mayB z ((M.fA.getD (x - 1) noTh).fmt : Int) = true := by rw [e0]; exact f3
  have g4 : ((M.fA.getD (x - 1) noTh).fB.length : Int) ≤ 8192 := by rw [e0]; exact hsl
  unfold kCB;simp only [jBA, decide_eq_true_eq];refine ⟨⟨⟨⟨⟨⟨⟨?_, ?_⟩, ?_⟩, g1⟩, ?_⟩, g4⟩, ?_⟩, ?_⟩
  ·show (1 : Int) ≤ (x : Int); omega
  ·show (x : Int) ≤ H.fM; omega
  ·rw [Bool.not_eq_true'];rw [Bool.eq_false_iff]
   intro hc;obtain ⟨z, z1, z2⟩ := jBd.1 hc;obtain ⟨u, u1, u2⟩ := jAZ.1 z1;obtain ⟨y, y1, y2⟩ := jAZ.1 u1;rw [← u2, ← y2] at z2;have z3 : ((y : Int) == (x : Int)) = true := z2;have : (y : Int) = (x : Int) := by simpa using z3
   exact hne y y1 (by omega)
  ·show isF ((M.fA.getD (x - 1) noTh).fmt : Int) = true;rcases (show (M.fA.getD (x - 1) noTh).fmt = 0 ∨ (M.fA.getD (x - 1) noTh).fmt = 1 from by omega) with e | e
   ·rw [e]; decide
   ·rw [e]; decide
  ·show (M.fA.getD (x - 1) noTh).fB.all _ = true;rw [jBR];exact g3
  ·rw [kFp];show ((sumO M.fA ((kAa H).take i) : Nat) : Int) + kBd ((M.fA.getD (x - 1) noTh).fB.length : Int) ((M.fA.getD (x - 1) noTh).fmt : Int) ≤ (H.fH : Int);rw [kAt];have e : lenN (M.fA.getD (x - 1) noTh).fB.length (M.fA.getD (x - 1) noTh).fmt = lnO M.fA x := rfl;rw [e];omega
theorem Lds.most {H0 : HS} {M0 : MS} {ks : List Key} (B : Nat) (h0 : M0.fA.length ≤ B) (h : Lds H0 M0 ks H M) : (∀ k ∈ ks, k.1 ≤ (B : Int)) → M.fA.length ≤ B := by
 refine Lds.ind (C := fun ks H M => (∀ k ∈ ks, k.1 ≤ (B : Int)) → M.fA.length ≤ B) (fun _ => h0) ?_ h
 intro ks H H' M M' q cls fmt ss _ _ hl ih hk;refine hl.tl B (ih (fun k hk2 => hk k (jBE _ hk2))) ?_;have := hk ((q : Int) + 1, cls, (fmt : Int), ss) (by simp);dsimp only at this;omega
theorem kIP (fH fM mark : Nat) (ov : Value) (la : List OI) (w : World) (ha : SAt w ov la) (hT : Tab w) (hT0 : 0 < w.heap.size) (h1 : (fH : Int) ≤ 1048576) (h2 : (fM : Int) ≤ 65536) (hm : (mark : Int) ≤ 1073741824) (hall : allK fH fM (la.map kAU)) (B : Nat) (hB : ∀ k ∈ la.map kAU, k.1 ≤ (B : Int)) :
  Calls prog 117 #[.agg #[int i64 fH, int i64 fM, int i64 mark, ov]] w fun e w' =>
   e = .returned (.tuple #[.pointer (some ⟨w.heap.size + 1, 0, none⟩), int i64 0]) ∧ ∃ l G Mg, Rep w' (w.heap.size + 1) l G ∧ Fr [] w w' ∧ (∀ b ∈ foot (w.heap.size + 1) l, w.heap.size ≤ b) ∧ KOf fH fM mark (la.map kAU) G Mg ∧ Mg.fA.length ≤ B := by
 refine Calls.mono (kNI fH fM mark ov la w ha hT hT0 h1 h2 hm) ?_;rintro e w' (⟨l, H, M, he, hl⟩ | ⟨k, o, H, M, he, hf, ho, hl, ht⟩)
 ·have hk := hl.lds;rw [jAV] at hk;exact ⟨he, l, H, M, hl.rep, hl.fr, hl.new, hk.kOf h1 h2 hm, hk.most B (by simp [kBD]) hB⟩
 ·exfalso;have hk := hl.kOf h1 h2 hm;have h3 := hk.takes (kAU o);have h4 : kAn H (kAU o).1 (kAU o).2.1 (kAU o).2.2.1 (kAU o).2.2.2 = false := ht;rw [h4, jBS] at h3;have h5 := hall k (kAU o) (by rw [jAQ, ho]; rfl);rw [h5] at h3
  cases h3
def Cov (H : HS) (M : MS) : Prop := ∀ p, p < H.mem.length → ∃ i, (M.fA.getD i noTh).fI = true ∧ (M.fA.getD i noTh).fJ ≤ p ∧ p < (M.fA.getD i noTh).fJ + lenN (M.fA.getD i noTh).fB.length (M.fA.getD i noTh).fmt
theorem kKz (h : InvV H M) (hc : Cov H M) : ∀ a x b, kAa H = a ++ x :: b → plO M.fA x = sumO M.fA a := by
 refine kPJ M.fA (kAa H) H.mem.length h.lives (fun x hx => ?_) (fun p hp => ?_)
 ·obtain ⟨i, -, -, -, -, -, h6⟩ := h.liveIn x hx;exact h6
 ·obtain ⟨i, i1, i2, i3⟩ := hc p hp;exact ⟨i + 1, (h.live (i + 1)).2 ⟨by omega, i1⟩, i2, i3⟩
theorem kJm {S T : List Th} : ∀ l : List Nat, (∀ x ∈ l, lnO S x = lnO T x) → sumO S l = sumO T l := by
 intro l
 induction l with
 | nil => intro _; rfl
 | cons x t ih =>
  intro h;show lnO S x + sumO S t = lnO T x + sumO T t;rw [h x (by simp), ih (fun y hy => h y (jAr _ hy))]
theorem Inv.pad {N : MS} (h : Inv G N) (hw : C.fH = N.fH) (ho : C.fM = N.fM) (hm : C.mark = N.mark) (hlen : N.fA.length ≤ C.fA.length) (hth : ∀ i, (C.fA.getD i noTh).fI = (N.fA.getD i noTh).fI) (hat : ∀ i, (N.fA.getD i noTh).fI = true → bare (C.fA.getD i noTh) = bare (N.fA.getD i noTh)) (hok : MOk C) (hmost : C.fA.length ≤ C.fM) : Inv G C := by
 have hf : ∀ i, (C.fA.getD i noTh).fI = true → (N.fA.getD i noTh).fI = true ∧ i < N.fA.length ∧ (C.fA.getD i noTh).cls = (N.fA.getD i noTh).cls ∧ (C.fA.getD i noTh).fmt = (N.fA.getD i noTh).fmt ∧ (C.fA.getD i noTh).fJ = (N.fA.getD i noTh).fJ ∧ (C.fA.getD i noTh).fB = (N.fA.getD i noTh).fB := by
  intro i hb;have hb2 : (N.fA.getD i noTh).fI = true := by rw [← hth]; exact hb
  have e := hat i hb2;refine ⟨hb2, kAs hb2, ?_⟩;generalize C.fA.getD i noTh = t at *;generalize N.fA.getD i noTh = u at *
  cases t; cases u
  simp only [bare, Th.mk.injEq] at e;obtain ⟨_, h2, h3, h4, h5, -⟩ := e;exact ⟨h2, h3, h4, h5⟩
 have hthere : ∀ n, n ≤ N.fA.length → kAG C.fA n = kAG N.fA n := by
  intro n
  induction n with
  | zero => intro _; rfl
  | succ n ih =>
   intro hn;rw [kAN _ _ (by omega), kAN _ _ (by omega), ih (by omega), hth]
 have hthere2 : ∀ d, N.fA.length + d ≤ C.fA.length → kAG C.fA (N.fA.length + d) = kAG N.fA N.fA.length := by
  intro d
  induction d with
  | zero => intro _; exact hthere _ (jAD _)
  | succ d ih =>
   intro hd;rw [← jBF, kAN _ _ (by omega), ih (by omega), hth, jAA, jAM (by omega)];rfl
 have hend : ∀ n, kAp C.fA n = kAp N.fA n := by
  intro n
  induction n with
  | zero => rfl
  | succ n ih =>
   rw [kBh, kBh, ih]
   cases hb : (C.fA.getD n noTh).fI with
   | false =>
    rw [jn (by simp), jn (by rw [← hth, hb]; simp)]
   | true =>
    obtain ⟨b1, -, -, b3, b4, b5⟩ := hf n hb;rw [b1, b3, b4, b5]
 have hend2 : ∀ d, kAp N.fA (N.fA.length + d) = kAp N.fA N.fA.length := by
  intro d
  induction d with
  | zero => rfl
  | succ d ih =>
   rw [← jBF, kBh, ih, jn];rw [jAA, jAM (by omega)]
   simp [noTh]
 exact {
  safe := h.safe
  fH := h.fH.trans hw.symm
  fM := h.fM.trans ho.symm
  mark := h.mark.trans hm.symm
  len := by have := h.len; omega
  seat0 := h.seat0
  fI := fun k hk => by
   rw [hth]
   by_cases e : k < N.fA.length
   ·exact h.fI k e
   ·rw [jAA, jAM (by omega), jAA, jAM (by have := h.len; omega)]
    simp [noTh]
  seat := fun k hk hb => by
   obtain ⟨b1, b2, -, b3, b4, b5⟩ := hf k hb;rw [b3, b4, b5];exact h.seat k b2 b1
  is := fun k hk hb => by
   obtain ⟨b1, b2, b6, b3, b4, b5⟩ := hf k hb;have hI := h.is k b2 b1;exact ⟨hI.has, by rw [b5, b3]; exact hI.room, by rw [b6]; exact hI.cls, by rw [b5, b3]; exact hI.shape, by rw [b3]; exact hI.fmt, by rw [b5]; exact hI.len, by rw [b5, b3]; exact hI.word, by rw [b5, b3]; exact hI.byte⟩
  count := by
   have := hthere2 (C.fA.length - N.fA.length) (by omega);rw [show N.fA.length + (C.fA.length - N.fA.length) = C.fA.length from by omega] at this;rw [this];exact h.count
  fO := fun k hk hb => by
   obtain ⟨b1, b2, -⟩ := hf k hb;exact h.fO k b2 b1
  fC := fun j hj hn => by
   obtain ⟨o1, o2, o3⟩ := h.fC j hj hn;exact ⟨by omega, by rw [hth]; exact o2, o3⟩
  rise := h.rise
  gaps := fun p hp hc => h.gaps p hp (fun k hk hb => by
   have hb2 : (C.fA.getD k noTh).fI = true := by rw [hth]; exact hb
   obtain ⟨b1, b2, -, b3, b4, b5⟩ := hf k hb2;have := hc k (by omega) hb2;rw [b3, b4, b5] at this;exact this)
  bit := fun k => by rw [hth]; exact h.bit k
  low := h.low
  model := hok
  deep := h.deep
  most := hmost
  room := h.room
  fin := by
   have := hend2 (C.fA.length - N.fA.length);rw [show N.fA.length + (C.fA.length - N.fA.length) = C.fA.length from by omega] at this;rw [hend, this];exact h.fin
  last := h.last }
theorem kJc {Mg : MS} (h : Inv H M) (hc : Cov H M) (hk : KOf H.fH H.fM H.mark (kBO H M) G Mg) (hB : Mg.fA.length ≤ M.fA.length) (hl : Lk C M) (hok : MOk C) : Inv G C := by
 have hI := hk.inv
 have hlive : kAa G = kAa H := by
  unfold kAa;rw [hk.fC];unfold kBO
  have e2 : ((((kAa H).map (keyO M.fA)).map kCA).map (fun k : Key => k.1.toNat)) = kAa H := by
   rw [jAa, jAa]
   conv => rhs; rw [← List.map_id (kAa H)]
   exact jBJ fun x _ => rfl
  rw [e2];unfold kAa;rw [List.filter_filter]
  congr 1
  funext o
  simp
 have hmemk : ∀ x ∈ kAa H, kCA (keyO M.fA x) ∈ kBO H M := fun x hx => jAq (jAq hx)
 have hth : ∀ i, (Mg.fA.getD i noTh).fI = (M.fA.getD i noTh).fI := by
  intro i;have h1 := hI.toInvV.live (i + 1);have h2 := h.toInvV.live (i + 1);rw [hlive] at h1;rw [jAJ] at h1 h2;rw [jBZ];constructor
  ·intro hb; exact (h2.1 (h1.2 ⟨by omega, hb⟩)).2
  ·intro hb; exact (h1.1 (h2.2 ⟨by omega, hb⟩)).2
 have hat : ∀ x ∈ kAa H, (Mg.fA.getD (x - 1) noTh).cls = (M.fA.getD (x - 1) noTh).cls ∧ (Mg.fA.getD (x - 1) noTh).fmt = (M.fA.getD (x - 1) noTh).fmt ∧ (Mg.fA.getD (x - 1) noTh).fB = (M.fA.getD (x - 1) noTh).fB := by
  intro x hx;obtain ⟨-, -, b2, b3, b4⟩ := hk.at_ _ (hmemk x hx);have e : (kCA (keyO M.fA x)).1.toNat = x := rfl;rw [e] at b2 b3 b4;exact ⟨b2, by have b3' : ((Mg.fA.getD (x - 1) noTh).fmt : Int) = ((M.fA.getD (x - 1) noTh).fmt : Int) := b3; omega, b4⟩
 have hln : ∀ x ∈ kAa H, lnO Mg.fA x = lnO M.fA x := fun x hx => by
  obtain ⟨-, b2, b3⟩ := hat x hx;unfold lnO;rw [b2, b3]
 have hsum : ∀ l : List Nat, (∀ x ∈ l, x ∈ kAa H) → sumO Mg.fA l = sumO M.fA l := fun l hl => kJm l (fun x hx => hln x (hl x hx))
 have hmem : G.mem.length = sumO Mg.fA (kAa H) := by
  have := hk.mem;unfold kBO at this;rw [kFp, ← hsum _ (fun x hx => hx)] at this;omega
 have hpl : ∀ x ∈ kAa H, plO Mg.fA x = plO M.fA x := by
  intro x hx;obtain ⟨a, b, e⟩ := List.append_of_mem hx;have hp := hI.toInvV.lives;rw [hlive] at hp;rw [kKz h.toInvV hc a x b e, ← hsum a (fun y hy => by rw [e]; exact jBE _ hy)];refine kKV Mg.fA (kAa H) hp (fun y hy => ?_) a x b e;rw [← hmem];obtain ⟨i, -, -, -, -, -, h6⟩ := hI.toInvV.liveIn y (by rw [hlive]; exact hy);exact h6
 have hmost := h.most;have hll := hl.len;refine hI.pad (hl.fH.trans ?_) (hl.fM.trans ?_) (hl.mark.trans ?_) (by omega) (fun i => ?_) (fun i hb => ?_) hok (by rw [hll, hl.fM]; exact hmost)
 ·rw [← h.fH, ← hI.fH, hk.fH]
 ·rw [← h.fM, ← hI.fM, hk.fM]
 ·rw [← h.mark, ← hI.mark, hk.mark]
 ·rw [(hl.fields i).1, hth]
 ·have hb2 : (M.fA.getD i noTh).fI = true := by rw [← hth]; exact hb
  have hx : i + 1 ∈ kAa H := (h.toInvV.live (i + 1)).2 ⟨by omega, hb2⟩;obtain ⟨c1, c2, c3⟩ := hat (i + 1) hx;have c4 := hpl (i + 1) hx;unfold plO at c4;rw [jAJ] at c1 c2 c3 c4;rw [hl.at i];generalize M.fA.getD i noTh = t at *;generalize Mg.fA.getD i noTh = u at *
  cases t; cases u
  simp only at *;subst c1 c2 c3 c4 hb hb2;rfl
theorem InvV.slide_cov (hv : InvV H M) : Cov (kBS H) { M with fA := kBc M.fA 0 (kAG M.fA M.fA.length) } := by
 obtain ⟨T, h⟩ := hv.mid H.fC.length (jAD _);have hdone : ∀ i, (M.fA.getD i noTh).fI = true → (H.fD.getD (i + 1) (0, 0, 0)).2.2 < H.fC.length := fun i hb => (hv.fO i (kAs hb) hb).1
 have hen := (kCc H hv.slideOk H.fC.length (jAD _)).2.2.2.2;unfold kBS;generalize kAM H H.fC.length = x at *;have hml := h.ml;have hb : ∀ i, (T.getD i noTh).fI = (M.fA.getD i noTh).fI := fun i => (h.alike.at_ i).1
 have hD := fun i hbi => h.done i hbi (hdone i hbi)
 have hres : kBc M.fA 0 (kAG M.fA M.fA.length) = T := by
  have hc : x.turns ≤ kAG M.fA M.fA.length := by
   refine kEF x.turns M.fA (fun r => x.H.fC.getD r 0 - 1) (fun r hr => ?_) (fun i j hi hj e => ?_)
   ·obtain ⟨i, i1, i2, i3, i4⟩ := h.ord r hr;simp only [i1, jAJ];exact i2
   ·obtain ⟨p, p1, p2, p3, p4⟩ := h.ord i hi;obtain ⟨q, q1, q2, q3, q4⟩ := h.ord j hj;simp only [p1, q1, jAJ] at e;rw [e] at p4;omega
  have := h.run (kAG M.fA M.fA.length - x.turns);rw [show x.turns + (kAG M.fA M.fA.length - x.turns) = kAG M.fA M.fA.length from by omega] at this;rw [this]
  have hno := kHA T x.en (fun i hbi => by
   rw [hb] at hbi;obtain ⟨t, t1, t2, t3, t4, t5, t6⟩ := hD i hbi;have := kAR (M.fA.getD i noTh).fB.length (M.fA.getD i noTh).fmt;omega) T.length
  cases kAG M.fA M.fA.length - x.turns with
  | zero => rfl
  | succ n => exact kDB T x.en n hno
 rw [hres]
 intro p hp
 have hp2 : p < x.en := by
  have : p < (x.H.mem.take x.en).length := hp
  simp at this
  omega
 obtain ⟨i, i1, i2, i3, i4⟩ := h.cov p hp2;refine ⟨i, by show (T.getD i noTh).fI = true; rw [hb]; exact i1, i3, ?_⟩;show p < (T.getD i noTh).fJ + lenN (T.getD i noTh).fB.length (T.getD i noTh).fmt;rw [(h.alike.at_ i).2.1, (h.alike.at_ i).2.2.1];exact i4
theorem kBw (ss : List Int) (va vb : Value) (w : World) (ha : Rd w va ss) (hb : Rd w vb ss) :
  Calls prog 37 #[va, vb] w fun e w' => e = .returned (.bool true) ∧ ∃ n, w' = w.drewN n := by
 obtain ⟨pa, ca, rfl, hpa⟩ := ha.at_;obtain ⟨pb, cb, rfl, hpb⟩ := hb.at_;have hl := ha.short;clear ha hb;have HA := kAA hpa;have HB := kAA hpb;clear hpa hpb;go_enter func37, ntmps37
 go_wp2_with fail
 go_loopw [5] (fun q wr => ∃ k : Nat, k ≤ ss.length ∧ q = int i64 k ∧ Hid (∃ n, wr = w.drewN n)) (fun q _ => ss.length - (intOf q).toNat)
 case atStart => exact ⟨0, jAH _, rfl, 0, rfl⟩
 case round =>
  obtain ⟨k, hkn, rfl, hq⟩ := hrel
  by_cases hlt : k < ss.length
  ·obtain ⟨ga, oa, rfl, -, hca⟩ := HA.out (by omega);obtain ⟨gb, ob, rfl, -, hcb⟩ := HB.out (by omega);obtain ⟨n, hn⟩ := hq.out;have x1 : wr.cell? ⟨ga, oa + k, none⟩ = some (int i64 (ss.getD k 0)) := by rw [hn]; exact hca k hlt
   have x2 : wr.cell? ⟨gb, ob + k, none⟩ = some (int i64 (ss.getD k 0)) := by rw [hn]; exact hcb k hlt
   have k1 := ng k;have k2 : (k : Int) < ss.length := by omega
   have HD : Hid (∀ m, ∃ n, wr.drewN m = w.drewN n) := fun m => ⟨n + m, by rw [hn]; simp [World.drewN, jBF]⟩
   generalize ss.getD k 0 = z at *;clear hca hcb hq hn HA HB
   go_wp2_with fail
   go_quiet (fail)
   go_wp2_with fail
   go_roundw
   case rel => exact ⟨k + 1, by omega, by go_num, HD.out _⟩
   case measure => simp [intOf]; omega
  ·have hke : k = ss.length := by omega
   subst hke
   go_wp2_with fail
   go_ret
   exact ⟨rfl, hq.out⟩
theorem kEN (x y z : Int) (oa ob : Value) (la lb : List OI) (w : World) (ha : SAt w oa la) (hb : SAt w ob lb) (hk : la.map kAU = lb.map kAU) :
  Calls prog 40 #[.agg #[int i64 x, int i64 y, int i64 z, oa], .agg #[int i64 x, int i64 y, int i64 z, ob]] w fun e w' => e = .returned (.bool true) ∧ Fr [] w w' := by
 have hll : lb.length = la.length := by have := congrArg List.length hk; simpa using this.symm
 have HA := kAA ha;have HB := kAA hb;have HK := kAA hk;have hl := ha.short;obtain ⟨pa, ca, rfl, -⟩ := ha.at_;obtain ⟨pb, cb, rfl, -⟩ := hb.at_;rw [hll] at HB ⊢;clear ha hb hk;obtain ⟨W1, hW1⟩ := jex ((w.alloc (.cells #[int i64 x, int i64 y, int i64 z, .slice pa la.length ca] 82)).alloc (.cells #[int i64 x, int i64 y, int i64 z, .slice pb la.length cb] 82));have F1 : Hid (Fr [] w W1) := by rw [hW1]; exact (Fr.alloc [] _ _).trans (Fr.alloc [] _ _) (by simp)
 have HC : Hid (W1.heap[w.heap.size]? = some (.cells #[int i64 x, int i64 y, int i64 z, .slice pa la.length ca] 82 (0, 0)) ∧ W1.heap[w.heap.size + 1]? = some (.cells #[int i64 x, int i64 y, int i64 z, .slice pb la.length cb] 82 (0, 0))) := by
  rw [hW1];refine ⟨?_, ?_⟩
  ·rw [jAN _ _ _ (by simp)]; exact heap_alloc_new _ _
  ·have := heap_alloc_new (w.alloc (.cells #[int i64 x, int i64 y, int i64 z, .slice pa la.length ca] 82)) (.cells #[int i64 x, int i64 y, int i64 z, .slice pb la.length cb] 82)
   simpa using this
 go_enter func40, ntmps40
 go_wp2_with fail
 rw [← hW1];clear hW1
 go_loopw [5] (fun q wr => ∃ k : Nat, k ≤ la.length ∧ q = int i64 k ∧ Hid (Fr [] W1 wr)) (fun q _ => la.length - (intOf q).toNat)
 case atStart => exact ⟨0, jAH _, rfl, Fr.refl _ _⟩
 case round =>
  obtain ⟨k, hkn, rfl, hf⟩ := hrel;have b0 := (hf.out.block _ (kAB HC.out.1) (by simp)).trans HC.out.1;have b1 := (hf.out.block _ (kAB HC.out.2) (by simp)).trans HC.out.2;have e0 : wr.cell? ⟨w.heap.size, 3, none⟩ = some (.slice pa la.length ca) := by rw [kAC b0]; rfl
  have e1 : wr.cell? ⟨w.heap.size + 1, 3, none⟩ = some (.slice pb la.length cb) := by rw [kAC b1]; rfl
  have hB1 := kAB b1
  by_cases hlt : k < la.length
  ·have Fk := F1.out.trans hf.out (by simp);have hAk := HA.out.fK Fk;have hBk := HB.out.fK Fk;obtain ⟨pa', ca', e2, hpa⟩ := hAk.at_
   injection e2 with e2 e2b e2c
   subst e2;subst e2c;clear e2b;obtain ⟨pb', cb', e3, hpb⟩ := hBk.at_
   injection e3 with e3 e3b e3c
   subst e3;subst e3c;clear e3b;obtain ⟨ga, fa, rfl, hca⟩ := hpa (by omega);obtain ⟨gb, fb, rfl, hcb⟩ := hpb (by omega);obtain ⟨o, h0, x0, x1, x2, x3⟩ := hca k hlt;have x4 := hAk.fB o (jAn h0);obtain ⟨o', h0', y0, y1, y2, y3⟩ := hcb k (by omega);have y4 := hBk.fB o' (jAn h0')
   have hkey : kAU o = kAU o' := by
    have := congrArg (fun l => l[k]?) HK.out;simp only [jAQ, h0, h0'] at this
    simpa using this
   have hgl : ga < wr.heap.size := jAf wr ⟨ga, fa + k * 4, none⟩ x0;have hgl2 : gb < wr.heap.size := jAf wr ⟨gb, fb + k * 4, none⟩ y0;obtain ⟨oo, oc, of_, os, ov⟩ := o;obtain ⟨oo', oc', of', os', ov'⟩ := o';simp only [kAU, Prod.mk.injEq] at hkey;obtain ⟨rfl, rfl, rfl, rfl⟩ := hkey;dsimp only at *
   have HSW : Hid (∀ V, Hid (Fr [] wr V) → Calls prog 37 #[ov, ov'] V fun e w' => e = .returned (.bool true) ∧ Hid (Fr [] wr w')) := by
    intro V hV;refine Calls.mono (kBw os ov ov' V (x4.fK hV.out) (y4.fK hV.out)) ?_;rintro e w' ⟨rfl, n, rfl⟩;exact ⟨rfl, hV.out.trans (Fr.drewN [] _ _) (by simp)⟩
   obtain ⟨p1, c1, rfl⟩ : ∃ p c, ov = .slice p os.length c := by
    obtain ⟨p, c, h, _⟩ := x4.at_;exact ⟨p, c, h⟩
   obtain ⟨p2, c2, rfl⟩ : ∃ p c, ov' = .slice p os.length c := by
    obtain ⟨p, c, h, _⟩ := y4.at_;exact ⟨p, c, h⟩
   have k1 := ng k;have k2 : (k : Int) < la.length := by omega
   have HS2 := kAA (HSW.out ((wr.alloc (.cells #[int i64 oo, int i64 oc, int i64 of_, .slice p1 os.length c1] 139)).alloc (.cells #[int i64 oo, int i64 oc, int i64 of_, .slice p2 os.length c2] 139)) ((Fr.alloc [] _ _).trans (Fr.alloc [] _ _) (by simp)));generalize os.length = sn at *;clear hAk hBk hca hcb hpa hpb x4 y4 b0 b1 HSW HK HA HB h0 h0' Fk hll
   go_wp2_with (go_at_call 37; refine HS2.out.mono ?_; rintro e w5 ⟨rfl, hf5⟩)
   go_roundw
   case rel => exact ⟨k + 1, by omega, by go_num, hf.out.trans hf5.out (by simp)⟩
   case measure => simp [intOf]; omega
  ·have hke : k = la.length := by omega
   subst hke
   go_wp2_with fail
   go_ret
   exact ⟨rfl, F1.out.trans hf.out (by simp)⟩
theorem kLN (l : List OS) : (l.map toOI).map kAU = (l.map kDo).map kCA := by rw [jAa, jAa]; rfl
theorem SRep.state {w : World} {base : Nat} {ov : Value} {ls : List OS} (h : SRep w base ov ls) (hi : Inv H M) (hk : ls.map kDo = kAr H M.fA H.fC.length) : SAt w ov (ls.map toOI) ∧ (ls.map toOI).map kAU = kBO H M ∧ ls.length ≤ 1048576 ∧ ∀ o ∈ ls, o.fB.length ≤ 8192 := by
 have hl : ls.length ≤ 1048576 := by
  have e1 : ls.length = (kAr H M.fA H.fC.length).length := by rw [← hk, jAR]
  rw [e1];unfold kAr;rw [jAR];refine jAU (jBH _ _) ?_;rw [jAV];have := hi.safe.fC;omega
 have hs : ∀ o ∈ ls, o.fB.length ≤ 8192 := fun o ho => by
  have : kDo o ∈ kAr H M.fA H.fC.length := by rw [← hk]; exact jAq ho
  unfold kAr at this;obtain ⟨x, hx1, hx2⟩ := jAZ.1 this
  have hsl : o.fB = (M.fA.getD (x - 1) noTh).fB := by
   have := congrArg (fun z => z.2.2.2) hx2;exact this.symm
  rw [hsl]
  by_cases hxl : x - 1 < M.fA.length
  ·have := hi.model.fB (x - 1) hxl; omega
  ·rw [jAA, jAM (by omega)]; simp [noTh]
 refine ⟨h.sat (by omega) (fun o ho => by have := hs o ho; omega), ?_, hl, hs⟩;rw [kLN, hk, kBq];rfl
theorem kIV (h : Inv H M) : ∀ k ∈ kBO H M, k.1 ≤ (M.fA.length : Int) := by
 intro k hk;obtain ⟨u, u1, u2⟩ := jAZ.1 hk;obtain ⟨x, x1, x2⟩ := jAZ.1 u1;obtain ⟨i, e, hi, -⟩ := h.toInvV.liveIn x x1;rw [← u2, ← x2];show (x : Int) ≤ _;omega
theorem kKY (h : Good M) : Good { M with fA := kBc M.fA 0 (kAG M.fA M.fA.length) } := kGQ _ _ _ h
theorem kMR (k i : Nat) (v : Int) (a : Nat) (l : Lay) (H : HS) (M : MS) (w : World) (h : Rep w a l H) (hi : Inv H M) (hk : k < M.fA.length) (hb : (M.fA.getD k noTh).fI = true) (hil : i < (M.fA.getD k noTh).fB.length) (hm : mayB v ((M.fA.getD k noTh).fmt : Int) = true) (hT : Tab w) :
  ∃ H', Inv H' { M with fA := M.fA.set k (kCD (M.fA.getD k noTh) i v) } ∧ H'.age = H.age ∧ H'.fH = H.fH ∧ H'.fM = H.fM ∧ H'.mark = H.mark ∧ H'.fC = H.fC ∧ Calls prog 51 #[.pointer (some ⟨a, 0, none⟩), int i64 ((k : Int) + 1), int i64 i, int i64 v] w fun e w' => e = .returned (int i64 0) ∧ Rep w' a l H' ∧ Nx a l l w w' := by
 have hI := hi.is k hk hb;obtain ⟨h1, h2, h3⟩ := kAk hI.has;have hmem : (H.mem.length : Int) ≤ 1048576 := by have := hi.safe.small.mem; have := hi.safe.small.fH; omega
 have hroom := hI.room;have h22 := kAR (M.fA.getD k noTh).fB.length (M.fA.getD k noTh).fmt;have hfl := hI.fmt;have hlen := hI.len;have e1 : ((k + 1 : Nat) : Int) = (k : Int) + 1 := by omega
 rw [← e1];rcases (show (M.fA.getD k noTh).fmt = 0 ∨ (M.fA.getD k noTh).fmt = 1 from by omega) with hf | hf
 ·have hw := kCK (M.fA.getD k noTh).fB.length i (M.fA.getD k noTh).fmt hf hil;refine ⟨_, hi.putW k hk hb i v hil hf, rfl, rfl, rfl, rfl, rfl, ?_⟩
  exact kOY (k + 1) i (M.fA.getD k noTh).fB.length (M.fA.getD k noTh).fmt v a l H _ w h hmem h1 h2 h3 (by omega) hI.shape (by omega) (by omega) (by omega) hm hT (fun V hV => by
   rw [hf];exact kGv (H.fD.getD (k + 1) (0, 0, 0)) i v a l H V hV (by omega) hmem)
 ·have hw := kCI (M.fA.getD k noTh).fB.length i hil;rw [← hf] at hw;obtain ⟨old, o1, o2, o3⟩ := hI.byte hf i hil
  have hv : 0 ≤ v ∧ v ≤ 255 := by
   unfold mayB at hm;rw [jp (by omega)] at hm;exact of_decide_eq_true hm
  obtain ⟨vn, rfl⟩ : ∃ vn : Nat, v = (vn : Int) := ⟨v.toNat, by omega⟩
  refine ⟨_, hi.putB' k hk hb i vn old hil hf (by omega) o1 o2, rfl, rfl, rfl, rfl, rfl, ?_⟩
  exact kOY (k + 1) i (M.fA.getD k noTh).fB.length (M.fA.getD k noTh).fmt vn a l H _ w h hmem h1 h2 h3 (by omega) hI.shape (by omega) (by omega) (by omega) hm hT (fun V hV => by
   rw [hf];exact kIa (H.fD.getD (k + 1) (0, 0, 0)) i vn old a l H V hV (by omega) hmem o1 (by omega) (by omega) o2)
def putA (M : MS) (A B X : Int) : Int := if mhas M A = true then (if 0 ≤ B ∧ B < ((M.fA.getD (A.toNat - 1) noTh).fB.length : Int) then (if mayB X ((M.fA.getD (A.toNat - 1) noTh).fmt : Int) = true then 0 else 10) else 21) else 20
def atA (M : MS) (A B : Int) : Int × Int := if mhas M A = true then (if 0 ≤ B ∧ B < ((M.fA.getD (A.toNat - 1) noTh).fB.length : Int) then ((M.fA.getD (A.toNat - 1) noTh).fB.getD B.toNat 0, 0) else (0, 21)) else (0, 20)
theorem pPut (A B X : Int) (a : Nat) (l : Lay) (H : HS) (M : MS) (w : World) (h : Rep w a l H) (hi : Inv H M) (hT : Tab w) :
  Calls prog 51 #[.pointer (some ⟨a, 0, none⟩), int i64 A, int i64 B, int i64 X] w fun e w' => e = .returned (int i64 (putA M A B X)) ∧ PN false a l H (putN M A B X) w w' := by
 have hmem : (H.mem.length : Int) ≤ 1048576 := by have := hi.safe.small.mem; have := hi.safe.small.fH; omega
 unfold putA
 cases hA : mhas M A with
 | false =>
  rw [jn (by simp), show putN M A B X = M from jn (by rw [hA]; simp)];refine Calls.mono (Put_no A B X a l H w h (by rw [hi.hasM]; exact hA)) ?_;rintro e w' ⟨rfl, hf⟩;exact ⟨rfl, PN.same h hi hf⟩
 | true =>
  rw [jp rfl];have hA2 := hA;obtain ⟨k, rfl, hk, hb⟩ := kAx hA;have hI := hi.is k hk hb;have h22 := kAR (M.fA.getD k noTh).fB.length (M.fA.getD k noTh).fmt;have hroom := hI.room;have hfm := hI.fmt;have hln := hI.len;rw [sub1]
  by_cases hB : 0 ≤ B ∧ B < ((M.fA.getD k noTh).fB.length : Int)
  ·rw [jp hB];obtain ⟨i, rfl⟩ : ∃ i : Nat, B = (i : Int) := ⟨B.toNat, by omega⟩
   cases hX : mayB X ((M.fA.getD k noTh).fmt : Int) with
   | false =>
    rw [jn (by simp), show putN M ((k : Int) + 1) i X = M from jn (by rw [sub1, hX]; simp)];have hf := kMW (k + 1) i _ _ X a l H w h hI.has hmem (by omega) hI.shape (by omega) (by omega) hX hT;rw [show ((k + 1 : Nat) : Int) = (k : Int) + 1 from by omega] at hf;refine hf.mono ?_;rintro e w' ⟨rfl, hf⟩;exact ⟨rfl, PN.same h hi hf⟩
   | true =>
    rw [jp rfl, show putN M ((k : Int) + 1) i X = { M with fA := M.fA.set k (kCD (M.fA.getD k noTh) i X) } from by unfold putN; rw [sub1, jp ⟨hA2, by omega, by omega, hX⟩]; rfl];obtain ⟨H', hinv, hage, -, -, -, hor, hcall⟩ := kMR k i X a l H M w h hi hk hb (by omega) hX hT;refine hcall.mono ?_;rintro e w' ⟨rfl, hr, hx⟩;exact ⟨rfl, l, H', hr, hinv, hx, Old.same hage hor⟩
  ·rw [jn hB, show putN M ((k : Int) + 1) B X = M from jn (by rw [sub1]; omega)];have hf := kOA (k + 1) _ _ B X a l H w h hI.has hmem (by omega) hI.shape (by omega) (by omega);rw [show ((k + 1 : Nat) : Int) = (k : Int) + 1 from by omega] at hf;refine hf.mono ?_;rintro e w' ⟨rfl, hf⟩;exact ⟨rfl, PN.same h hi hf⟩
theorem kHa (A B : Int) (a : Nat) (l : Lay) (H : HS) (M : MS) (w : World) (h : Rep w a l H) (hi : Inv H M) (hn : ¬ (mhas M A = true ∧ mhas M B = true)) :
  Calls prog 72 #[.pointer (some ⟨a, 0, none⟩), int i64 A, int i64 B] w fun e w' => e = .returned (int i64 20) ∧ Fr [] w w' := by
 cases hA : mhas M A with
 | false => exact kHN A B a l H w h (by rw [hi.hasM]; exact hA)
 | true =>
  have hB : mhas M B = false := by
   cases hB : mhas M B with
   | false => rfl
   | true => exact absurd ⟨hA, hB⟩ hn
  have hA2 := hA;obtain ⟨k, rfl, hk, hb⟩ := kAx hA;have e : ((k + 1 : Nat) : Int) = (k : Int) + 1 := by omega
  have hf := kGM (k + 1) B a l H w h (by rw [e, hi.hasM]; exact hA2) (by rw [hi.hasM]; exact hB);rw [e] at hf;exact hf
theorem pExch (A B : Int) (a : Nat) (l : Lay) (H : HS) (M : MS) (w : World) (h : Rep w a l H) (hi : Inv H M) (hage : (H.age : Int) ≤ 1000000000) :
  Calls prog 72 #[.pointer (some ⟨a, 0, none⟩), int i64 A, int i64 B] w fun e w' => e = .returned (int i64 (if mhas M A = true ∧ mhas M B = true then 0 else 20)) ∧ PN (mhas M A && mhas M B) a l H (kEo M A B) w w' := by
 unfold kEo
 by_cases hAB : mhas M A = true ∧ mhas M B = true
 ·rw [jp hAB, jp hAB];obtain ⟨hA, hB⟩ := hAB;have hA0 := hA;have hB0 := hB;obtain ⟨x, rfl, hx, bx⟩ := kAx hA;obtain ⟨y, rfl, hy, by_⟩ := kAx hB;rw [sub1, sub1];refine Calls.mono (kNC x y a l H M w h hi hx hy bx by_ hage) ?_;rintro e w' ⟨rfl, hr, hx'⟩;exact ⟨rfl, l, _, hr, hi.exch x y hx hy bx by_, hx', .inr ⟨by rw [hA0, hB0]; rfl, rfl⟩⟩
 ·rw [jn hAB, jn hAB]
  have hfl : (mhas M A && mhas M B) = false := by
   rw [Bool.eq_false_iff]
   intro hc;exact hAB (by simpa using hc)
  rw [hfl];refine Calls.mono (kHa A B a l H M w h hi hAB) ?_;rintro e w' ⟨rfl, hf⟩;exact ⟨rfl, PN.same h hi hf⟩
theorem kOM (A : Int) (a : Nat) (l : Lay) (H : HS) (M : MS) (w : World) (h : Rep w a l H) (hi : Inv H M) :
  Calls prog 53 #[.pointer (some ⟨a, 0, none⟩), int i64 A] w fun e w' => e = .returned (.tuple #[int i64 (if mhas M A = true then (M.fA.getD (A.toNat - 1) noTh).cls else 0), int i64 (if mhas M A = true then 0 else 20)]) ∧ Fr [] w w' := by
 cases hA : mhas M A with
 | false =>
  rw [jn (by simp), jn (by simp)];exact kIj A a l H w h (by rw [hi.hasM]; exact hA)
 | true =>
  rw [jp rfl, jp rfl];obtain ⟨k, rfl, hk, hb⟩ := kAx hA;have hI := hi.is k hk hb;have h22 := kAR (M.fA.getD k noTh).fB.length (M.fA.getD k noTh).fmt;have hroom := hI.room;have hf := kFc (k + 1) a l H w h hI.has (by omega) (by have := hi.safe.small.mem; have := hi.safe.small.fH; omega);rw [show ((k + 1 : Nat) : Int) = (k : Int) + 1 from by omega, hI.cls] at hf;rw [sub1];exact hf
theorem pSize (A : Int) (a : Nat) (l : Lay) (H : HS) (M : MS) (w : World) (h : Rep w a l H) (hi : Inv H M) :
  Calls prog 82 #[.pointer (some ⟨a, 0, none⟩), int i64 A] w fun e w' => e = .returned (.tuple #[int i64 (if mhas M A = true then ((M.fA.getD (A.toNat - 1) noTh).fB.length : Int) else 0), int i64 (if mhas M A = true then ((M.fA.getD (A.toNat - 1) noTh).fmt : Int) else 0), int i64 (if mhas M A = true then 0 else 20)]) ∧ Fr [] w w' := by
 cases hA : mhas M A with
 | false =>
  rw [jn (by simp), jn (by simp), jn (by simp)];exact kQP A a l H w h (by rw [hi.hasM]; exact hA)
 | true =>
  rw [jp rfl, jp rfl, jp rfl];obtain ⟨k, rfl, hk, hb⟩ := kAx hA;have hI := hi.is k hk hb;have h22 := kAR (M.fA.getD k noTh).fB.length (M.fA.getD k noTh).fmt;have hroom := hI.room;have hf := kLA (k + 1) _ _ a l H w h hI.has (by have := hi.safe.small.mem; have := hi.safe.small.fH; omega) (by omega) hI.shape (by have := hI.fmt; omega);rw [show ((k + 1 : Nat) : Int) = (k : Int) + 1 from by omega] at hf;rw [sub1];exact hf
theorem pAt (A B : Int) (a : Nat) (l : Lay) (H : HS) (M : MS) (w : World) (h : Rep w a l H) (hi : Inv H M) :
  Calls prog 55 #[.pointer (some ⟨a, 0, none⟩), int i64 A, int i64 B] w fun e w' => e = .returned (.tuple #[int i64 (atA M A B).1, int i64 (atA M A B).2]) ∧ Fr [] w w' := by
 have hmem : (H.mem.length : Int) ≤ 1048576 := by have := hi.safe.small.mem; have := hi.safe.small.fH; omega
 unfold atA
 cases hA : mhas M A with
 | false =>
  rw [jn (by simp)];exact At_no A B a l H w h (by rw [hi.hasM]; exact hA)
 | true =>
  rw [jp rfl];obtain ⟨k, rfl, hk, hb⟩ := kAx hA;have hI := hi.is k hk hb;have h22 := kAR (M.fA.getD k noTh).fB.length (M.fA.getD k noTh).fmt;have hroom := hI.room;have hln := hI.len;rw [sub1]
  by_cases hB : 0 ≤ B ∧ B < ((M.fA.getD k noTh).fB.length : Int)
  ·rw [jp hB];obtain ⟨i, rfl⟩ : ∃ i : Nat, B = (i : Int) := ⟨B.toNat, by omega⟩
   have hf := hI.at i (by omega) a l hmem w h;rw [show ((k + 1 : Nat) : Int) = (k : Int) + 1 from by omega] at hf;exact hf
  ·rw [jn hB];have hf := kPC (k + 1) _ _ B a l H w h hI.has hmem (by omega) hI.shape (by have := hI.fmt; omega) (by omega);rw [show ((k + 1 : Nat) : Int) = (k : Int) + 1 from by omega] at hf;exact hf
def allM (M : MS) : List Nat := (List.range (M.fA.length + 1)).filter (fun o => decide (1 ≤ o) && (M.fA.getD (o - 1) noTh).fI)
theorem Inv.allM (h : Inv H M) : kAq H H.fD.length = Go.Proofs.YtflgicdbbogllaaGreatDoor.allM M := by
 rw [h.allEnd];unfold kAq Go.Proofs.YtflgicdbbogllaaGreatDoor.allM;refine List.filter_congr (fun o ho => ?_);have hol := List.mem_range.1 ho
 by_cases h0 : o = 0
 ·subst h0;rw [h.seat0];rfl
 ·have ht := h.fI (o - 1) (by omega);rw [show o - 1 + 1 = o from by omega] at ht;rw [jBZ];simp only [decide_eq_true_eq, jBA];constructor
  ·intro hp; exact ⟨by omega, ht.2 (by omega)⟩
  ·intro hp; have := ht.1 hp.2; omega
end Go.Proofs.YtflgicdbbogllaaGreatDoor
