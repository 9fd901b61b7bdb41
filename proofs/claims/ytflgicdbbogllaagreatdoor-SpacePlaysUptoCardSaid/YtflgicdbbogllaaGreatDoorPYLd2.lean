import Derived.Test.YtflgicdbbogllaaGreatDoorPG30YSeen
import Derived.Test.YtflgicdbbogllaaGreatDoorPG32YOnc
set_option maxHeartbeats 2000000
set_option maxRecDepth 20000
set_option linter.unusedSimpArgs false
set_option linter.unusedVariables false
namespace Go.Proofs.YtflgicdbbogllaaGreatDoor
open Go.RowKit Go.Maps Tryz
open Value (int)
open IntKind (i64)
attribute [local go_sem ↓] wp_at_zero wp_at_succ
variable {A : Int} {H : HS} {M : MS} {b : Bool} {e : Ending} {fH fM : Nat} {ks : List Key} {w w' : World}
theorem RRep.base0 {B r : Nat} {R : RS} (h : RRep w B r R) : RRep w 0 r R ∧ ∀ g ∈ kBF r R, B ≤ g := by
 refine ⟨⟨jAH _, h.top, kAV h.row (jAH _), fun o ho => kAV (h.fB o ho) (jAH _)⟩, fun g hg => ?_⟩;rcases jAF.1 hg with hg | hg
 ·rw [hg]; exact h.lo
 ·rcases jAC.1 hg with hg | hg
  ·exact (h.row.lt g (by simpa using hg)).1
  ·obtain ⟨o, ho, hg⟩ := jAd.1 hg;exact ((h.fB o ho).lt g (by simpa using hg)).1
theorem kGm (M : MS) (A : Int) : mhas (kCh M) A = mhas M A := by
 have h := kDU (kAG M.fA M.fA.length) M.fA 0;have e1 : (kCh M).fA.length = M.fA.length := h.len;have e2 : ((kCh M).fA.getD (A.toNat - 1) noTh).fI = (M.fA.getD (A.toNat - 1) noTh).fI := (h.at_ _).1;unfold mhas;rw [e1, e2]
theorem kOJ (A : Int) (ov : Value) (la : List OI) (w : World) (hi : Inv H M) (hg : Good M) (ha : SAt w ov la) (hk : la.map kAU = kBO H M) (hT : Tbs w) :
  Calls prog 76 #[.agg #[int i64 M.fH, int i64 M.fM, int i64 M.mark, ov], int i64 A] w (SLd A (mhas M A) (fun M' => M' = kCh M) w) := by
 have ha' := ha;obtain ⟨p, c, rfl, -⟩ := ha'.at_;refine kQL M.fH M.fM M.mark p la.length c A (mhas M A) _ w (fun M' h => by subst h; exact ⟨rfl, rfl, kGm M A⟩) fun V hV => ?_
 have hT' := hT.keep hV (by simp);refine (pLoad _ la V hi hg (ha.fK hV) hk hT'.t (by have := hT'.s; omega)).mono ?_;rintro e w' ⟨rfl, l, G, h1, h2, h3, h4, h5⟩;exact ⟨_, l, G, _, rfl, h1, h2, rfl, h3, h4, h5⟩
def PD (M : MS) (N : Nat) (V : World) (r : Nat) : Prop := ∃ R, RRep V 0 r R ∧ Doc (kCh M) R ∧ R.fO = 0 ∧ R.fL ≤ 65538 ∧ ∀ g ∈ kBF r R, N ≤ g
theorem kOQ (A : Int) (ov : Value) (la : List OI) (w : World) (hi : Inv H M) (hg : Good M) (ha : SAt w ov la) (hk : la.map kAU = kBO H M) :
  Calls prog 77 #[.agg #[int i64 M.fH, int i64 M.fM, int i64 M.mark, ov], int i64 A] w (DLd A (mhas M A) (PD M w.heap.size) w) := by
 have ha' := ha;obtain ⟨p, c, rfl, -⟩ := ha'.at_;refine kPB M.fH M.fM M.mark p la.length c A (mhas M A) _ w ?_ ?_ fun V hV => ?_
 ·rintro V V' r ⟨R, h1, h2⟩ hf;exact ⟨R, h1.keepF hf (by simp), h2⟩
 ·rintro V r ⟨R, h1, h2, -⟩;refine (kHe A r R (kCh M) V h1 h2 (h2.bd hi.toInvV.slide)).mono ?_;rintro e w' ⟨k1, k2⟩;rw [kGm] at k1;exact ⟨_, k1, k2⟩
 ·refine (rLoadM _ la V hi hg (ha.fK hV) hk).mono ?_;rintro e w' ⟨rfl, R, h1, h2, h3, h4, h5⟩;have hs := hV.size;exact ⟨_, rfl, ⟨R, h1.base0.1, h2, h4, h5, fun g hg => by have := h1.base0.2 g hg; omega⟩, h3⟩
theorem kLd {N : Nat} {e1 e2 : Ending} {w1 w1' w2 w2' wf : World} (hi : Inv H M) (hg : Good M) (h1 : SLd A (mhas M A) (fun M' => M' = kCh M) w1 e1 w1') (h2 : DLd A (mhas M A) (PD M w2.heap.size) w2 e2 w2') (f1 : Fr [] w1' wf) (f2 : Fr [] w2' wf) (hN1 : N ≤ w1.heap.size) (hN2 : N ≤ w2.heap.size) (hN : 2 ≤ N) (hd : w1'.heap.size ≤ w2.heap.size ∨ w2'.heap.size ≤ w1.heap.size) :
  ∃ (p r : Option Addr) (c : Int) (D : Option Sd), (0 ≤ c ∧ c ≤ 1000) ∧ e1 = .returned (.tuple #[.pointer p, int i64 c]) ∧ e2 = .returned (.tuple #[.pointer r, int i64 c]) ∧ vO D = .pointer p ∧ vR D = .pointer r ∧ SpOk wf 0 D ∧ ∀ g ∈ sdF D, N ≤ g := by
 obtain ⟨-, a1⟩ := h1;obtain ⟨-, a2⟩ := h2;rcases a1 with ⟨g1, s, a, l, G, M', rfl, rfl, sp, ag, lo1⟩ | ⟨n1, rfl⟩
 ·rcases a2 with ⟨-, q, r, rfl, -, tq, lq, V, eq, ⟨R, r1, r2, r3, r4, r5⟩, fV⟩ | ⟨n2, -⟩
  ·have rV := r1.keepF fV (by simp);have q0 : q ∉ kBF r R := fun hm => by have := r1.ltF q hm; omega
   have rq : Rqs w2' q r ⟨R, kCh M, A, [], .slice none 0 0, none, .pointer none, int i64 0, int i64 0, int i64 0⟩ := ⟨tq, rV, r2, jAS _ _ _ _, q0, fun g hg => by simp [Value.ownBlock] at hg, fun b hb => by cases hb⟩
   have lo2 : ∀ g ∈ rqF q r ⟨R, kCh M, A, [], .slice none 0 0, none, .pointer none, int i64 0, int i64 0, int i64 0⟩, w2.heap.size ≤ g := fun g hg => by
    rcases kBC.1 hg with e | e | e
    ·omega
    ·simp [Value.ownBlock] at e
    ·exact r5 g e
   refine ⟨some ⟨s, 0, none⟩, some ⟨q, 0, none⟩, 0, some ⟨s, a, l, ⟨G, kCh M, A, [], .slice none 0 0, none⟩, q, r, ⟨R, kCh M, A, [], .slice none 0 0, none, .pointer none, int i64 0, int i64 0, int i64 0⟩⟩, by omega, rfl, rfl, rfl, rfl, ⟨sp.fK f1, rq.fK f2, ⟨rfl, kKY hg, rfl, ?_, rfl, by simp, ?_, ?_, ?_, .inl ⟨rfl, rfl⟩⟩, fun g hg hm => ?_, fun g hg => ?_⟩, fun g hg => ?_⟩
   ·rcases g1 with g1 | g1
    ·exact .inl g1
    ·exact .inr (kKS hi g1)
   ·show G.age ≤ 0; omega
   ·show R.fO ≤ 0; omega
   ·show R.fL ≤ 65538 + 0; omega
   ·have b1 := lo1 g hg;have b2 := sp.lt g hg;have b3 := lo2 g hm;have b4 := rq.lt g hm;omega
   ·rcases jAC.1 hg with hg | hg
    ·have := lo1 g hg; omega
    ·have := lo2 g hg; omega
   ·rcases jAC.1 hg with hg | hg
    ·have := lo1 g hg; omega
    ·have := lo2 g hg; omega
  ·exact absurd g1 n2
 ·rcases a2 with ⟨g2, -⟩ | ⟨-, rfl⟩
  ·exact absurd g2 n1
  ·exact ⟨none, none, 20, none, by omega, rfl, rfl, rfl, rfl, trivial, fun g hg => by cases hg⟩
theorem kOZ {P : MS → Prop} (h : SLd A b P w e w') : ∃ (p : Option Addr) (c : Int), e = .returned (.tuple #[.pointer p, int i64 c]) := by
 obtain ⟨-, ⟨-, s, a, l, G, M', rfl, -⟩ | ⟨-, rfl⟩⟩ := h
 ·exact ⟨_, _, rfl⟩
 ·exact ⟨_, _, rfl⟩
theorem kOP {P : World → Nat → Prop} (h : DLd A b P w e w') : ∃ (p : Option Addr) (c : Int), e = .returned (.tuple #[.pointer p, int i64 c]) := by
 obtain ⟨-, ⟨-, q, r, rfl, -⟩ | ⟨-, rfl⟩⟩ := h
 ·exact ⟨_, _, rfl⟩
 ·exact ⟨_, _, rfl⟩
def five (k : Key) : Key := (k.1, k.2.1, k.2.2.1, List.replicate k.2.2.2.length 5)
theorem kKs (ks : List Key) : endK (ks.map five) = endK ks := by
 induction ks with
 | nil => rfl
 | cons k t ih =>
  show kBd ((List.replicate k.2.2.2.length (5 : Int)).length : Int) k.2.2.1 + endK (t.map five) = kBd (k.2.2.2.length : Int) k.2.2.1 + endK t;rw [ih, jAY]
theorem kNt (f : Int) (h : isF f = true) : mayB 5 f = true := by
 unfold isF at h;have e : f = 0 ∨ f = 1 := by simpa using h
 rcases e with rfl | rfl
 ·decide
 ·decide
theorem kKG (h : allK fH fM ks) : allK fH fM (ks.map five) := by
 intro i o ho;rw [jAQ] at ho
 cases hx : ks[i]? with
 | none => rw [hx] at ho; simp at ho
 | some k =>
  rw [hx] at ho;have ho' : five k = o := by simpa using ho
  subst ho';have h1 := h i k hx;unfold kCB at h1 ⊢;rw [← jBS, kKs, List.any_map];simp only [jBA] at h1 ⊢;obtain ⟨⟨⟨⟨⟨⟨⟨t1, t2⟩, t3⟩, t4⟩, t5⟩, t6⟩, t7⟩, t8⟩ := h1;refine ⟨⟨⟨⟨⟨⟨⟨t1, t2⟩, t3⟩, t4⟩, t5⟩, ?_⟩, ?_⟩, ?_⟩
  ·show decide (((List.replicate k.2.2.2.length (5 : Int)).length : Int) ≤ 8192) = true;rw [jAY];exact t6
  ·refine jBR.2 fun x hx => ?_
   have : x = 5 := (List.mem_replicate.1 hx).2;rw [this];exact kNt _ t5
  ·show decide (endK (List.take i ks) + kBd ((List.replicate k.2.2.2.length (5 : Int)).length : Int) k.2.2.1 ≤ (fH : Int)) = true;rw [jAY];exact t8
theorem KOf.good {mark : Nat} (h : KOf fH fM mark ks H M) (ha : allK fH fM ks) : Good M := by
 intro i hb;obtain ⟨k, hk, e⟩ := h.only i hb;obtain ⟨b0, b1, b2, b3, b4⟩ := h.at_ k hk;have ei : k.1.toNat - 1 = i := by omega
 rw [ei] at b2 b3 b4;obtain ⟨j, hj, he⟩ := jBP hk;obtain ⟨t1, t2, t3, t4, t5, t6, t7, t8⟩ := kDr (ha j k (by rw [jAB hj, he]));refine ⟨by rw [b2]; exact t4, ?_, fun x hx => ?_⟩
 ·unfold isF at t5;have : k.2.2.1 = 0 ∨ k.2.2.1 = 1 := by simpa using t5
  omega
 ·rw [b4] at hx;obtain ⟨j, hj, he⟩ := jBP hx;have := t7 j hj;rw [jAA, jAB hj] at this;rw [← he, b3];exact this
theorem kJg (hi : Inv H M) (hg : Good M) (ov : Value) (la : List OI) (w : World) (ha : SAt w ov la) (hk : la.map kAU = (kBO H M).map five) (hT : Tbs w) : ∃ H5 M5, Inv H5 M5 ∧ Good M5 ∧ la.map kAU = kBO H5 M5 ∧ M5.fH = M.fH ∧ M5.fM = M.fM ∧ M5.mark = M.mark := by
 have hsm := hi.safe.small;have hw := hi.fH;have ho := hi.fM;have hm := hi.mark;have hall := kKG (hi.takesAll hg);rw [← hk, hw, ho] at hall
 have hle : ∀ k ∈ la.map kAU, k.1 ≤ (M.fA.length : Int) := fun k hkk => by
  rw [hk] at hkk;obtain ⟨k', h1, rfl⟩ := jAZ.1 hkk;exact kIV hi k' h1
 obtain ⟨e, w', fr, ⟨-, l, G, Mg, -, -, -, hK, -⟩, -⟩ := kIP M.fH M.fM M.mark ov la w ha hT.t (by have := hT.s; omega) (by have := hi.room; omega) (by have := hsm.fM; omega) (by have := hsm.mark; omega) hall M.fA.length hle [];refine ⟨G, Mg, hK.inv, hK.good hall, ?_, hK.inv.fH.symm.trans hK.fH, hK.inv.fM.symm.trans hK.fM, hK.inv.mark.symm.trans hK.mark⟩;have := hK.st;rw [kBq] at this;exact this.symm
def StB (S : List Nat) (M : MS) (ks : List Key) (V : World) (e : Ending) (w' : World) : Prop := ∃ ov la, e = .returned (.agg #[int i64 M.fH, int i64 M.fM, int i64 M.mark, ov]) ∧ (∀ V', Fr S w' V' → SAt V' ov la) ∧ la.map kAU = ks ∧ Fr [] V w'
theorem kQQ (S : List Nat) (r : Nat) (R : RS) (M : MS) (V : World) (hS : ∀ b ∈ S, b < V.heap.size) (h : RRep V 0 r R) (hi : Inv H M) (hd : Doc M R) : Calls prog 43 #[.pointer (some ⟨r, 0, none⟩)] V (StB S M (kBO H M) V) :=
 (kKB r R M V h hi hd (hd.bd hi)).mono fun e w' ⟨ov, ls, h1, h2, h3, h4⟩ => by
  have h3' : ls.map kDo = kAr H M.fA H.fC.length := by rw [kBq]; exact h3
  obtain ⟨k1, k2, -⟩ := h2.state hi h3';refine ⟨ov, _, h1, fun V' hV' => ?_, k2, h4⟩;have h5 : SRep V' V.heap.size ov ls := ⟨kAE h2.row fun g hg => hV'.block g (h2.row.lt g hg).2 (fun hm => by have := (h2.row.lt g hg).1; have := hS g hm; omega), fun o ho => kAE (h2.fB o ho) fun g hg => hV'.block g ((h2.fB o ho).lt g hg).2 (fun hm => by have := ((h2.fB o ho).lt g hg).1; have := hS g hm; omega)⟩;exact (h5.state hi h3').1
theorem hand75 (x y z : Int) (ov : Value) (la : List OI) (w : World) (ha : SAt w ov la) :
  Calls prog 75 #[.agg #[int i64 x, int i64 y, int i64 z, ov]] w fun e w' => ∃ G C gs, e = .returned (.tuple #[.agg #[int i64 x, int i64 y, int i64 z, .slice (some ⟨G, 0, none⟩) la.length C], .slice (some ⟨G, 0, none⟩) (la.length + 1) C]) ∧ Hid (gs.map kDS = la.map kAU ∧ Lf w' G gs 0 0 ∧ Fr [] w w' ∧ ∀ b ∈ G :: gs.map HG.g, w.heap.size ≤ b ∧ b < w'.heap.size) := by
 have ha' := ha;obtain ⟨p, c, rfl, -⟩ := ha'.at_;obtain ⟨V, hV⟩ := jxe ((w.alloc (.cells #[int i64 x, int i64 y, int i64 z, .slice p la.length c] 82)).alloc (.cells #[int i64 0, int i64 0, int i64 0, .slice none 0 0] 82));have hVs : V.heap.size = w.heap.size + 2 := by rw [← hV]; simp
 have F1 : Fr [] w V := by rw [← hV]; exact (Fr.alloc [] _ _).trans (Fr.alloc [] _ _) (by simp)
 have b1 : V.heap[w.heap.size]? = some (.cells #[int i64 x, int i64 y, int i64 z, .slice p la.length c] 82 (0, 0)) := by
  rw [← hV];exact ((Fr.alloc [] _ _).block w.heap.size (by simp) (by simp)).trans (heap_alloc_new _ _)
 have b2 : V.heap[w.heap.size + 1]? = some (.cells #[int i64 0, int i64 0, int i64 0, .slice none 0 0] 82 (0, 0)) := by
  rw [← hV];have := heap_alloc_new (w.alloc (.cells #[int i64 x, int i64 y, int i64 z, .slice p la.length c] 82)) (.cells #[int i64 0, int i64 0, int i64 0, .slice none 0 0] 82);have e : (w.alloc (.cells #[int i64 x, int i64 y, int i64 z, .slice p la.length c] 82)).heap.size = w.heap.size + 1 := by simp
  rw [e] at this;exact this
 have HH := kAA (kOF x y z _ la V (ha.fK F1));have v0 : V.cell? ⟨w.heap.size, 0, none⟩ = some (int i64 x) := by rw [kAC b1]; rfl
 have v1 : V.cell? ⟨w.heap.size, 1, none⟩ = some (int i64 y) := by rw [kAC b1]; rfl
 have v2 : V.cell? ⟨w.heap.size, 2, none⟩ = some (int i64 z) := by rw [kAC b1]; rfl
 have v3 : V.cell? ⟨w.heap.size, 3, none⟩ = some (.slice p la.length c) := by rw [kAC b1]; rfl
 have HF1 := kAA F1;have HB2 := kAA b2;clear b1 b2 F1 ha;go_enter func75, ntmps75
 go_wp2_with fail
 try rw [hV]
 refine HH.out.mono ?_;rintro e w2 ⟨G, C, gs, rfl, hk, hd⟩;have HD := kAA hd;have HK := kAA hk;have bb := (hd.fr.block _ (kAB HB2.out) (by simp)).trans HB2.out;have hbb := kAB bb;have s0 : ∃ v, w2.cell? ⟨w.heap.size + 1, 0, none⟩ = some v := ⟨_, by rw [kAC bb]; rfl⟩
 have s1 : ∃ v, w2.cell? ⟨w.heap.size + 1, 1, none⟩ = some v := ⟨_, by rw [kAC bb]; rfl⟩
 have s2 : ∃ v, w2.cell? ⟨w.heap.size + 1, 2, none⟩ = some v := ⟨_, by rw [kAC bb]; rfl⟩
 have s3 : ∃ v, w2.cell? ⟨w.heap.size + 1, 3, none⟩ = some v := ⟨_, by rw [kAC bb]; rfl⟩
 obtain ⟨u0, s0⟩ := s0;obtain ⟨u1, s1⟩ := s1;obtain ⟨u2, s2⟩ := s2;obtain ⟨u3, s3⟩ := s3;have fz : ∀ i, w2.frozen? ⟨w.heap.size + 1, i, none⟩ = false := fun i => kAD bb i
 have f0 := fz 0;have f1 := fz 1;have f2 := fz 2;have f3 := fz 3;have HBb := kAA bb;clear hd hk HH hV v0 v1 v2 v3 fz bb
 go_wp2_with fail
 obtain ⟨Vf, hVf⟩ := jex ((((w2.setCell ⟨w.heap.size + 1, 0, none⟩ (int i64 x)).setCell ⟨w.heap.size + 1, 1, none⟩ (int i64 y)).setCell ⟨w.heap.size + 1, 2, none⟩ (int i64 z)).setCell ⟨w.heap.size + 1, 3, none⟩ (.slice (some ⟨G, 0, none⟩) la.length C))
 have hVb : Vf.heap[w.heap.size + 1]? = some (.cells #[int i64 x, int i64 y, int i64 z, .slice (some ⟨G, 0, none⟩) la.length C] 82 (0, 0)) := by
  rw [hVf, kAI (kAI (kAI (kAI HBb.out 0 _) 1 _) 2 _) 3 _];rfl
 have FF : Fr [w.heap.size + 1] w2 Vf := by
  rw [hVf];exact (((Fr.setCell (S := [w.heap.size + 1]) w2 ⟨w.heap.size + 1, 0, none⟩ (int i64 x) (by simp)).trans (Fr.setCell (S := [w.heap.size + 1]) _ ⟨w.heap.size + 1, 1, none⟩ (int i64 y) (by simp)) (fun b hb => .inl hb)).trans (Fr.setCell (S := [w.heap.size + 1]) _ ⟨w.heap.size + 1, 2, none⟩ (int i64 z) (by simp)) (fun b hb => .inl hb)).trans (Fr.setCell (S := [w.heap.size + 1]) _ ⟨w.heap.size + 1, 3, none⟩ (.slice (some ⟨G, 0, none⟩) la.length C) (by simp)) (fun b hb => .inl hb)
 rw [← hVf];clear hVf;have x0 : Vf.cell? ⟨w.heap.size + 1, 0, none⟩ = some (int i64 x) := by rw [kAC hVb]; rfl
 have x1 : Vf.cell? ⟨w.heap.size + 1, 1, none⟩ = some (int i64 y) := by rw [kAC hVb]; rfl
 have x2 : Vf.cell? ⟨w.heap.size + 1, 2, none⟩ = some (int i64 z) := by rw [kAC hVb]; rfl
 have x3 : Vf.cell? ⟨w.heap.size + 1, 3, none⟩ = some (.slice (some ⟨G, 0, none⟩) la.length C) := by rw [kAC hVb]; rfl
 refine bodyPost_ret (v := .tuple #[.agg #[int i64 x, int i64 y, int i64 z, .slice (some ⟨G, 0, none⟩) la.length C], .slice (some ⟨G, 0, none⟩) (la.length + 1) C]) (by simp [results, results75, go_sem, x0, x1, x2, x3]) rfl ?_;have hd := HD.out;have rowlt := hd.row.lt G rfl;have slt : ∀ xx ∈ gs, V.heap.size + 2 ≤ xx.g ∧ xx.g < w2.heap.size := fun xx hx => (hd.fB xx hx).lt xx.g rfl
 have hbk : ∀ b ∈ G :: gs.map HG.g, w.heap.size + 2 ≤ b ∧ b < w2.heap.size := fun b hb => by
  rcases jAF.1 hb with e | e
  ·have := rowlt; subst e; omega
  ·obtain ⟨xx, h1, rfl⟩ := jAZ.1 e;have := slt xx h1;omega
 refine ⟨G, C, gs, rfl, HK.out, ?_, ?_, fun b hb => ?_⟩
 ·have hl := hd.lf;refine ⟨?_, fun i xx hx => ?_, hl.apart⟩
  ·obtain ⟨cur, h1, h2⟩ := hl.row;exact ⟨cur, (FF.block _ (kAB h1) (by have := hbk G (by simp); simp; omega)).trans h1, h2⟩
  ·obtain ⟨h0, cx, h1, h2⟩ := hl.fB i xx hx;exact ⟨h0, cx, (FF.block _ (kAB h1) (by have := hbk xx.g (jAr _ (jAZ.2 ⟨_, jAn hx, rfl⟩)); simp; omega)).trans h1, h2⟩
 ·exact (HF1.out.trans hd.fr (by simp)).trans FF (fun b hb => .inr (by have := jAp.1 hb; omega))
 ·have := hbk b hb;have := FF.size;omega
theorem left78 (x y z : Int) (ov : Value) (la : List OI) (gs : List HG) (G C : Nat) (w : World) (hA : ∀ V, Fr (G :: gs.map HG.g) w V → SAt V ov la) (hk : gs.map kDS = la.map kAU) (hl0 : Lf w G gs 0 0) :
  Calls prog 78 #[.slice (some ⟨G, 0, none⟩) (la.length + 1) C, .agg #[int i64 x, int i64 y, int i64 z, ov]] w fun e w' => e = .returned (.bool true) ∧ Lf w' G gs gs.length 0 ∧ Fr (G :: gs.map HG.g) w w' := by
 have ha' := hA w (Fr.refl _ _);obtain ⟨p, c, rfl, -⟩ := ha'.at_;obtain ⟨V, hV⟩ := jxe (w.alloc (.cells #[int i64 x, int i64 y, int i64 z, .slice p la.length c] 82));have F1 : Fr [] w V := by rw [← hV]; exact Fr.alloc [] _ _
 have b1 : V.heap[w.heap.size]? = some (.cells #[int i64 x, int i64 y, int i64 z, .slice p la.length c] 82 (0, 0)) := by rw [← hV]; exact heap_alloc_new _ _
 have HH := kAA (kOB x y z _ la gs G C V (fun V' hV' => hA V' ((F1.mono (by simp)).trans hV' fun b hb => .inl hb)) hk (hl0.fK F1));have v0 : V.cell? ⟨w.heap.size, 0, none⟩ = some (int i64 x) := by rw [kAC b1]; rfl
 have v1 : V.cell? ⟨w.heap.size, 1, none⟩ = some (int i64 y) := by rw [kAC b1]; rfl
 have v2 : V.cell? ⟨w.heap.size, 2, none⟩ = some (int i64 z) := by rw [kAC b1]; rfl
 have v3 : V.cell? ⟨w.heap.size, 3, none⟩ = some (.slice p la.length c) := by rw [kAC b1]; rfl
 have HF1 := kAA F1;clear b1 F1 ha' hA hl0 hk;go_enter func78, ntmps78
 go_wp2_with fail
 try rw [hV]
 refine HH.out.mono ?_;rintro e w2 ⟨rfl, h2, h3⟩;have HZ : Hid (Lf w2 G gs gs.length 0 ∧ Fr (G :: gs.map HG.g) w w2) := ⟨h2, (HF1.out.mono (by simp)).trans h3 fun b hb => .inl hb⟩;clear h2 h3 HH hV v0 v1 v2 v3
 go_wp2_with fail
 go_ret
 exact ⟨rfl, HZ.out⟩
end Go.Proofs.YtflgicdbbogllaaGreatDoor
