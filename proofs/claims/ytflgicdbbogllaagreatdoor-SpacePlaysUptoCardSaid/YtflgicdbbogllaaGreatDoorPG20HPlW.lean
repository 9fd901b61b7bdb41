import Derived.Test.YtflgicdbbogllaaGreatDoorPG18HPlN
import Derived.Test.YtflgicdbbogllaaGreatDoorPHDcF
set_option maxHeartbeats 2000000
set_option maxRecDepth 20000
set_option linter.unusedSimpArgs false
set_option linter.unusedVariables false
namespace Go.Proofs.YtflgicdbbogllaaGreatDoor
open Go.RowKit Tryz
open Value (int)
open IntKind (i64)
attribute [local go_sem ↓] wp_at_zero wp_at_succ
variable {H : HS} {i : Nat} {listed : Array Bool} {o oi : Oper} {w : World}
theorem kPV (X A B : Int) (r : Nat) (R : RS) (M : MS) (w : World) (h : RRep w 0 r R) (hi : Inv H M) (hd : Doc M R) (hb : RBd M R) (hbn : R.fL ≤ 1000000000000) :
  Calls prog 48 #[.pointer (some ⟨r, 0, none⟩), int i64 X, int i64 A, int i64 B] w fun e w' => e = .returned (.tuple #[int i64 (kAO M X A B).1, int i64 (kAO M X A B).2]) ∧ RN false r R (kAe M X A B) w w' := by
 have h1 := hd.len;have h2 := hd.fin;have h3 := hd.fH;have h4 := hd.fM;have h5 := hd.mark;unfold kAO
 by_cases hbad : isW X = false ∨ A < 0 ∨ B < 0 ∨ 1 < B
 ·rw [jp hbad, kFM hbad];refine Calls.mono (kIq X A B 0 r R w h hbad) ?_;rintro e w' ⟨rfl, rfl⟩;exact ⟨rfl, RN.same h hd (Fr.refl _ _)⟩
 ·rw [jn hbad]
  have hW : isW X = true := by
   cases hx : isW X with
   | true => rfl
   | false => exact absurd (.inl hx) hbad
  obtain ⟨n, rfl⟩ : ∃ n : Nat, A = (n : Int) := ⟨A.toNat, by omega⟩
  obtain ⟨f, rfl⟩ : ∃ f : Nat, B = (f : Int) := ⟨B.toNat, by omega⟩
  by_cases hbig : 8192 < (n : Int)
  ·rw [jp hbig, kFN hbad hbig];refine Calls.mono (kIF X n f 0 r R w h hW (by omega) hbig) ?_;rintro e w' ⟨rfl, rfl⟩;exact ⟨rfl, RN.same h hd (Fr.refl _ _)⟩
  ·rw [jn hbig];have hA : AlR X n f 0 r R w := ⟨h, hb.ok, hW, by omega, by omega, hb.fH, hb.fM, hb.fin⟩;have hfl := hb.full
   by_cases hfull : M.fM = kAG M.fA M.fA.length ∨ M.fH < kAp M.fA M.fA.length + lenN (n : Int).toNat (f : Int).toNat
   ·rw [jp hfull, kEk hbad hbig hfull];rw [jAj, jAj] at hfull
    refine Calls.mono (kIJ X n f 0 r R w hA (by
     rcases hfull with h6 | h6
     ·exact .inl (hfl.2 h6)
     ·exact .inr (by omega))) ?_
    rintro e w' ⟨rfl, hf⟩;exact ⟨rfl, RN.same h hd hf⟩
   ·rw [jn hfull];have hfull2 := hfull;rw [jAj, jAj] at hfull2
    have hr1 : R.fE.length < R.fM := by
     by_cases e : R.fM ≤ R.fE.length
     ·exact absurd (.inl (hfl.1 e)) hfull2
     ·omega
    have hr2 : rEnd R.fE + lenN n f ≤ R.fH := by omega
    by_cases hm : M.mark = 1
    ·rw [jp hm, kEd hbad hbig hfull hm];refine Calls.mono (kFy X n f 0 r R w hA hr1 hr2 (by omega)) ?_;rintro e w' ⟨rfl, hr, hf⟩;exact ⟨rfl, _, hr, hd.setMark 0, fr_r hf, fun g hg => .inl hg, OldR.same rfl rfl rfl⟩
    ·rw [jn hm, kEs hbad hbig hfull hm];refine Calls.mono (kIB X n f 0 r R w hA hr1 hr2 (by omega) M hd hb.fA hb.mark hbn) ?_;rintro e w' ⟨rfl, v, ov, hr, hf, hv, hov⟩
     have hdm := hd.made X n f (M.mark - 1) none 0 ⟨kAf M.fA, f, rEnd R.fE, R.fL, X, List.replicate n (newX f), v⟩ ov (by unfold rv; rw [h2]) rfl (fun x hx g hg hx2 => by
      have := hv g hg;have := ((h.fB x hx).lt g hx2).2;omega)
     rw [h5] at hr;refine ⟨rfl, _, hr, hdm, hf.mono (fun b hb2 => .inl ?_), fun g hg => ?_, ⟨.inl ⟨rfl, rfl, [R.fL], by rw [jAP]; rfl, by simp⟩, Nat.le_succ _, jAD _⟩⟩
     ·rcases jAF.1 hb2 with h6 | h6
      ·rw [h6]; simp [kBF]
      ·exact kCV (by simpa using h6)
     ·unfold kBF at hg;rcases jAF.1 hg with h6 | h6
      ·left; rw [h6]; simp [kBF]
      ·rcases jAC.1 h6 with h7 | h7
       ·rcases hov g (by simpa using h7) with h8 | h8
        ·exact .inl (kCV h8)
        ·exact .inr h8
       ·obtain ⟨o, o1, o2⟩ := jAd.1 h7;have o2' : o.v.ownBlock = some g := by simpa using o2
        rcases jAC.1 (show o ∈ R.fE ++ [_] from o1) with h8 | h8
        ·exact .inl (kDE h8 o2')
        ·have e := jAp.1 h8;rw [e] at o2';exact .inr (hv g o2')
theorem kGO {tp te : TypeId} {j : TypeInfo} (V : World) (a : Addr) (hp : prog.underlying tp = some (.pointer te)) (hte : prog.info? te = some j) :
  (binOp .eql tp (.pointer none) (.pointer (some a))).run prog V = .ok (.bool false) V := by
 have h : ∀ d : Nat, (Op.equalIn (d + 1) tp (.pointer none) (.pointer (some a))).run prog V = .ok false V := fun d => by
  simp [Op.equalIn, run_underlying hp, sizeOf, typeInfo, hte]
 simp only [binOp]
 simp [Op.equal, Op.maxDepth, h 9999]
section
variable {P : Program} {ops : Array Oper} {Q : Exit → Act → World → Prop} {md : Region.Mode} {S : World → Prop} {L : Nat}
def kDM (P : Program) (md : Region.Mode) (ops : Array Oper) (Q : Exit → Act → World → Prop) (S : World → Prop) (L : Nat) : Nat → Array Bool → Act → World → Prop
 | 0, listed, a, w => Region.ready md ops listed = [] ∧ Q .normal a w
 | fuel + 1, listed, a, w =>
  (Region.ready md ops listed = [] → Q .normal a w) ∧
  ∀ i ∈ Region.ready md ops listed, wpOp P ops Q i (fun a' w' => (i ≠ L → S w') ∧ kDM P md ops Q S L fuel (listed.setIfInBounds i true) a' w') a w
theorem kDn : ∀ (fuel : Nat) (listed : Array Bool) (a : Act) (w : World), kDM P md ops Q S L fuel listed a w → wpAny P md ops Q fuel listed a w
 | 0, _, _, _, h => h
 | fuel + 1, _, _, _, h => ⟨h.1, fun i hi => wpOp_mono (fun a' w' h' => kDn fuel _ a' w' h'.2) (h.2 i hi)⟩
def kKp (md : Region.Mode) (ops : Array Oper) (L i : Nat) : Bool := match ops[L]? with | some o => o.after.any (fun e => Region.binds md e && e.on == i) | none => false
theorem kGb {v : Value} (hi : ops[i]? = some oi) (hsel : ∀ (j : Nat) (o : Oper) cs b, ops[j]? = some o → o.op ≠ .select cs b) 
  (hQ : ∀ c a w, Q (.panic c) (a.put oi.dst v) w → Q (.panic c) a w) (hiL : i ≠ L) (hwt : kKp md ops L i = true) :
  ∀ (fuel : Nat) (listed : Array Bool) (a : Act) (w : World),
   (∀ j oj, ops[j]? = some oj → j ≠ i → listed.getD j true = false → (∀ e ∈ oj.after, Region.binds md e = true → e.on ≠ i) → oi.apart ops oj = true) →
   i ∈ Region.ready md ops listed → YieldsIf P ops S oi v a → S w →
   kDM P md ops Q S L fuel (listed.setIfInBounds i true) (a.put oi.dst v) w → kDM P md ops Q S L (fuel + 1) listed a w := by
 intro fuel
 induction fuel with
 | zero =>
  intro listed a w _ hr hy hS H;refine ⟨fun h => (by rw [h] at hr; cases hr), fun j hj => ?_⟩
  by_cases hji : j = i
  ·subst hji; exact hy.wpOp hi hS ⟨fun _ => hS, H⟩
  ·have := ready_mono hj hji;rw [H.1] at this
   cases this
 | succ fuel ih =>
  intro listed a w hfree hr hy hS H;refine ⟨fun h => (by rw [h] at hr; cases hr), fun j hj => ?_⟩
  by_cases hji : j = i
  ·subst hji; exact hy.wpOp hi hS ⟨fun _ => hS, H⟩
  ·have h1 := H.2 j (ready_mono hj hji);obtain ⟨hjun, oj, hoj, hall⟩ := mem_ready.1 hj
   have hnot : ∀ e ∈ oj.after, Region.binds md e = true → e.on ≠ i := fun e he hb heq => by
    have h1 := hall e he hb;have h0 := (mem_ready.1 hr).1;rw [heq] at h1;rcases Nat.lt_or_ge i listed.size with h' | h'
    ·simp [h'] at h0 h1; rw [h0] at h1; cases h1
    ·simp [Array.getElem?_eq_none h'] at h1
   have hjL : j ≠ L := fun e => by
    subst e;unfold kKp at hwt;rw [hoj] at hwt;simp only [Array.any_eq_true, jBA, beq_iff_eq] at hwt;obtain ⟨n, hn, hb, ho⟩ := hwt;exact hnot _ (Array.getElem_mem hn) hb ho
   have h2 := wpOp_putIf hoj (hfree j oj hoj hji hjun hnot) (fun cs b => hsel i oi cs b hi) (fun cs b => hsel j oj cs b hoj) hQ hy h1
   have hfree' : ∀ k ok, ops[k]? = some ok → k ≠ i → (listed.setIfInBounds j true).getD k true = false →
     (∀ e ∈ ok.after, Region.binds md e = true → e.on ≠ i) → oi.apart ops ok = true := fun k ok hk hki hun hno => by
    refine hfree k ok hk hki ?_ hno
    by_cases hjk : j = k
    ·subst hjk; exact hjun
    ·rw [getD_set_ne true hjk] at hun; exact hun
   refine wpOp_mono (fun a' w' h3 => ⟨h3.2.1, ih (listed.setIfInBounds j true) a' w' hfree' (ready_mono hr (Ne.symm hji)) h3.1 (h3.2.1 hjL) ?_⟩) h2;rw [Array.setIfInBounds_comm _ _ hji];exact h3.2.2
theorem kAL {v : Value} {fuel : Nat} {listed : Array Bool} {a : Act} {w : World} (hi : ops[i]? = some oi) 
  (hs : Region.noSelect ops = true) (hf : Region.free md ops listed i = true) (hr : (Region.ready md ops listed).contains i = true) (hiL : i ≠ L) (hwt : kKp md ops L i = true)
  (hQ : ∀ c a w, Q (.panic c) (a.put oi.dst v) w → Q (.panic c) a w) (hy : YieldsIf P ops S oi v a) (hS : S w)
  (h : kDM P md ops Q S L fuel (listed.setIfInBounds i true) (a.put oi.dst v) w) : kDM P md ops Q S L (fuel + 1) listed a w :=
 kGb hi (Region.noSelect_spec hs) hQ hiL hwt fuel listed a w (Region.free_spec hi hf) (by simpa using hr) hy hS h
theorem kBH {fuel : Nat} {a : Act} {w : World} (hr : Region.ready md ops listed = [i]) (ho : ops[i]? = some o) (hiL : i ≠ L) 
  (h : ∀ K' : Act → World → Prop, Shut (∀ a w, S w → (S w → kDM P md ops Q S L fuel (listed.setIfInBounds i true) a w) → K' a w) → if Region.wanted o (yielded ops a.tmps) = true then Oper.wp P o a w K' Q else K' (a.put o.dst undef) w) : kDM P md ops Q S L (fuel + 1) listed a w := by
 refine ⟨fun h0 => (by rw [hr] at h0; cases h0), fun j hj => ?_⟩;rw [hr] at hj;have e : j = i := by simpa using hj
 subst e;exact wpOp_step ho (fun K' hK => h K' (fun a w hS hW => hK a w ⟨fun _ => hS, hW hS⟩))
theorem kFS {fuel : Nat} {a : Act} {w : World} (hr : Region.ready md ops listed = [L]) (ho : ops[L]? = some o) 
  (hr2 : Region.ready md ops (listed.setIfInBounds L true) = [])
  (h : ∀ K' : Act → World → Prop, Shut (∀ a w, Q .normal a w → K' a w) → if Region.wanted o (yielded ops a.tmps) = true then Oper.wp P o a w K' Q else K' (a.put o.dst undef) w) : kDM P md ops Q S L (fuel + 1) listed a w := by
 refine ⟨fun h0 => (by rw [hr] at h0; cases h0), fun j hj => ?_⟩;rw [hr] at hj;have e : j = L := by simpa using hj
 subst e;refine wpOp_step ho (fun K' hK => h K' (fun a w hQ => hK a w ⟨fun h => absurd rfl h, ?_⟩))
 cases fuel with
 | zero => exact ⟨hr2, hQ⟩
 | succ n => exact ⟨fun _ => hQ, by rw [hr2]; simp⟩
theorem kDN {id : Nat} {a : Act} (hm : P.follows .mixedOrders = true) (hS : S w.drew) 
  (h : S w.drew → kDM P .any ops Q S L ops.size (Array.replicate ops.size false) a w.drew) : (Code.region id ops true).wp P Q a w :=
 wp_region_any hm (kDn _ _ _ _ (h hS))
end
def kFC (o : RO) : Nat × Int × Nat × List Int := (o.oop, o.cls, o.fmt, o.fB)
theorem kKI (B r : Nat) (R : RS) (w : World) (h : RRep w B r R) (ho : ROk R) :
  Calls prog 43 #[.pointer (some ⟨r, 0, none⟩)] w fun e w' => ∃ ov ls, e = .returned (.agg #[int i64 R.fH, int i64 R.fM, int i64 R.mark, ov]) ∧ SRep w' w.heap.size ov ls ∧ ls.map kDo = R.fE.map kFC ∧ Fr [] w w' := by
 have hrl := kAB h.top;obtain ⟨p, c, hov⟩ := h.ovIs;have hl := ho.len;have c0 : w.cell? ⟨r, 0, none⟩ = some (int i64 R.fH) := by rw [h.c]; rfl
 have c1 : w.cell? ⟨r, 1, none⟩ = some (int i64 R.fM) := by rw [h.c]; rfl
 have c2 : w.cell? ⟨r, 2, none⟩ = some (int i64 R.mark) := by rw [h.c]; rfl
 have HR := kAA h;have HO := kAA ho;clear h ho;go_enter func43, ntmps43
 go_wp2_with fail
 obtain ⟨W0, hW0⟩ := jex (w.alloc (.cells #[int i64 0, int i64 0, int i64 0, .slice none 0 0] 82));rw [← hW0];have F0 : Fr [] w W0 := by rw [hW0]; exact Fr.alloc [] _ _
 have hB0 : W0.heap[w.heap.size]? = some (.cells #[int i64 0, int i64 0, int i64 0, .slice none 0 0] 82 (0, 0)) := by rw [hW0]; exact heap_alloc_new _ _
 have hz0 : W0.heap.size = w.heap.size + 1 := by rw [hW0]; simp
 have d0 := (F0.cell (p := ⟨r, 0, none⟩) hrl (by simp)).trans c0;have d1 := (F0.cell (p := ⟨r, 1, none⟩) hrl (by simp)).trans c1;have d2 := (F0.cell (p := ⟨r, 2, none⟩) hrl (by simp)).trans c2;have hr0 : r < W0.heap.size := by omega
 clear hW0 c0 c1 c2;have HF0 := kAA F0;have HB0 := kAA hB0
 have HS1 : Hid (∀ V, Eqw (W0.alloc (.cells #[int i64 R.fH, int i64 R.fM, int i64 R.mark, .slice none 0 0] 82)) V → St1 w V (w.heap.size + 1) R.fH R.fM R.mark []) := by
  intro V hV;refine ⟨(HF0.out.trans (Fr.alloc [] _ _) (by simp)).trans (hV.fr []) (by simp), by omega, ?_, .slice none 0 0, [], ?_, ⟨jAS _ _ _ _, fun o ho => by simp at ho⟩, rfl⟩
  ·rw [hV.2.2.2, jAN _ _ _ (by omega)]; exact HB0.out
  ·have := heap_alloc_new W0 (.cells #[int i64 R.fH, int i64 R.fM, int i64 R.mark, .slice none 0 0] 82); rw [hz0] at this; rw [hV.2.2.2]; exact this
 clear F0 hB0
 go_region
 all_goals go_wp2_with fail
 have HS2 := kAA (HS1.out _ (kAS _));generalize (W0.alloc (.cells #[int i64 R.fH, int i64 R.fM, int i64 R.mark, .slice none 0 0] 82)).drew = V0 at *;clear HS1 d0 d1 d2;obtain ⟨k0, ki, kz0, kz1, kz2⟩ := info_parts kFT
 go_loopw [4] (fun q wr => ∃ j : Nat, j ≤ R.fE.length ∧ q = int i64 j ∧ Hid (St1 w wr (w.heap.size + 1) R.fH R.fM R.mark ((R.fE.take j).map kFC))) (fun q _ => R.fE.length - (intOf q).toNat)
 case atStart => exact ⟨0, jAH _, rfl, by simpa using HS2⟩
 case round =>
  obtain ⟨j, hjn, rfl, hq⟩ := hrel;have hRr := HR.out.fK hq.out.fr;obtain ⟨ov, ls, hv, hsr, hkk⟩ := hq.out.at_;have c5 : wr.cell? ⟨r, 5, none⟩ = some (.slice p R.fE.length c) := by rw [hRr.c, ← hov]; rfl
  have k1 := ng j
  by_cases hlt : j < R.fE.length
  ·have k2 : (j : Int) < R.fE.length := by omega
   obtain ⟨g, c', hv1, hc⟩ := hRr.at_ (by omega);rw [hov] at hv1
   injection hv1 with e1 e2 e3
   subst e1;obtain ⟨q0, q1, q2, q3, q4, q5⟩ := hc j hlt;obtain ⟨p5, c5', hv5⟩ := hRr.vIs j hlt;rw [hv5] at q5;have hgl : g < wr.heap.size := jAf wr _ q0;have hrl2 : r < wr.heap.size := kAB hRr.top;have hom : R.fE.getD j noRO ∈ R.fE := by rw [jAA, jAB hlt]; exact jAT hlt
   have hsl := hRr.fB _ hom;have hslen := (HO.out.fJ _ hom).2
   have hkey : Hid ((R.fE.take (j + 1)).map kFC = (R.fE.take j).map kFC ++ [kFC (R.fE.getD j noRO)]) := by
    rw [Hid, jAO hlt, jAP, jAA, jAB hlt];rfl
   simp only [I] at q0 q1 q2 q3;rw [hv5] at hsl;generalize R.fE.getD j noRO = o at *;obtain ⟨oo, of_, opl, obn, oc, os, oov⟩ := o;dsimp only at *;subst hv5;have hrd := kCC hsl (by omega);have HRd := kAA hrd;have HQ := kAA (And.intro hv (And.intro hsr hkk));have hlB := kAB hv;clear hc hsl hRr hv hsr hkk hrd;have hV5s : Hid (Fr [] wr (wr.alloc (.cells #[int i64 oo, int i64 of_, int i64 opl, int i64 obn, int i64 oc, .slice p5 os.length c5'] 143))) := Fr.alloc [] _ _;have hbX5 : (wr.alloc (.cells #[int i64 oo, int i64 of_, int i64 opl, int i64 obn, int i64 oc, .slice p5 os.length c5'] 143)).heap[wr.heap.size]? = some (.cells #[int i64 oo, int i64 of_, int i64 opl, int i64 obn, int i64 oc, .slice p5 os.length c5'] 143 (0, 0)) := heap_alloc_new _ _
   go_wp2_with fail
   generalize wr.alloc (.cells #[int i64 oo, int i64 of_, int i64 opl, int i64 obn, int i64 oc, .slice p5 os.length c5'] 143) = V5 at *;generalize hX : wr.heap.size = X at *;obtain ⟨pv, cv, hovv, -⟩ := HQ.out.2.1.at;subst hovv;have hbB5 := (hV5s.out.block _ (kAB HQ.out.1) (by simp)).trans HQ.out.1;have hsr5 := HQ.out.2.1.fK hV5s.out;have hll : ls.length ≤ 1048576 := by have := congrArg List.length HQ.out.2.2; simp at this; omega
   have hlX := kAB hbX5;have hlr := kAB hbB5
   have HKS : Hid (∀ W : World, Hid (∀ b, b = X ∨ b = w.heap.size + 1 → W.heap[b]? = V5.heap[b]?) → W.cell? ⟨X, 0, none⟩ = some (int i64 oo) ∧ W.cell? ⟨X, 1, none⟩ = some (int i64 of_) ∧ W.cell? ⟨X, 4, none⟩ = some (int i64 oc) ∧ W.cell? ⟨X, 5, none⟩ = some (.slice p5 os.length c5') ∧ W.cell? ⟨w.heap.size + 1, 3, none⟩ = some (.slice pv ls.length cv) ∧ W.frozen? ⟨w.heap.size + 1, 3, none⟩ = false) := by
    intro W hW;have x1 := (hW.out X (.inl rfl)).trans hbX5;have x2 := (hW.out (w.heap.size + 1) (.inr rfl)).trans hbB5;exact ⟨by rw [kAC x1]; rfl, by rw [kAC x1]; rfl, by rw [kAC x1]; rfl, by rw [kAC x1]; rfl, by rw [kAC x2]; rfl, kAD x2 3⟩
   have HCp : Hid (∃ p6 c6 w6, (Builtin.append_ #[35, 35] 35 #[.slice none 0 0, .slice p5 os.length c5']).run prog V5.drew = .ok (.slice p6 os.length c6) w6 ∧ Hid (w6.ownsRow V5.heap.size 41 1 (.slice p6 os.length c6) os.length (os.map (int i64)) ∧ Fr [] V5 w6)) := by
    obtain ⟨v6, w6, r1, r2, r3⟩ := kCi os (.slice p5 os.length c5') V5.drew (HRd.out.fK (hV5s.out.trans (Fr.drew [] _) (by simp)));obtain ⟨p6, c6, e6, _⟩ := kCZ r2;subst e6;exact ⟨p6, c6, w6, r1, r2, (Fr.drew [] _).trans r3 (by simp)⟩
   have HRow : Hid (∀ (w6 : World) (ob : Obj), Fr [] V5 w6 → (w6.alloc ob).ownsRow (w.heap.size + 1 + 1) 139 4 (.slice pv ls.length cv) ls.length (kBI ls)) := fun w6 ob h6 => (kAE hsr5.row fun g hg => h6.block g (hsr5.row.lt g hg).2 (by simp)).alloc _
   have HK0 : Hid (∀ b, b = X ∨ b = w.heap.size + 1 → V5.drew.heap[b]? = V5.heap[b]?) := fun b _ => rfl
   have HK6 : Hid (∀ (w6 : World), Fr [] V5 w6 → Hid (∀ b, b = X ∨ b = w.heap.size + 1 → w6.heap[b]? = V5.heap[b]?)) := fun w6 h6 b hb => h6.block b (by rcases hb with e | e <;> rw [e] <;> assumption) (by simp)
   have HKa : Hid (∀ (w6 : World) (ob : Obj), Fr [] V5 w6 → Hid (∀ b, b = X ∨ b = w.heap.size + 1 → (w6.alloc ob).heap[b]? = V5.heap[b]?)) := fun w6 ob h6 b hb => (h6.trans (Fr.alloc [] _ _) (by simp)).block b (by rcases hb with e | e <;> rw [e] <;> assumption) (by simp)
   have HK7 : Hid (∀ (w6 : World) (ob : Obj) (w7 : World), Fr [] V5 w6 → (w6.alloc ob).grownBy w7 (Value.slice pv ls.length cv).ownBlock → Hid (∀ b, b = X ∨ b = w.heap.size + 1 → w7.heap[b]? = V5.heap[b]?)) := by
    intro w6 ob w7 h6 hg b hb;have h56 := h6.trans (Fr.alloc [] w6 ob) (by simp);have hbl : b < V5.heap.size := by rcases hb with e | e <;> rw [e] <;> assumption
    have := h56.size
    rw [hg.block b (by omega) (fun e => by
     rcases hb with e2 | e2
     ·rcases hsr5.row.2 with ⟨q1, _⟩ | ⟨g1, cap1, cur1, q1, q2, q3, _⟩
      ·rw [q1] at e; simp [Value.ownBlock] at e
      ·rw [q1] at e;have a1 : g1 = b := by simpa [Value.ownBlock] using e.symm
       rw [a1, e2, hbX5] at q3
       simp at q3
     ·have := (hsr5.row.lt b e.symm).1;omega)]
    exact h56.block b hbl (by simp)
   have HNx : Hid (∀ (w6 : World) (p6 : Option Addr) (c6 g7 c7 : Nat) (w7 : World), (w6.ownsRow V5.heap.size 41 1 (.slice p6 os.length c6) os.length (os.map (int i64)) ∧ Fr [] V5 w6) → (w6.alloc (.cells #[int i64 oo, int i64 oc, int i64 of_, .slice p6 os.length c6] 139)).grownBy w7 (Value.slice pv ls.length cv).ownBlock → w7.ownsRow (w.heap.size + 1 + 1) 139 4 (.slice (some ⟨g7, 0, none⟩) (ls.length + 1) c7) (ls.length + 1) (kBI ls ++ [int i64 oo, int i64 oc, int i64 of_, .slice p6 os.length c6]) → St1 w (w7.setCell ⟨w.heap.size + 1, 3, none⟩ (.slice (some ⟨g7, 0, none⟩) (ls.length + 1) c7)) (w.heap.size + 1) R.fH R.fM R.mark ((R.fE.take (j + 1)).map kFC)) := by
    intro w6 p6 c6 g7 c7 w7 h6 hg hown;have h56 := hV5s.out.trans h6.2 (by simp);rw [hkey.out];exact (hq.out.fK h56).next (o := ⟨oo, oc, of_, os, .slice p6 os.length c6⟩) ((h56.block _ (kAB HQ.out.1) (by simp)).trans HQ.out.1) (HQ.out.2.1.fK h56) HQ.out.2.2 (kAV h6.1 (by omega)) hg hown ⟨rfl, rfl, rfl, rfl⟩
   clear q0 q1 q2 q3 q4 q5;refine kDN (L := 15) (S := fun w' => w'.cell? ⟨X, 0, none⟩ = some (int i64 oo) ∧ w'.cell? ⟨X, 1, none⟩ = some (int i64 of_) ∧ w'.cell? ⟨X, 4, none⟩ = some (int i64 oc) ∧ w'.cell? ⟨X, 5, none⟩ = some (.slice p5 os.length c5') ∧ w'.cell? ⟨w.heap.size + 1, 3, none⟩ = some (.slice pv ls.length cv) ∧ w'.frozen? ⟨w.heap.size + 1, 3, none⟩ = false) (by kernel_rfl) (HKS.out _ HK0.out) (fun hHeld => ?_);refine kAL (i := 0) (v := ?_) rfl (by kernel_rfl) (by kernel_rfl) (by kernel_rfl) (by decide) (by kernel_rfl) (fun _ _ _ h => h) (Or.inl ⟨by rfl, ?_⟩) (by assumption) ?_
   rotate_left
   ·(intro w hSw; (try dsimp only at hSw); first | (go_simp; done) | (go_simp; with_reducible rfl))
   try simp only [Act.put, qT, qZ, qS, qB, qY, qX]
   refine kAL (i := 1) (v := ?_) rfl (by kernel_rfl) (by kernel_rfl) (by kernel_rfl) (by decide) (by kernel_rfl) (fun _ _ _ h => h) (Or.inl ⟨by rfl, ?_⟩) (by assumption) ?_
   rotate_left
   ·(intro w hSw; (try dsimp only at hSw); first | (go_simp; done) | (go_simp; with_reducible rfl))
   try simp only [Act.put, qT, qZ, qS, qB, qY, qX]
   refine kAL (i := 2) (v := ?_) rfl (by kernel_rfl) (by kernel_rfl) (by kernel_rfl) (by decide) (by kernel_rfl) (fun _ _ _ h => h) (Or.inl ⟨by rfl, ?_⟩) (by assumption) ?_
   rotate_left
   ·(intro w hSw; (try dsimp only at hSw); first | (go_simp; done) | (go_simp; with_reducible rfl))
   try simp only [Act.put, qT, qZ, qS, qB, qY, qX]
   refine kAL (i := 3) (v := ?_) rfl (by kernel_rfl) (by kernel_rfl) (by kernel_rfl) (by decide) (by kernel_rfl) (fun _ _ _ h => h) (Or.inl ⟨by rfl, ?_⟩) (by assumption) ?_
   rotate_left
   ·(intro w hSw; (try dsimp only at hSw); first | (go_simp; done) | (go_simp; with_reducible rfl))
   try simp only [Act.put, qT, qZ, qS, qB, qY, qX]
   refine kAL (i := 4) (v := ?_) rfl (by kernel_rfl) (by kernel_rfl) (by kernel_rfl) (by decide) (by kernel_rfl) (fun _ _ _ h => h) (Or.inl ⟨by rfl, ?_⟩) (by assumption) ?_
   rotate_left
   ·(intro w hSw; (try dsimp only at hSw); first | (go_simp; done) | (go_simp; with_reducible rfl))
   try simp only [Act.put, qT, qZ, qS, qB, qY, qX]
   refine kAL (i := 5) (v := ?_) rfl (by kernel_rfl) (by kernel_rfl) (by kernel_rfl) (by decide) (by kernel_rfl) (fun _ _ _ h => h) (Or.inl ⟨by rfl, ?_⟩) (by assumption) ?_
   rotate_left
   ·(intro w hSw; (try dsimp only at hSw); first | (go_simp; done) | (go_simp; with_reducible rfl))
   try simp only [Act.put, qT, qZ, qS, qB, qY, qX]
   refine kAL (i := 6) (v := ?_) rfl (by kernel_rfl) (by kernel_rfl) (by kernel_rfl) (by decide) (by kernel_rfl) (fun _ _ _ h => h) (Or.inl ⟨by rfl, ?_⟩) (by assumption) ?_
   rotate_left
   ·(intro w hSw; (try dsimp only at hSw); first | (go_simp; done) | (go_simp; with_reducible rfl))
   try simp only [Act.put, qT, qZ, qS, qB, qY, qX]
   refine kAL (i := 7) (v := ?_) rfl (by kernel_rfl) (by kernel_rfl) (by kernel_rfl) (by decide) (by kernel_rfl) (fun _ _ _ h => h) (Or.inl ⟨by rfl, ?_⟩) (by assumption) ?_
   rotate_left
   ·(intro w hSw; (try dsimp only at hSw); first | (go_simp; done) | (go_simp; with_reducible rfl))
   try simp only [Act.put, qT, qZ, qS, qB, qY, qX]
   refine kAL (i := 8) (v := ?_) rfl (by kernel_rfl) (by kernel_rfl) (by kernel_rfl) (by decide) (by kernel_rfl) (fun _ _ _ h => h) (Or.inl ⟨by rfl, ?_⟩) (by assumption) ?_
   rotate_left
   ·(intro w hSw; (try dsimp only at hSw); first | (go_simp; done) | (go_simp; with_reducible rfl))
   try simp only [Act.put, qT, qZ, qS, qB, qY, qX]
   refine kAL (i := 9) (v := ?_) rfl (by kernel_rfl) (by kernel_rfl) (by kernel_rfl) (by decide) (by kernel_rfl) (fun _ _ _ h => h) (Or.inl ⟨by rfl, ?_⟩) (by assumption) ?_
   rotate_left
   ·(intro w hSw; (try dsimp only at hSw); first | (go_simp; done) | (go_simp; with_reducible rfl))
   try simp only [Act.put, qT, qZ, qS, qB, qY, qX]
   refine kBH (i := 10) (by kernel_rfl) rfl (by decide) (fun K hK => ?_);obtain ⟨p6, c6, w6, hr6, hf6⟩ := HCp.out;refine kBj rfl (.const (.slice none 0 0)) (.tmp 47) 35 35 rfl (.slice none 0 0) (.slice p5 os.length c5') rfl (by simp [Act.eval, Act.put]) _ _ hr6 ?_;refine hK.out _ _ (HKS.out _ (HK6.out w6 hf6.out.2)) (fun hHeld => ?_);clear hK K
   try simp only [Act.put, qT, qZ, qS, qB, qY, qX]
   refine kAL (i := 11) (v := ?_) rfl (by kernel_rfl) (by kernel_rfl) (by kernel_rfl) (by decide) (by kernel_rfl) (fun _ _ _ h => h) (Or.inl ⟨by rfl, ?_⟩) (by assumption) ?_
   rotate_left
   ·(intro w hSw; (try dsimp only at hSw); first | (go_simp; done) | (go_simp; with_reducible rfl))
   try simp only [Act.put, qT, qZ, qS, qB, qY, qX]
   refine kBH (i := 12) (by kernel_rfl) rfl (by decide) (fun K hK => ?_)
   go_simp
   refine hK.out _ _ (HKS.out _ (HKa.out w6 _ hf6.out.2)) (fun hHeld => ?_);clear hK K
   try simp only [Act.put, qT, qZ, qS, qB, qY, qX]
   refine kBH (i := 13) (by kernel_rfl) rfl (by decide) (fun K hK => ?_);refine step_append_lies _ rfl (.tmp 39) (.tmp 50) 80 rfl (w.heap.size + 1 + 1) 139 k0 (.agg #[int i64 0, int i64 0, int i64 0, .slice none 0 0]) 4 48 underlying80 ki kz0 kz1 kz2 rfl (by decide) (.slice pv ls.length cv) ls.length (kBI ls) (by simp [Act.eval]) (HRow.out w6 _ hf6.out.2) ⟨w6.heap.size, 0, none⟩ 1 1 [int i64 oo, int i64 oc, int i64 of_, .slice p6 os.length c6] (by simp [Act.eval]) rfl (World.news_of_block (heap_alloc_new w6 _)) (by simp [Value.oneCell']) (by decide) (by unfold maxLen; omega) (by omega) (by have := hf6.out.2.size; simp; omega) (w6.heap.size + 1) (by simp) ?_
   intro g7 c7 w7 hown7 hgrow7 hat7 hlt7;refine hK.out _ _ (HKS.out _ (HK7.out w6 _ w7 hf6.out.2 hgrow7)) (fun hHeld => ?_);clear hK K
   try simp only [Act.put, qT, qZ, qS, qB, qY, qX]
   refine kBH (i := 14) (by kernel_rfl) rfl (by decide) (fun K hK => ?_)
   go_simp
   refine hK.out _ _ (HKS.out _ (HK7.out w6 _ w7 hf6.out.2 hgrow7)) (fun hHeld => ?_);clear hK K
   try simp only [Act.put, qT, qZ, qS, qB, qY, qX]
   refine kFS (by kernel_rfl) rfl (by kernel_rfl) (fun K hK => ?_)
   go_simp
   refine hK.out _ _ ?_;clear hK K
   try simp only [Act.put, qT, qZ, qS, qB, qY, qX]
   have hS7 := HKS.out w7 (HK7.out w6 _ w7 hf6.out.2 hgrow7);obtain ⟨-, -, -, -, d3, f3⟩ := hS7;have HNx2 := kAA (HNx.out w6 p6 c6 g7 c7 w7 hf6.out hgrow7 hown7)
   go_wp2_with fail
   go_roundw
   case rel => exact ⟨j + 1, by omega, by go_num, HNx2⟩
   case measure => simp [intOf]; omega
  ·have hje : j = R.fE.length := by omega
   subst hje;have hB := kAB hv;have d0 : wr.cell? ⟨w.heap.size + 1, 0, none⟩ = some (int i64 R.fH) := by rw [kAC hv]; rfl
   have d1 : wr.cell? ⟨w.heap.size + 1, 1, none⟩ = some (int i64 R.fM) := by rw [kAC hv]; rfl
   have d2 : wr.cell? ⟨w.heap.size + 1, 2, none⟩ = some (int i64 R.mark) := by rw [kAC hv]; rfl
   have d3 : wr.cell? ⟨w.heap.size + 1, 3, none⟩ = some ov := by rw [kAC hv]; rfl
   have hr := hq.out.res;have r0 : wr.cell? ⟨w.heap.size, 0, none⟩ = some (int i64 0) := by rw [kAC hr]; rfl
   have r1 : wr.cell? ⟨w.heap.size, 1, none⟩ = some (int i64 0) := by rw [kAC hr]; rfl
   have r2 : wr.cell? ⟨w.heap.size, 2, none⟩ = some (int i64 0) := by rw [kAC hr]; rfl
   have r3 : wr.cell? ⟨w.heap.size, 3, none⟩ = some (.slice none 0 0) := by rw [kAC hr]; rfl
   have y0 := kAD hr 0;have y1 := kAD hr 1;have y2 := kAD hr 2;have y3 := kAD hr 3;obtain ⟨pv, cv, rfl, -⟩ := hsr.at;have HRes := kAA hr
   have HE : Hid (∀ V, Fr [w.heap.size] wr V → SRep V w.heap.size (.slice pv ls.length cv) ls ∧ ls.map kDo = R.fE.map kFC ∧ Fr [] w V) := by
    intro V hV;refine ⟨⟨kAV (kAE hsr.row fun g hg => hV.block g (hsr.row.lt g hg).2 (by have := (hsr.row.lt g hg).1; simp; omega)) (by omega), fun o ho => kAV (kAE (hsr.fB o ho) fun g hg => hV.block g ((hsr.fB o ho).lt g hg).2 (by have := ((hsr.fB o ho).lt g hg).1; simp; omega)) (by omega)⟩, by rw [hkk, jAV], hq.out.fr.trans hV (fun b hb => by simp at hb; subst hb; right; exact jAD _)⟩
   generalize hln : ls.length = ln at *;clear hq hv hsr hkk hr hRr
   go_wp2_with fail
   obtain ⟨V, hV⟩ := jex ((((wr.setCell ⟨w.heap.size, 0, none⟩ (int i64 R.fH)).setCell ⟨w.heap.size, 1, none⟩ (int i64 R.fM)).setCell ⟨w.heap.size, 2, none⟩ (int i64 R.mark)).setCell ⟨w.heap.size, 3, none⟩ (.slice pv ln cv))
   have hVb : V.heap[w.heap.size]? = some (.cells #[int i64 R.fH, int i64 R.fM, int i64 R.mark, .slice pv ln cv] 82 (0, 0)) := by
    rw [hV, kAI (kAI (kAI (kAI HRes.out 0 _) 1 _) 2 _) 3 _];rfl
   have F : Fr [w.heap.size] wr V := by
    rw [hV];exact (((Fr.setCell (S := [w.heap.size]) wr ⟨w.heap.size, 0, none⟩ (int i64 R.fH) (by simp)).trans (Fr.setCell (S := [w.heap.size]) _ ⟨w.heap.size, 1, none⟩ (int i64 R.fM) (by simp)) (fun b hb => .inl hb)).trans (Fr.setCell (S := [w.heap.size]) _ ⟨w.heap.size, 2, none⟩ (int i64 R.mark) (by simp)) (fun b hb => .inl hb)).trans (Fr.setCell (S := [w.heap.size]) _ ⟨w.heap.size, 3, none⟩ (.slice pv ln cv) (by simp)) (fun b hb => .inl hb)
   rw [← hV];clear hV;have x0 : V.cell? ⟨w.heap.size, 0, none⟩ = some (int i64 R.fH) := by rw [kAC hVb]; rfl
   have x1 : V.cell? ⟨w.heap.size, 1, none⟩ = some (int i64 R.fM) := by rw [kAC hVb]; rfl
   have x2 : V.cell? ⟨w.heap.size, 2, none⟩ = some (int i64 R.mark) := by rw [kAC hVb]; rfl
   have x3 : V.cell? ⟨w.heap.size, 3, none⟩ = some (.slice pv ln cv) := by rw [kAC hVb]; rfl
   refine bodyPost_ret (v := .agg #[int i64 R.fH, int i64 R.fM, int i64 R.mark, .slice pv ln cv]) (by simp [results, results43, go_sem, x0, x1, x2, x3]) rfl ?_;obtain ⟨h5, h6, h7⟩ := HE.out V F;exact ⟨_, ls, rfl, h5, h6, h7⟩
def LsB (w : World) (a : Nat) (l : Lay) (ao : Option Addr) (ss : List Int) : Prop := ∀ j, j < ss.length → ∃ b, ao = some ⟨b, 0, none⟩ ∧ b < w.heap.size ∧ b ∉ foot a l ∧ w.cell? ⟨b, j, none⟩ = some (int i64 (ss.getD j 0))
theorem pKeep (ss : List Int) (ao : Option Addr) (c : Nat) (a : Nat) (l : Lay) (H : HS) (M : MS) (w : World) (h : Rep w a l H) (hi : Inv H M) (hage : H.age ≤ 1000000000) (hs : LsB w a l ao ss) (hsl : (ss.length : Int) ≤ 9223372036854775807) :
  Calls prog 111 #[.pointer (some ⟨a, 0, none⟩), .slice ao ss.length c] w fun e w' => e = .returned (.tuple #[int i64 (kDi M ss).1, int i64 (kDi M ss).2.1, int i64 (kDi M ss).2.2]) ∧ PN (ss.all (mhas M)) a l H (kCq M ss) w w' := by
 cases hall : ss.all (mhas M) with
 | false =>
  have e1 : kDi M ss = (0, 0, 20) := jn (by rw [hall]; simp);have e2 : kCq M ss = M := jn (by rw [hall]; simp);rw [e1, e2];obtain ⟨j0, h1, h2, h3⟩ := kEa _ ss hall;obtain ⟨b, hb, hbl, hbn, -⟩ := hs j0 h1;subst hb
  refine Calls.mono (kPw ss j0 b 0 c a l H w h h1 (fun j hj => by rw [hi.hasM]; exact h2 j hj) (by rw [hi.hasM]; exact h3) (by have := hi.safe.fD; omega) hbl hbn (fun j hj => by
   obtain ⟨b2, e, -, -, hc⟩ := hs j hj
   injection e with e
   injection e with e
   subst e;rw [jAl];exact hc) hsl) ?_
  rintro e w' ⟨rfl, hr, hx⟩;exact ⟨rfl, l, H, hr, hi, hx, Old.refl H⟩
 | true =>
  obtain ⟨ks, hk1, hk2⟩ := kKM M ss hall;have e2 : kCq M ss = { M with fA := kDf M.fA ks } := by unfold kCq; rw [jp hall, hk1, kCn]
  obtain ⟨hko, hki⟩ := hi.keep ks hk2 hage;have hlen : ks.length = ss.length := by rw [hk1, jAR]
  have hf := kNX ks ao c a l H w h hko (fun j hj => by
   obtain ⟨b, e, hbl, hbn, hc⟩ := hs j (by omega);refine ⟨b, e, hbl, hbn, ?_⟩;rw [hc, hk1, jAA, jAQ, jAA, jAB hj];rfl) (by omega)
  rw [hlen] at hf;refine hf.mono ?_;rintro e w' ⟨rfl, hr, hx⟩
  have e1 : kDi M ss = ((H.count : Int) - (kFf H ks).count, (H.mem.length : Int) - (kFf H ks).mem.length, 0) := by
   unfold kDi;rw [jp hall, e2, hi.count, hi.fin, hki.count, hki.fin]
  rw [e1, e2];exact ⟨rfl, l, _, hr, hki, hx, .inr ⟨rfl, rfl⟩⟩
theorem pState (a : Nat) (l : Lay) (H : HS) (M : MS) (w : World) (h : Rep w a l H) (hi : Inv H M) : Calls prog 42 #[.pointer (some ⟨a, 0, none⟩)] w fun e w' => ∃ ov ls, e = .returned (.agg #[int i64 M.fH, int i64 M.fM, int i64 M.mark, ov]) ∧ SRep w' w.heap.size ov ls ∧ ls.map kDo = (kAa H).map (keyO M.fA) ∧ Fr [] w w' := by
 have := kMz a l H M w h hi.toInvV;rw [kBq, hi.fH, hi.fM, hi.mark] at this;exact this
theorem kKB (r : Nat) (R : RS) (M : MS) (w : World) (h : RRep w 0 r R) (hi : Inv H M) (hd : Doc M R) (hb : RBd M R) : Calls prog 43 #[.pointer (some ⟨r, 0, none⟩)] w fun e w' => ∃ ov ls, e = .returned (.agg #[int i64 M.fH, int i64 M.fM, int i64 M.mark, ov]) ∧ SRep w' w.heap.size ov ls ∧ ls.map kDo = (kAa H).map (keyO M.fA) ∧ Fr [] w w' := by
 have hr := kKI 0 r R w h hb.ok
 have hk : R.fE.map kFC = (kAa H).map (keyO M.fA) := by
  obtain ⟨-, ho⟩ := hd.oopsL hi.toInvV.srt;rw [← ho, jAa];refine jBJ fun o o1 => ?_
  obtain ⟨p1, p2, p3, p4, p5⟩ := kAg (hd.each o o1).1;show kFC o = keyO M.fA o.oop;unfold kFC keyO;rw [← p2, ← p4, ← p5]
 rw [hk, hd.fH, hd.fM, hd.mark] at hr;exact hr
end Go.Proofs.YtflgicdbbogllaaGreatDoor
