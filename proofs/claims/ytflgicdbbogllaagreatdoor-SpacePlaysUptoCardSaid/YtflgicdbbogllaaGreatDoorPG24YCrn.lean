import Derived.Test.YtflgicdbbogllaaGreatDoorPG23RSrch
set_option maxHeartbeats 2000000
set_option maxRecDepth 20000
set_option linter.unusedSimpArgs false
set_option linter.unusedVariables false
namespace Go.Proofs.YtflgicdbbogllaaGreatDoor
open Go.RowKit Tryz
open Value (int)
open IntKind (i64)
attribute [local go_sem ↓] wp_at_zero wp_at_succ
variable {H : HS} {M M' : MS} {a s : Nat} {b : Bool} {l l' : Lay} {w w' w1 : World}
theorem kKu {α : Type} (l : List α) (d : α) (k : Nat) (hk : k < l.length) : l.take (k + 1) = l.take k ++ [l.getD k d] := by
 rw [jAO hk, jAA, jAB hk]; rfl
theorem kKF (H : HS) (M : MS) (B r : Nat) (R : RS) (p : Option Addr) (c : Nat) (roots : List Int) (w : World) (h : RRep w B r R) (ho : ROk R) (ht : Tw H M R) (hone : ∀ q j k, RIs R q j → RIs R q k → j = k) (hi : Inv H M) (hA : RAs R (kAq H H.fD.length)) (hr : Rd w (.slice p roots.length c) roots) :
  Calls prog 84 #[.pointer (some ⟨r, 0, none⟩), .slice p roots.length c] w fun e w' => ∃ v, e = .returned (.tuple #[v, int i64 0]) ∧ ∃ rs, Sr H M roots (rs, []) ∧ w'.ownsRow w.heap.size 3 1 v (kKH H rs).length ((kKH H rs).map I) ∧ Fr [] w w' := by
 obtain ⟨j0, ji, jz0, jz1, jz2⟩ := info_parts kGs;have hse := hi.told.fD;have hl := ho.len;have hro := hr.short;have HR : Hid (∀ V, Fr [] w V → RRep V B r R) := fun V hV => h.fK hV
 have HO := kAA ho;have HT := kAA ht;have HOne := kAA hone;have HA := kAA hA;obtain ⟨p', c', ep, hat⟩ := hr.at_
 injection ep with ep1 _ ep2
 subst ep1 ep2;have HAT := kAA hat;clear h ho ht hA hr hat hone;go_enter func84, ntmps84
 go_wp2_with fail
 go_loopw [6, 7] (fun v q wr => ∃ (k : Nat) (pv : Option Addr) (cv : Nat), k ≤ roots.length ∧ v = .slice pv (adds H [] (roots.take k)).length cv ∧ q = int i64 k ∧ Hid (Mine w wr (.slice pv (adds H [] (roots.take k)).length cv) (adds H [] (roots.take k)))) (fun _ q _ => roots.length - (intOf q).toNat)
 case atStart => exact ⟨0, none, 0, jAH _, rfl, rfl, Mine.nil w⟩
 case round =>
  obtain ⟨k, pv, cv, hkn, rfl, rfl, hm⟩ := hrel;have k1 := ng k
  by_cases hlt : k < roots.length
  ·have k2 : (k : Int) < roots.length := by omega
   obtain ⟨g, off, rfl, hg, hc⟩ := HAT.out (by omega);have x1 := (hm.out.fr.cell (p := ⟨g, off + k, none⟩) hg (by simp)).trans (hc k hlt)
   have HTk : Hid (adds H [] (roots.take (k + 1)) = addL (adds H [] (roots.take k)) (namN H (roots.getD k 0))) := by
    show adds H [] (roots.take (k + 1)) = _;rw [jAO hlt, kGH, jAA, jAB hlt]; rfl
   have hfl := (Fnd.adds (roots.take k) (Fnd.nil H)).len;have HN := kAA (kEq (roots.getD k 0) H M B r R wr (HR.out wr hm.out.fr) (by omega) HT.out);generalize adds H [] (roots.take k) = X at *;generalize roots.getD k 0 = z at *;clear hc
   go_wp2_with fail
   refine HN.out.mono ?_;rintro e w2 ⟨rfl, hf2⟩;have HA2 := kAA (kGG X (namN H z) _ w w2 (hm.out.fK hf2) (by omega));generalize namN H z = m at *;clear hf2 HN
   go_wp2_with fail
   refine HA2.out.mono ?_;rintro e w3 ⟨v3, rfl, hm3⟩;rw [← HTk.out] at hm3;obtain ⟨p3, c3, rfl⟩ := hm3.is;have HM3 := kAA hm3;clear hm3 HA2
   go_wp2_with fail
   go_roundw
   case rel => exact ⟨k + 1, p3, c3, by omega, rfl, by go_num, HM3⟩
   case measure => simp [intOf]; omega
  ·have hke : k = roots.length := by omega
   subst hke;rw [jAV] at hm ⊢;have HS0 := kAA (kNm H M roots);have HF0 := kAA (Fnd.adds roots (Fnd.nil H));generalize adds H [] roots = X0 at *;clear HAT
   go_wp2_with fail
   go_loopw [6, 8] (fun v q wr => ∃ (t : Nat) (rs : List Nat) (pv : Option Addr) (cv : Nat), t ≤ rs.length ∧ rs.length ≤ H.fD.length ∧ v = .slice pv rs.length cv ∧ q = int i64 t ∧ Hid (Mine w wr (.slice pv rs.length cv) rs) ∧ Hid (Sr H M roots (rs, rs.drop t) ∧ Fnd H rs)) (fun _ q _ => H.fD.length + 1 - (intOf q).toNat)
   case atStart => exact ⟨0, X0, pv, cv, jAH _, HF0.out.len, rfl, rfl, hm, HS0.out, HF0.out⟩
   case round =>
    clear HS0 HF0 hm;obtain ⟨t, rs, pv, cv, htn, hrl, rfl, rfl, hm, hs⟩ := hrel;have k1 := ng t
    by_cases hlt : t < rs.length
    ·have k2 : (t : Int) < rs.length := by omega
     obtain ⟨g, cg, e1, x1⟩ := hm.out.cell t hlt
     injection e1 with e1 _ e2
     subst e1 e2;have hqm : rs.getD t 0 ∈ rs := by rw [jAA, jAB hlt]; exact jAT hlt
     have hyes := (HT.out.has _).1 (hs.out.2.th _ hqm);have HSt := kAA (kQD hlt hs.out.1);have HFd := kAA hs.out.2;have HGet : Hid (∀ l, (adds H rs l).getD t 0 = rs.getD t 0) := fun l => kIL H t l rs hlt
     have HLe : Hid (∀ l, t < (adds H rs l).length) := fun l => jAb hlt (kIh H l rs)
     have HC := kAA (kDy ((rs.getD t 0 : Nat) : Int) B r R wr (HR.out wr hm.out.fr) (by omega));have HY := kAA hyes;generalize rs.getD t 0 = q at *;clear hs hqm hyes
     go_wp2_with fail
     refine HC.out.mono ?_;rintro e w2 ⟨⟨k, hk, rfl⟩ | ⟨hn, -⟩, hf2⟩
     rotate_left
     ·exact absurd hn HY.out
     have hlk := HT.out.at_ k hk.1;have hko : (R.fE.getD k noRO).oop = q := by have := hk.2; omega
     rw [hko] at hlk;have hos := (HO.out.getD k hk.1).2;obtain ⟨o, ho⟩ := jex (R.fE.getD k noRO);rw [← ho] at hlk hos ⊢;have Ho := kAA ho;have Hk := kAA hk;have Hlk := kAA hlk;have HM2 := kAA (hm.out.fK hf2);have HN := kAA (kEq o.cls H M B r R w2 (HR.out w2 HM2.out.fr) (by omega) HT.out);clear ho hk hlk hko hf2 HC x1 hm
     go_wp2_with fail
     refine HN.out.mono ?_;rintro e w3 ⟨rfl, hf3⟩;have HA3 := kAA (kGG rs (namN H o.cls) (.slice (some ⟨g, 0, none⟩) rs.length cv) w w3 (HM2.out.fK hf3) (by omega));clear hf3 HN HM2;obtain ⟨L1, hL1⟩ := jex (adds H rs (o.cls :: o.fB.take 0));have hL2 : addL rs (namN H o.cls) = L1 := hL1.symm ▸ rfl;rw [hL2] at HA3;have HL1 := kAA hL1;have hg1 : L1.getD t 0 = q := by rw [hL1]; exact HGet.out _
     have hl1 : t < L1.length := by rw [hL1]; exact HLe.out _
     clear hL1 hL2;generalize namN H o.cls = m at *
     go_wp2_with fail
     refine HA3.out.mono ?_;rintro e w4 ⟨v4, rfl, hm4⟩;obtain ⟨g4, c4, rfl, x4⟩ := hm4.cell t hl1;rw [hg1] at x4;have HM4 := kAA hm4;have HZ := kAA (kGf (q : Int) B r R w4 (HR.out w4 hm4.fr) (by omega) HY.out);have k3 : (t : Int) < L1.length := by omega
     clear hm4 HA3 hg1
     go_wp2_with fail
     refine HZ.out.mono ?_;rintro e w5 ⟨⟨k', hk', rfl⟩, hf5⟩;have ek := HOne.out _ _ _ hk' Hk.out;rw [ek, ← Ho.out];have HM5 := kAA (HM4.out.fK hf5);clear hk' ek k' hf5 HZ HM4 x4 k3 hl1;rw [HL1.out] at HM5 ⊢;clear HL1
     go_wp2_with fail
     go_loopw [6, 14] (fun v q wr => ∃ (j : Nat) (pv : Option Addr) (cv : Nat), j ≤ o.fB.length ∧ v = .slice pv (adds H rs (o.cls :: o.fB.take j)).length cv ∧ q = int i64 j ∧ Hid (o.fmt ≠ 0 → j = 0) ∧ Hid (Mine w wr (.slice pv (adds H rs (o.cls :: o.fB.take j)).length cv) (adds H rs (o.cls :: o.fB.take j)))) (fun _ q _ => o.fB.length - (intOf q).toNat)
     case atStart => exact ⟨0, _, _, jAH _, rfl, rfl, fun _ => rfl, HM5⟩
     case round =>
      clear HM5;obtain ⟨j, pj, cj, hjn, rfl, rfl, hj0, hmj⟩ := hrel;have j1 := ng j;have hfl := (Fnd.adds (o.cls :: o.fB.take j) HFd.out).len
      by_cases hfm : o.fmt = 0
      ·have b1 : ((o.fmt : Int) == 0) = true := by simpa using hfm
       by_cases hlj : j < o.fB.length
       ·have j2 : (j : Int) < o.fB.length := by omega
        obtain ⟨g6, c6, e6, x6⟩ := hmj.out.cell t (HLe.out _)
        injection e6 with e6 _ e7
        subst e6 e7;rw [HGet.out] at x6;have k3 : (t : Int) < ((adds H rs (o.cls :: o.fB.take j)).length : Int) := by have := HLe.out (o.cls :: o.fB.take j); omega
        have HAt := kAA (kLv (q : Int) B r R j wr (HR.out wr hmj.out.fr) (by omega) (fun k' hk' => by rw [HOne.out _ _ _ hk' Hk.out, ← Ho.out]; exact hlj) HY.out)
        have HNx : Hid (adds H rs (o.cls :: o.fB.take (j + 1)) = addL (adds H rs (o.cls :: o.fB.take j)) (namN H (o.fB.getD j 0))) := by
         show adds H rs (o.cls :: o.fB.take (j + 1)) = _;rw [← kGH, kKu o.fB 0 j hlj]; rfl
        have HFm := kAA hfm;clear hfm
        go_wp2_with fail
        refine HAt.out.mono ?_;rintro e w6 ⟨⟨k', hk', rfl⟩, hf6⟩;have ek := HOne.out _ _ _ hk' Hk.out;rw [ek, ← Ho.out];have HM6 := kAA (hmj.out.fK hf6);have HN6 := kAA (kEq (o.fB.getD j 0) H M B r R w6 (HR.out w6 HM6.out.fr) (by omega) HT.out);generalize o.fB.getD j 0 = z at *;clear hk' ek k' hf6 HAt x6 hmj
        go_wp2_with fail
        refine HN6.out.mono ?_;rintro e w7 ⟨rfl, hf7⟩;have HA7 := kAA (kGG _ (namN H z) (.slice (some ⟨g6, 0, none⟩) (adds H rs (o.cls :: o.fB.take j)).length cj) w w7 (HM6.out.fK hf7) (by omega));generalize namN H z = m at *;clear hf7 HN6 HM6
        go_wp2_with fail
        refine HA7.out.mono ?_;rintro e w8 ⟨v8, rfl, hm8⟩;rw [← HNx.out] at hm8;obtain ⟨p8, c8, rfl⟩ := hm8.is;have HM8 := kAA hm8;clear hm8 HA7
        go_wp2_with fail
        go_roundw
        case rel => exact ⟨j + 1, p8, c8, by omega, rfl, by go_num, kAA (fun h => absurd HFm.out h), HM8⟩
        case measure => simp [intOf]; omega
       ·have hje : j = o.fB.length := by omega
        subst hje;have e1 : adds H rs (o.cls :: o.fB.take o.fB.length) = adds H rs (lk M q) := by rw [jAV, Hlk.out, jp hfm]
        rw [e1] at hmj;have HE := kAA e1;have HFl := kAA (Fnd.adds (lk M q) HFd.out);have hle := HLe.out (lk M q);clear hj0
        go_wp2_with fail
        go_roundw
        case rel => exact ⟨t + 1, adds H rs (lk M q), _, _, hle, HFl.out.len, by rw [HE.out], by go_num, by first | exact hmj | (rw [HE.out] at hmj; exact hmj), HSt.out, HFl.out⟩
        case measure => simp [intOf]; omega
      ·have b1 : ((o.fmt : Int) == 0) = false := by simpa using hfm
       have hje : j = 0 := hj0.out hfm;subst hje;have e1 : adds H rs (o.cls :: o.fB.take 0) = adds H rs (lk M q) := by rw [Hlk.out, jn hfm]; rfl
       rw [e1] at hmj;have HE := kAA e1;have HFl := kAA (Fnd.adds (lk M q) HFd.out);have hle := HLe.out (lk M q);clear hj0
       by_cases hlj : 0 < o.fB.length
       ·have j2 : (0 : Int) < (o.fB.length : Int) := by omega
        go_wp2_with fail
        go_roundw
        case rel => exact ⟨t + 1, adds H rs (lk M q), _, _, hle, HFl.out.len, by rw [HE.out], by go_num, by first | exact hmj | (rw [HE.out] at hmj; exact hmj), HSt.out, HFl.out⟩
        case measure => simp [intOf]; omega
       ·have j2 : (o.fB.length : Int) ≤ 0 := by omega
        go_wp2_with fail
        go_roundw
        case rel => exact ⟨t + 1, adds H rs (lk M q), _, _, hle, HFl.out.len, by rw [HE.out], by go_num, by first | exact hmj | (rw [HE.out] at hmj; exact hmj), HSt.out, HFl.out⟩
        case measure => simp [intOf]; omega
    ·have hte : t = rs.length := by omega
     subst hte;have hsr := hs.out.1;rw [List.drop_length] at hsr;have HSr := kAA hsr;have HAl := kAA (kOy (kAq H H.fD.length) B r R wr (HR.out wr hm.out.fr) HA.out);have hal := kDl H H.fD.length;have HSy : Hid (kKH H rs = (kAq H H.fD.length).filter fun x => decide (x ∈ rs)) := rfl;clear hsr hs
     go_wp2_with fail
     refine HAl.out.mono ?_;rintro e w4 ⟨v4, rfl, hrow4, hf4⟩;have HM4 : Hid (Mine wr w4 v4 (kAq H H.fD.length)) := ⟨hrow4, hf4⟩;have HMf := kAA (hm.out.fK hf4);obtain ⟨p4, c4, rfl⟩ := HM4.out.is;generalize kAq H H.fD.length = A at *;clear hrow4 hf4 HAl hm
     go_wp2_with fail
     go_loopw [17, 19] (fun v q wr => ∃ (k : Nat) (po : Option Addr) (co : Nat), k ≤ A.length ∧ v = .slice po (kBM A rs k).length co ∧ q = int i64 k ∧ Hid (Mine w4 wr (.slice po (kBM A rs k).length co) (kBM A rs k))) (fun _ q _ => A.length - (intOf q).toNat)
     case atStart => exact ⟨0, none, 0, jAH _, rfl, rfl, Mine.nil w4⟩
     case round =>
      obtain ⟨k, po, co, hkn, rfl, rfl, hmo⟩ := hrel;have i1 := ng k
      by_cases hlk : k < A.length
      ·have i2 : (k : Int) < A.length := by omega
       obtain ⟨g5, c5, e5, x5⟩ := (HM4.out.fK hmo.out.fr).cell k hlk
       injection e5 with e5 _ e6
       subst e5 e6;have HI := kAA (kOg (zs rs) ((A.getD k 0 : Nat) : Int) (.slice pv rs.length cv) wr ((HMf.out.fK hmo.out.fr).rd (by omega)));rw [show decide (((A.getD k 0 : Nat) : Int) ∈ zs rs) = decide (A.getD k 0 ∈ rs) by rw [jBZ, decide_eq_true_eq, decide_eq_true_eq, kHf]] at HI;have hsu := kDb A rs k hlk;have hml := kEK A rs k;generalize hzz : A.getD k 0 = z at *;clear hzz
       by_cases hy : z ∈ rs
       ·rw [jp hy] at hsu;rw [decide_eq_true hy] at HI;have HSU := kAA hsu;have hz := hmo.out.fr.size;have hown2 := hmo.out.own.alloc (.cells #[int i64 z] 3);have HMo := kAA hmo.out;clear hsu hy hmo
        go_wp2_with (first | (at_builtin; refine wpList_append_own _ rfl (.tmp 104) (.tmp 109) 88 rfl w4.heap.size 3 j0 (int i64 0) 1 8 underlying88 ji jz0 jz1 jz2 rfl (by decide) _ _ _ rfl hown2 ⟨wr.heap.size, 0, none⟩ 1 1 [int i64 z] rfl rfl ?d1 ?d2 ?d3 ?d4 ?d5 ?_) | (go_at_call 129; refine HI.out.mono ?_; rintro e w' ⟨rfl, hw'⟩; rw [hw']; clear hw' w') | go_in)
        case d1 =>
         have := World.news_of_block (heap_alloc_new wr (.cells #[int i64 z] 3))
         simpa using this
        case d2 => first | rfl | (intro u hu; simp at hu; subst hu; rfl)
        case d3 => unfold maxLen; omega
        case d4 => omega
        case d5 => first | omega | (simp; omega)
        intro v' w1 hown' hgrow _;have hmn := HMo.out.grow (m := z) hown' hgrow;rw [← HSU.out] at hmn;obtain ⟨pn, cn, rfl⟩ := hmn.is;have HMn := kAA hmn;clear hown' hgrow hown2 hmn
        go_wp2
        go_roundw
        case rel => exact ⟨k + 1, pn, cn, by omega, rfl, by go_num, HMn⟩
        case measure => simp [intOf]; omega
       ·rw [jn hy, jAz] at hsu;rw [decide_eq_false hy] at HI;have HSU := kAA hsu;clear hsu hy
        go_wp2_with (go_at_call 129; refine HI.out.mono ?_; rintro e w' ⟨rfl, hw'⟩; rw [hw']; clear hw' w')
        go_roundw
        case rel => exact ⟨k + 1, po, co, by omega, by rw [HSU.out], by go_num, by rw [HSU.out]; exact hmo⟩
        case measure => simp [intOf]; omega
      ·have hke : k = A.length := by omega
       subst hke;have HF := kAA ((HMf.out.fr).trans hmo.out.fr (by simp));have HSz := kAA HMf.out.fr.size;have e1 : kBM A rs A.length = A.filter fun x => decide (x ∈ rs) := by unfold kBM; rw [jAV]
       rw [e1] at hmo ⊢
       go_wp2_with fail
       go_ret2
       exact ⟨_, rfl, rs, HSr.out, by rw [HSy.out]; exact kAV hmo.out.own HSz.out, HF.out⟩
structure Bx where
 g : Nat
 ag : Nat
 n : Nat
 mr : Nat
structure SpS where
 H : HS
 M : MS
 fN : Int
 st : List Int
 sv : Value
 br : Option Bx
def Bx.p (b : Bx) : Addr := ⟨b.g, 0, none⟩
def brC (a : Nat) (b : Bx) : Obj := .cells #[.pointer (some ⟨a, 0, none⟩), int i64 b.ag, int i64 b.n, int i64 b.mr] 115 (0, 0)
structure Spc (w : World) (s a : Nat) (l : Lay) (X : SpS) : Prop where
 top : w.heap[s]? = some (.cells #[.pointer (some ⟨s, 0, none⟩), .pointer (some ⟨a, 0, none⟩), int i64 X.M.fH, int i64 X.M.fM, int i64 X.fN, X.sv, .pointer (X.br.map Bx.p)] 96 (0, 0))
 rep : Rep w a l X.H
 inv : Inv X.H X.M
 stk : w.ownsRow 0 41 1 X.sv X.st.length (X.st.map (int i64))
 sepS : s ∉ foot a l
 sepV : ∀ g, X.sv.ownBlock = some g → g ∉ foot a l ∧ g ≠ s
 bk : ∀ b, X.br = some b → w.heap[b.g]? = some (brC a b) ∧ b.g ∉ foot a l ∧ b.g ≠ s ∧ X.sv.ownBlock ≠ some b.g
def spF (s a : Nat) (l : Lay) (X : SpS) : List Nat := s :: (X.sv.ownBlock.toList ++ ((X.br.map Bx.g).toList ++ foot a l))
theorem kAT {X : SpS} {g : Nat} : g ∈ spF s a l X ↔ g = s ∨ X.sv.ownBlock = some g ∨ (∃ b, X.br = some b ∧ b.g = g) ∨ g ∈ foot a l := by
 unfold spF;rw [jAF, jAC, jAC, Option.mem_toList, Option.mem_toList];constructor
 ·rintro (h | h | h | h)
  ·exact .inl h
  ·exact .inr (.inl h)
  ·obtain ⟨b, h1, h2⟩ := Option.map_eq_some_iff.1 h;exact .inr (.inr (.inl ⟨b, h1, h2⟩))
  ·exact .inr (.inr (.inr h))
 ·rintro (h | h | ⟨b, h1, h2⟩ | h)
  ·exact .inl h
  ·exact .inr (.inl h)
  ·exact .inr (.inr (.inl (by rw [h1]; exact congrArg some h2)))
  ·exact .inr (.inr (.inr h))
theorem Spc.lt {X : SpS} (h : Spc w s a l X) : ∀ g ∈ spF s a l X, g < w.heap.size := fun g hg => by
 rcases kAT.1 hg with rfl | e | ⟨b, e, rfl⟩ | e
 ·exact kAB h.top
 ·exact (h.stk.lt g e).2
 ·exact kAB (h.bk b e).1
 ·exact h.rep.lt g e
theorem Spc.keep {X : SpS} {S : List Nat} (h : Spc w s a l X) (hf : Fr S w w') (hd : ∀ g ∈ spF s a l X, g ∉ S) : Spc w' s a l X :=
 ⟨(hf.block s (kAB h.top) (hd s (kAT.2 (.inl rfl)))).trans h.top, h.rep.keep hf (fun g hg => hd g (kAT.2 (.inr (.inr (.inr hg))))), h.inv, kAE h.stk fun g hg => hf.block g (h.stk.lt g hg).2 (hd g (kAT.2 (.inr (.inl hg)))), h.sepS, h.sepV,
  fun b hb => ⟨(hf.block b.g (kAB (h.bk b hb).1) (hd b.g (kAT.2 (.inr (.inr (.inl ⟨b, hb, rfl⟩)))))).trans (h.bk b hb).1, (h.bk b hb).2⟩⟩
theorem Spc.fK {X : SpS} (h : Spc w s a l X) (hf : Fr [] w w') : Spc w' s a l X := h.keep hf (by simp)
theorem Spc.heap {X : SpS} (h : Spc w s a l X) (hR : Rep w' a l' H) (hk : Inv H M) (hw : M.fH = X.M.fH ∧ M.fM = X.M.fM) (hx : Nx a l l' w w') : Spc w' s a l' { X with H := H, M := M } := by
 have out : ∀ {g}, g < w.heap.size → g ∉ foot a l → g ∉ foot a l' := fun {g} h1 h2 hm => by
  rcases hx.2 g hm with h3 | h3
  ·exact h2 h3
  ·omega
 refine ⟨?_, hR, hk, kAE h.stk fun g hg => hx.1.block g (h.stk.lt g hg).2 (h.sepV g hg).1, out (kAB h.top) h.sepS, fun g hg => ⟨out (h.stk.lt g hg).2 (h.sepV g hg).1, (h.sepV g hg).2⟩, fun b hb => ?_⟩
 ·rw [hx.1.block s (kAB h.top) h.sepS, h.top];show some (Obj.cells #[_, _, int i64 X.M.fH, int i64 X.M.fM, _, _, _] _ _) = some (Obj.cells #[_, _, int i64 M.fH, int i64 M.fM, _, _, _] _ _);rw [hw.1, hw.2]
 ·obtain ⟨h1, h2, h3⟩ := h.bk b hb;exact ⟨(hx.1.block b.g (kAB h1) h2).trans h1, out (kAB h1) h2, h3⟩
theorem Spc.cells {X : SpS} (h : Spc w s a l X) : w.cell? ⟨s, 0, none⟩ = some (.pointer (some ⟨s, 0, none⟩)) ∧ w.cell? ⟨s, 1, none⟩ = some (.pointer (some ⟨a, 0, none⟩)) ∧ w.cell? ⟨s, 2, none⟩ = some (int i64 X.M.fH) ∧ w.cell? ⟨s, 3, none⟩ = some (int i64 X.M.fM) ∧ w.cell? ⟨s, 4, none⟩ = some (int i64 X.fN) ∧ w.cell? ⟨s, 5, none⟩ = some X.sv ∧ w.cell? ⟨s, 6, none⟩ = some (.pointer (X.br.map Bx.p)) :=
 ⟨by rw [kAC h.top]; rfl, by rw [kAC h.top]; rfl, by rw [kAC h.top]; rfl, by rw [kAC h.top]; rfl, by rw [kAC h.top]; rfl, by rw [kAC h.top]; rfl, by rw [kAC h.top]; rfl⟩
theorem Spc.write {X X' : SpS} (h : Spc w s a l X) (hf : Fr [s] w w') (ht : w'.heap[s]? = some (.cells #[.pointer (some ⟨s, 0, none⟩), .pointer (some ⟨a, 0, none⟩), int i64 X'.M.fH, int i64 X'.M.fM, int i64 X'.fN, X'.sv, .pointer (X'.br.map Bx.p)] 96 (0, 0))) (hH : X'.H = X.H) (hM : X'.M = X.M) (hs : X'.sv = X.sv) (hst : X'.st = X.st) (hb : X'.br = X.br ∨ X'.br = none) : Spc w' s a l X' := by
 refine ⟨ht, ?_, by rw [hH, hM]; exact h.inv, ?_, h.sepS, by rw [hs]; exact h.sepV, fun b e => ?_⟩
 ·rw [hH]
  exact h.rep.keep hf (fun g hg hm => by have e : g = s := (by simpa using hm); rw [e] at hg; exact h.sepS hg)
 ·rw [hs, hst];exact kAE h.stk fun g hg => hf.block g (h.stk.lt g hg).2 (by simpa using (h.sepV g hg).2)
 ·rcases hb with hb | hb
  ·rw [hb] at e;obtain ⟨h1, h2, h3, h4⟩ := h.bk b e;exact ⟨(hf.block b.g (kAB h1) (by simpa using h3)).trans h1, h2, h3, by rw [hs]; exact h4⟩
  ·rw [hb] at e; cases e
structure PS (s a : Nat) (l : Lay) (X : SpS) (w : World) (l' : Lay) (X' : SpS) (w' : World) : Prop where
 ok : Spc w' s a l' X'
 fr : Fr (spF s a l X) w w'
 foot : ∀ g ∈ spF s a l' X', g ∈ spF s a l X ∨ w.heap.size ≤ g
theorem PS.fK {X : SpS} (h : Spc w s a l X) (hf : Fr [] w w') : PS s a l X w l X w' := ⟨h.fK hf, hf.mono (by simp), fun g hg => .inl hg⟩
theorem PS.heap {X : SpS} (h : Spc w s a l X) (hR : Rep w' a l' H) (hk : Inv H M) (hw : M.fH = X.M.fH ∧ M.fM = X.M.fM) (hx : Nx a l l' w w') : PS s a l X w l' { X with H := H, M := M } w' := by
 refine ⟨h.heap hR hk hw hx, hx.1.mono fun g hg => .inl (kAT.2 (.inr (.inr (.inr hg)))), fun g hg => ?_⟩;rcases kAT.1 hg with e | e | e | e
 ·exact .inl (kAT.2 (.inl e))
 ·exact .inl (kAT.2 (.inr (.inl e)))
 ·exact .inl (kAT.2 (.inr (.inr (.inl e))))
 ·rcases hx.2 g e with q | q
  ·exact .inl (kAT.2 (.inr (.inr (.inr q))))
  ·exact .inr q
theorem PS.trans {l'' : Lay} {X X' X'' : SpS} {w'' : World} (h : PS s a l X w l' X' w') (k : PS s a l' X' w' l'' X'' w'') : PS s a l X w l'' X'' w'' :=
 ⟨k.ok, h.fr.trans k.fr h.foot, fun g hg => by
  rcases k.foot g hg with q | q
  ·exact h.foot g q
  ·right; have := h.fr.size; omega⟩
theorem PS.first {X X' : SpS} (hf : Fr [] w w1) (k : PS s a l X w1 l' X' w') : PS s a l X w l' X' w' :=
 ⟨k.ok, (hf.mono (by simp)).trans k.fr (fun g hg => .inl hg), fun g hg => by
  rcases k.foot g hg with q | q
  ·exact .inl q
  ·right; have := hf.size; omega⟩
theorem PS.own {X X' : SpS} (h : Spc w' s a l X') (hf : Fr [s] w w') (hs : X'.sv = X.sv) (hb : X'.br = X.br ∨ X'.br = none) : PS s a l X w l X' w' := by
 refine ⟨h, hf.mono fun g hg => .inl (kAT.2 (.inl (by simpa using hg))), fun g hg => ?_⟩;rcases kAT.1 hg with e | e | ⟨b, e, e2⟩ | e
 ·exact .inl (kAT.2 (.inl e))
 ·exact .inl (kAT.2 (.inr (.inl (by rw [← hs]; exact e))))
 ·rcases hb with q | q
  ·exact .inl (kAT.2 (.inr (.inr (.inl ⟨b, by rw [← q]; exact e, e2⟩))))
  ·rw [q] at e; cases e
 ·exact .inl (kAT.2 (.inr (.inr (.inr e))))
theorem kOe : (prog.info? 96).isSome = true := by kernel_rfl
theorem kAz {X : SpS} (h : Spc w s a l X) : Calls prog 45 #[.pointer (some ⟨s, 0, none⟩)] w fun e w' => e = .returned (.bool true) ∧ Fr [] w w' := by
 obtain ⟨c0, -⟩ := h.cells;obtain ⟨j, hj⟩ := jAv.1 kOe;have hq := run_eql_ptr_same (P := prog) w ⟨s, 0, none⟩ underlying23 hj;clear h hj;go_enter func45, ntmps45
 go_wp2
 go_ret
 exact ⟨rfl, Fr.refl _ _⟩
theorem kDk {X : SpS} (h : Spc w s a l X) : Calls prog 41 #[.pointer (some ⟨s, 0, none⟩)] w fun e w' => e = .returned (.pointer (some ⟨a, 0, none⟩)) ∧ Fr [] w w' := by
 have HM := kAA (kAz h);have HS := kAA h;clear h;go_enter func41, ntmps41
 go_wp2_with fail
 refine HM.out.mono ?_;rintro e w1 ⟨rfl, hf⟩;obtain ⟨c0, c1, -⟩ := (HS.out.fK hf).cells;have HF := kAA hf;clear hf HM
 go_wp2_with fail
 go_ret
 exact ⟨rfl, HF.out⟩
theorem kEf {X : SpS} (h : Spc w s a l X) : Calls prog 65 #[.pointer (some ⟨s, 0, none⟩)] w fun e w' =>
  (X.br = none ∧ e = .returned (.tuple #[.pointer none, int i64 25]) ∧ Fr [] w w') ∨ (∃ b, X.br = some b ∧ e = .returned (.tuple #[.pointer (some b.p), int i64 0]) ∧ Spc w' s a l { X with br := none } ∧ Fr [s] w w') := by
 have HM := kAA (kAz h);have HS := kAA h;clear h;go_enter func65, ntmps65
 go_wp2_with fail
 refine HM.out.mono ?_;rintro e w1 ⟨rfl, hf⟩;have hs1 := HS.out.fK hf;obtain ⟨c0, c1, c2, c3, c4, c5, c6⟩ := hs1.cells;have fz := kAD hs1.top 6;have HF := kAA hf;have HS1 := kAA hs1
 cases hb : X.br with
 | none =>
  rw [hb] at c6;dsimp only [Option.map] at c6;clear hf HM hs1
  go_wp2_with fail
  go_ret2
  exact .inl ⟨hb, rfl, HF.out⟩
 | some b =>
  rw [hb] at c6;dsimp only [Option.map] at c6
  have HZ : Hid (Spc (w1.setCell ⟨s, 6, none⟩ (.pointer none)) s a l { X with br := none } ∧ Fr [s] w (w1.setCell ⟨s, 6, none⟩ (.pointer none))) := by
   have f2 : Fr [s] w1 (w1.setCell ⟨s, 6, none⟩ (.pointer none)) := Fr.setCell (S := [s]) w1 ⟨s, 6, none⟩ _ (by simp);refine ⟨HS1.out.write f2 ?_ rfl rfl rfl rfl (.inr rfl), (HF.out.mono (by simp)).trans f2 (fun q hq => .inl hq)⟩;rw [kAI HS1.out.top 6 _];rfl
  clear hf HM hs1;generalize hp : b.p = bp at *;have HP := kAA hp;clear hp
  go_wp2_with fail
  go_ret2
  exact .inr ⟨b, hb, by rw [HP.out]; rfl, HZ.out.1, HZ.out.2⟩
def PBr (kd : Nat) (b : Bool) (X X' : SpS) : Prop :=
 match kd with
 | 0 => X'.br = X.br ∧ Old b X.H X'.H
 | 1 => X.br = none ∧ X'.br = none ∧ X'.H.age ≤ X.H.age + 2
 | 2 => X.br = none ∧ (∃ g, X'.br = some ⟨g, X'.H.age, X'.H.fC.length, X'.M.mark⟩) ∧ X'.H.age ≤ X.H.age + 2
 | _ => X'.br = none ∧ X'.H.age ≤ X.H.age + 2
def PO (s a : Nat) (l : Lay) (X : SpS) (kd : Nat) (b : Bool) (M' : MS) (r' : Int) (st' : List Int) (w w' : World) : Prop :=
 ∃ l' X', PS s a l X w l' X' w' ∧ X'.M = M' ∧ X'.fN = r' ∧ X'.st = st' ∧ PBr kd b X X'
theorem PO.fK {X : SpS} (h : Spc w s a l X) (hf : Fr [] w w') : PO s a l X 0 false X.M X.fN X.st w w' :=
 ⟨l, X, PS.fK h hf, rfl, rfl, rfl, rfl, Old.refl _⟩
theorem PO.first {X : SpS} {kd : Nat} {r' : Int} {st' : List Int} (hf : Fr [] w w1) (h : PO s a l X kd b M' r' st' w1 w') : PO s a l X kd b M' r' st' w w' := by
 obtain ⟨l', X', h1, h2⟩ := h;exact ⟨l', X', h1.first hf, h2⟩
theorem PO.of {X : SpS} (h : Spc w s a l X) (hp : PN b a l X.H M' w w') (hw : M'.fH = X.M.fH ∧ M'.fM = X.M.fM) : PO s a l X 0 b M' X.fN X.st w w' := by
 obtain ⟨l', H', h1, h2, h3, h4⟩ := hp;exact ⟨l', _, PS.heap h h1 h2 hw h3, rfl, rfl, rfl, rfl, h4⟩
theorem kLU (M : MS) (X A B : Int) : (kAe M X A B).fH = M.fH ∧ (kAe M X A B).fM = M.fM := by
 unfold kAe
 repeat' split
 all_goals exact ⟨rfl, rfl⟩
theorem kKO (M : MS) (A B X : Int) : (putN M A B X).fH = M.fH ∧ (putN M A B X).fM = M.fM := by
 unfold putN
 split <;> exact ⟨rfl, rfl⟩
theorem kNn (M : MS) (A : Int) : (kEm M A).fH = M.fH ∧ (kEm M A).fM = M.fM := by
 unfold kEm
 split <;> exact ⟨rfl, rfl⟩
theorem kMh (M : MS) (A B : Int) : (kEo M A B).fH = M.fH ∧ (kEo M A B).fM = M.fM := by
 unfold kEo
 split <;> exact ⟨rfl, rfl⟩
theorem kIU (M : MS) (A : Int) : (kDO M A).fH = M.fH ∧ (kDO M A).fM = M.fM := by
 unfold kDO
 split <;> exact ⟨rfl, rfl⟩
section
variable {w : World} {s a : Nat} {l : Lay} {X : SpS}
theorem kIY (h : Spc w s a l X) (q : Int) : Calls prog 17 #[.pointer (some ⟨s, 0, none⟩), int i64 q] w fun e w' =>
  e = .returned (int i64 (if mhas X.M q = true then 0 else 20)) ∧ ((mhas X.M q = true ∧ PS s a l X w l { X with fN := q } w') ∨ (mhas X.M q = false ∧ Fr [] w w')) := by
 obtain ⟨E, e1, hE⟩ : ∃ E : Int, (if mhas X.M q = true then (0 : Int) else 20) = E ∧ ((E = 0 ∧ mhas X.M q = true) ∨ (E = 20 ∧ mhas X.M q = false)) := by
  cases mhas X.M q with
  | true => exact ⟨_, rfl, .inl ⟨rfl, rfl⟩⟩
  | false => exact ⟨_, rfl, .inr ⟨rfl, rfl⟩⟩
 have HM := kAA (kAz h);have HS := kAA h
 have HC : Hid (∀ V, Fr [] w V → Calls prog 53 #[.pointer (some ⟨a, 0, none⟩), int i64 q] V fun e w' => ∃ c, e = .returned (.tuple #[int i64 c, int i64 E]) ∧ Fr [] V w') := fun V hV => by
  rw [← e1];exact (kOM q a l X.H X.M V (h.fK hV).rep h.inv).mono fun e w' ⟨h1, h2⟩ => ⟨_, h1, h2⟩
 rw [e1];clear h e1;go_enter func17, ntmps17
 go_wp2_with fail
 refine HM.out.mono ?_;rintro e w1 ⟨rfl, hf⟩;have hs1 := HS.out.fK hf;obtain ⟨c0, c1, -⟩ := hs1.cells;have HC1 := kAA (HC.out w1 hf);have HF := kAA hf;have HS1 := kAA hs1;clear hf HM hs1 HC
 go_wp2_with fail
 refine HC1.out.mono ?_;rintro e w2 ⟨c, rfl, hf2⟩;have hs2 := HS1.out.fK hf2;obtain ⟨-, -, -, -, c4, -⟩ := hs2.cells;have fz := kAD hs2.top 4;have HF2 : Hid (Fr [] w w2) := HF.out.trans hf2 (by simp)
 have HZ : Hid (PS s a l X w l { X with fN := q } (w2.setCell ⟨s, 4, none⟩ (int i64 q))) := by
  have f2 : Fr [s] w2 (w2.setCell ⟨s, 4, none⟩ (int i64 q)) := Fr.setCell (S := [s]) w2 ⟨s, 4, none⟩ _ (by simp);refine PS.own (hs2.write f2 ?_ rfl rfl rfl rfl (.inl rfl)) ((HF2.out.mono (by simp)).trans f2 (fun q hq => .inl hq)) rfl (.inl rfl);rw [kAI hs2.top 4 _];rfl
 clear hf2 hs2 HC1 HS1;rcases hE with ⟨rfl, hm⟩ | ⟨rfl, hm⟩
 ·go_wp2_with fail
  go_ret
  exact ⟨rfl, .inl ⟨hm, HZ.out⟩⟩
 ·go_wp2_with fail
  go_ret
  exact ⟨rfl, .inr ⟨hm, HF2.out⟩⟩
theorem kKK (h : Spc w s a l X) (q : Int) : Calls prog 17 #[.pointer (some ⟨s, 0, none⟩), int i64 q] w fun e w' =>
  e = .returned (int i64 (if mhas X.M q = true then 0 else 20)) ∧ PO s a l X 0 false X.M (if mhas X.M q = true then q else X.fN) X.st w w' := by
 refine (kIY h q).mono ?_;rintro e w' ⟨h1, ⟨h2, h3⟩ | ⟨h2, h3⟩⟩
 ·exact ⟨h1, l, _, h3, rfl, by rw [jp h2], rfl, rfl, Old.refl _⟩
 ·refine ⟨h1, ?_⟩;rw [jn (by rw [h2]; decide)];exact PO.fK h h3
theorem kHk (h : Spc w s a l X) : Calls prog 35 #[.pointer (some ⟨s, 0, none⟩)] w fun e w' => e = .returned (int i64 (if mhas X.M X.fN = true then X.fN else 0)) ∧ Fr [] w w' := by
 have HM := kAA (kAz h);have HS := kAA h;clear h;go_enter func35, ntmps35
 go_wp2_with fail
 refine HM.out.mono ?_;rintro e w1 ⟨rfl, hf⟩;have hs1 := HS.out.fK hf;obtain ⟨c0, c1, -, -, c4, -⟩ := hs1.cells;have HC : Hid (∀ V, Hid (Fr [] w1 V) → Calls prog 53 #[.pointer (some ⟨a, 0, none⟩), int i64 X.fN] V fun e w' => ∃ c, e = .returned (.tuple #[int i64 c, int i64 (if mhas X.M X.fN = true then 0 else 20)]) ∧ Fr [] V w') := fun V hV => (kOM X.fN a l X.H X.M V (hs1.fK hV.out).rep hs1.inv).mono fun e w' ⟨h1, h2⟩ => ⟨_, h1, h2⟩
 have HCl : Hid (∀ V, Hid (Fr [] w1 V) → V.cell? ⟨s, 1, none⟩ = some (.pointer (some ⟨a, 0, none⟩)) ∧ V.cell? ⟨s, 4, none⟩ = some (int i64 X.fN)) := fun V hV => by
  obtain ⟨-, d1, -, -, d4, -⟩ := (hs1.fK hV.out).cells;exact ⟨d1, d4⟩
 have HF := kAA hf;have hR : Hid (Fr [] w1 w1) := Fr.refl _ _;clear hf HM hs1
 cases hh : mhas X.M X.fN
 case' false => simp only [hh, Bool.false_eq_true, if_false] at HC ⊢
 case' true => simp only [hh, if_true] at HC ⊢
 all_goals
  go_wp2_with fail
  go_region_held3 (fun V => V.cell? ⟨s, 1, none⟩ = some (.pointer (some ⟨a, 0, none⟩)) ∧ V.cell? ⟨s, 4, none⟩ = some (int i64 X.fN))
   (first | exact HCl.out _ (kAF hR) | exact HCl.out _ hR | exact HCl.out _ (by assumption))
   (first | (go_at_call 53; refine (HC.out _ (kAF hR)).mono ?_; rintro e w2 ⟨c, rfl, hf2⟩; have hf3 : Hid (Fr [] w1 w2) := (kAF hR).out.trans hf2 (by simp)))
  all_goals go_wp2_with fail
  all_goals
   go_ret
   exact ⟨rfl, HF.out.trans hf3.out (by simp)⟩
theorem kMZ (h : Spc w s a l X) (i : Int) : Calls prog 19 #[.pointer (some ⟨s, 0, none⟩), int i64 i] w fun e w' => e = .returned (.tuple #[int i64 (atA X.M X.fN i).1, int i64 (atA X.M X.fN i).2]) ∧ Fr [] w w' := by
 have HM := kAA (kAz h);have HS := kAA h;obtain ⟨x, hx⟩ := jxe ((atA X.M X.fN i).1);obtain ⟨y, hy⟩ := jxe ((atA X.M X.fN i).2);rw [hx, hy];clear h;go_enter func19, ntmps19
 go_wp2_with fail
 refine HM.out.mono ?_;rintro e w1 ⟨rfl, hf⟩;have hs1 := HS.out.fK hf
 have HC : Hid (∀ V, Hid (Fr [] w1 V) → Calls prog 55 #[.pointer (some ⟨a, 0, none⟩), int i64 X.fN, int i64 i] V fun e w' => e = .returned (.tuple #[int i64 x, int i64 y]) ∧ Fr [] V w') := fun V hV => by
  rw [← hx, ← hy];exact pAt X.fN i a l X.H X.M V (hs1.fK hV.out).rep hs1.inv
 have HCl : Hid (∀ V, Hid (Fr [] w1 V) → V.cell? ⟨s, 1, none⟩ = some (.pointer (some ⟨a, 0, none⟩)) ∧ V.cell? ⟨s, 4, none⟩ = some (int i64 X.fN)) := fun V hV => by
  obtain ⟨-, d1, -, -, d4, -⟩ := (hs1.fK hV.out).cells;exact ⟨d1, d4⟩
 have HF := kAA hf;have hR : Hid (Fr [] w1 w1) := Fr.refl _ _;clear hf HM hs1;clear hx hy
 go_wp2_with fail
 go_region_held3 (fun V => V.cell? ⟨s, 1, none⟩ = some (.pointer (some ⟨a, 0, none⟩)) ∧ V.cell? ⟨s, 4, none⟩ = some (int i64 X.fN))
  (first | exact HCl.out _ (kAF hR) | exact HCl.out _ hR | exact HCl.out _ (by assumption))
  (first | (go_at_call 55; refine (HC.out _ (kAF hR)).mono ?_; rintro e w2 ⟨rfl, hf2⟩; have hf3 : Hid (Fr [] w1 w2) := (kAF hR).out.trans hf2 (by simp)))
 all_goals go_wp2_with fail
 all_goals
  go_ret2
  exact ⟨rfl, HF.out.trans hf3.out (by simp)⟩
theorem kID (h : Spc w s a l X) (i v : Int) (hT : Tab w) (hT0 : 0 < w.heap.size) :
  Calls prog 15 #[.pointer (some ⟨s, 0, none⟩), int i64 i, int i64 v] w fun e w' => e = .returned (int i64 (putA X.M X.fN i v)) ∧ PO s a l X 0 false (putN X.M X.fN i v) X.fN X.st w w' := by
 have HM := kAA (kAz h);have HSp := kAA h;have HT : Hid (∀ V, Fr [] w V → Tab V) := fun V hV => hT.fr hV hT0
 obtain ⟨E, hE⟩ := jxe (putA X.M X.fN i v);rw [hE];clear h hT hT0;go_enter func15, ntmps15
 go_wp2_with fail
 refine HM.out.mono ?_;rintro e w1 ⟨rfl, hf⟩;have hs1 := HSp.out.fK hf;have HF := kAA hf
 have HCl : Hid (∀ V, Hid (Fr [] w1 V) → V.cell? ⟨s, 1, none⟩ = some (.pointer (some ⟨a, 0, none⟩)) ∧ V.cell? ⟨s, 4, none⟩ = some (int i64 X.fN)) := fun V hV => by
  obtain ⟨-, d1, -, -, d4, -⟩ := (hs1.fK hV.out).cells;exact ⟨d1, d4⟩
 have HCs : Hid (∀ V, Hid (PO s a l X 0 false (putN X.M X.fN i v) X.fN X.st w V) → V.cell? ⟨s, 1, none⟩ = some (.pointer (some ⟨a, 0, none⟩)) ∧ V.cell? ⟨s, 4, none⟩ = some (int i64 X.fN)) := fun V hV => by
  obtain ⟨l', X', h1, -, h3, -⟩ := hV.out;obtain ⟨-, d1, -, -, d4, -⟩ := h1.ok.cells;rw [h3] at d4;exact ⟨d1, d4⟩
 have HP : Hid (∀ V, Hid (Fr [] w1 V) → Calls prog 51 #[.pointer (some ⟨a, 0, none⟩), int i64 X.fN, int i64 i, int i64 v] V fun e w' => e = .returned (int i64 E) ∧ Hid (PO s a l X 0 false (putN X.M X.fN i v) X.fN X.st w w')) := fun V hV => by
  have hsV := hs1.fK hV.out;rw [← hE];refine (pPut X.fN i v a l X.H X.M V hsV.rep hsV.inv (HT.out V (HF.out.trans hV.out (by simp)))).mono ?_;rintro e w' ⟨rfl, h1⟩;exact ⟨rfl, (PO.of hsV h1 (kKO _ _ _ _)).first (HF.out.trans hV.out (by simp))⟩
 have hR : Hid (Fr [] w1 w1) := Fr.refl _ _;clear hf HM hs1;clear hE
 go_wp2_with fail
 go_region_held3 (fun V => V.cell? ⟨s, 1, none⟩ = some (.pointer (some ⟨a, 0, none⟩)) ∧ V.cell? ⟨s, 4, none⟩ = some (int i64 X.fN))
  (first | exact HCl.out _ (kAF hR) | exact HCl.out _ hR | exact HCs.out _ hg2)
  (first | (go_at_call 51; refine (HP.out _ (kAF hR)).mono ?_; rintro e w2 ⟨rfl, hg2⟩))
 all_goals go_wp2_with fail
 all_goals
  go_ret
  exact ⟨rfl, hg2.out⟩
end
end Go.Proofs.YtflgicdbbogllaaGreatDoor
