import Derived.Test.YtflgicdbbogllaaGreatDoorPG31YBl4
set_option maxHeartbeats 8000000
set_option maxRecDepth 20000
set_option linter.unusedSimpArgs false
set_option linter.unusedVariables false
namespace Go.Proofs.YtflgicdbbogllaaGreatDoor
open Go.RowKit Go.Maps Tryz
open Value (int)
open IntKind (i64)
attribute [local go_sem ↓] wp_at_zero wp_at_succ
variable {D : Option Sd} {G cg n : Nat} {S : List Nat} {V V' w : World} {vo vr : Value} {xs : List Int}
theorem rd_two (w : World) (y z : Int) : Rd (w.alloc (.cells #[int i64 y, int i64 z] 41)) (.slice (some ⟨w.heap.size, 0, none⟩) 2 2) [y, z] := by
 refine ⟨⟨some ⟨w.heap.size, 0, none⟩, 2, rfl, fun _ => ⟨w.heap.size, 0, rfl, by simp, fun i hi => ?_⟩⟩, fun c hc => (by injection hc with e; cases e), by simp⟩;have e : i = 0 ∨ i = 1 := by simp at hi; omega
 rcases e with e | e <;> (subst e; rw [kAC (heap_alloc_new w (.cells #[int i64 y, int i64 z] 41))]; rfl)
structure Gvn (w V : World) (G cg : Nat) (xs : List Int) : Prop where
 lo : w.heap.size ≤ G
 own : V.ownsRow w.heap.size 41 1 (.slice (some ⟨G, 0, none⟩) xs.length cg) xs.length (xs.map (int i64))
theorem Gvn.keep (h : Gvn w V G cg xs) (hf : Fr S V V') (hS : G ∉ S) : Gvn w V' G cg xs :=
 ⟨h.lo, kAE h.own fun g hg => hf.block g (h.own.lt g hg).2 fun hm => hS (by
  have e : G = g := by simpa [Value.ownBlock] using hg
  rw [e]; exact hm)⟩
structure Kn (w V : World) (n : Nat) (D : Option Sd) (vo vr : Value) (G cg : Nat) (xs : List Int) : Prop where
 gv : Gvn w V G cg xs
 nx : ∃ D', kBm w V n D D' ∧ G ∉ sdF D' ∧ vO D' = vo ∧ vR D' = vr
theorem Gvn.lt (h : Gvn w V G cg xs) : G < V.heap.size := (h.own.lt G rfl).2
theorem Gvn.cap (h : Gvn w V G cg xs) : xs.length ≤ cg ∧ (cg : Int) ≤ 9223372036854775807 := by
 rcases h.own.2 with ⟨h2, h3⟩ | ⟨g, cap, cur, h2, h3, h4, h5, h6, h7⟩
 ·injection h2 with e1; cases e1
 ·injection h2 with e1 e2 e3; unfold maxLen at h6; omega
theorem Gvn.rd {ys zs : List Int} (h : Gvn w V G cg (ys ++ zs)) (hl : ys.length ≤ 17592186043904) : Rd V (.slice (some ⟨G, 0, none⟩) ys.length cg) ys := kMJ h.own hl
theorem Gvn.at_ (h : Gvn w V G cg xs) (k : Nat) (hk : k < xs.length) : V.cell? ⟨G, k, none⟩ = some (int i64 (xs.getD k 0)) := kFi h.own k hk
theorem Gvn.set (h : Gvn w V G cg xs) (k : Nat) (m : Int) : Gvn w (V.setCell ⟨G, k, none⟩ (int i64 m)) G cg (xs.set k m) := by
 refine ⟨h.lo, ?_⟩;have := (h.own.stored k (int i64 m)).1;rw [← List.map_set] at this;rw [jAL];exact this
theorem kBm.fresh {w' w'' : World} {D' : Option Sd} (h : kBm w w' n D D') (hf : Fr S w' w'') (hS : ∀ g ∈ S, w.heap.size ≤ g ∧ g ∉ sdF D') : kBm w w'' n D D' :=
 ⟨h.ok.keep hf fun g hg hm => (hS g hm).2 hg, h.fr.trans hf fun g hg => .inr (hS g hg).1, h.foot, h.pO, h.pR⟩
theorem Kn.set (h : Kn w V n D vo vr G cg xs) (k : Nat) (m : Int) : Kn w (V.setCell ⟨G, k, none⟩ (int i64 m)) n D vo vr G cg (xs.set k m) := by
 obtain ⟨D', h1, h2, h3⟩ := h.nx;refine ⟨h.gv.set k m, D', h1.fresh (S := [G]) (Fr.setCell (S := [G]) _ ⟨G, k, none⟩ _ (by simp)) fun g hg => ?_, h2, h3⟩;rw [kJU hg];exact ⟨h.gv.lo, h2⟩
theorem Kn.fK (h : Kn w V n D vo vr G cg xs) (hf : Fr [] V V') : Kn w V' n D vo vr G cg xs := by
 obtain ⟨D', h1, h2⟩ := h.nx;exact ⟨h.gv.keep hf (by simp), D', h1.fresh hf (by simp), h2⟩
theorem Kn.fz (h : Kn w V n D vo vr G cg xs) (k : Nat) : V.frozen? ⟨G, k, none⟩ = false := by
 obtain ⟨cur, hcur⟩ := kAw h.gv.own rfl;exact kAD hcur k
theorem kMw (xs : List Int) (m : Int) : wipK xs m xs.length = List.replicate xs.length m := by unfold wipK; rw [List.drop_length, jAz]
theorem kNP (w : World) (n : Nat) (D : Option Sd) (ss : List Int) (p : Option Addr) (c : Nat) (again : Bool) (h : SpOk w n D) (hT : Tbs w) (hr : Rd w (.slice p ss.length c) ss) (hout : 0 < ss.length → ∀ g, (Value.slice p ss.length c).ownBlock = some g → g ∉ sdF D) (hl : ss.length ≤ 1048576) :
  Calls prog 21 #[vO D, vR D, .slice p ss.length c, .bool again] w fun e w' => e = .returned (.bool true) ∧ ∃ D', kBm w w' (n + 8) D D' := by
 obtain ⟨v1, w1, r1, o1, f1⟩ := kCi ss (.slice p ss.length c) w hr;obtain ⟨p1, c1, rfl⟩ := kAv o1;have f1a : Fr [] w (w1.alloc (.cells #[int i64 (-71), int i64 (-72)] 41)) := f1.trans (Fr.alloc [] _ _) (by simp);obtain ⟨v2, w2, r2, o2, g2, -⟩ := kCG ss [-71, -72] (.slice p1 ss.length c1) (.slice (some ⟨w1.heap.size, 0, none⟩) 2 2) (w1.alloc (.cells #[int i64 (-71), int i64 (-72)] 41)) w.heap.size (o1.alloc _) (rd_two w1 _ _) (by simp; omega) (by have := f1.size; simp; omega)
 have f2 : Fr [] w w2 := by
  refine ⟨g2.os.trans f1a.os, g2.tape.trans f1a.tape, g2.output.trans f1a.output, jAU f1a.size g2.size, fun i hi hn => ?_⟩;rw [g2.block i (jAb hi f1a.size) (fun e => ?_)]
  ·exact f1a.block i hi hn
  ·have := (o1.lt i e.symm).1;omega
 obtain ⟨G, cg, ev, -, -⟩ := o2.form (by simp);subst ev;have hG : Gvn w w2 G cg (ss ++ [-71, -72]) := ⟨(o2.lt G rfl).1, o2⟩;have hGl := hG.lt;obtain ⟨hcg, hcm⟩ := hG.cap;have hlen : (ss ++ [-71, -72] : List Int).length = ss.length + 2 := by simp
 rw [hlen] at hcg r2;have hD : ∀ g ∈ sdF D, g < w.heap.size := h.lt
 have hrd2 : ∀ W, Fr (sdF D) w2 W → Rd W (.slice p ss.length c) ss := fun W hW => (hr.fK f2).keep hW hout
 have hgn : G ∉ sdF D := fun hm => by have := hD G hm; have := hG.lo; omega
 obtain ⟨E, Q, hE, hBo⟩ := kPo w2 n D ss (some ⟨G, 0, none⟩) cg p c (h.fK f2) (hT.keep f2 (by simp)) (fun W hW => (hG.keep hW (by simp)).rd (by omega)) hrd2;have HBo := kAA hBo;have HP : Hid (∀ V, Hid (Q 0 V) → Calls prog 57 #[vO D, .slice (some ⟨G, 0, none⟩) ss.length cg] V fun e w'' => e = .returned (int i64 E) ∧ Hid (Q 1 w'')) := fun V hq => HBo.out.prog hq.out
 have HR : Hid (∀ V, Hid (Q 1 V) → Calls prog 58 #[vR D, .slice p ss.length c] V fun e w'' => e = .returned (int i64 E) ∧ Hid (Q 2 w'')) := fun V hq => HBo.out.docu hq.out
 have q0 : Hid (Q 0 w2) := HBo.out.start
 have HSm : Hid (∀ V, Hid (Q 2 V) → Calls prog 37 #[.slice (some ⟨G, 0, none⟩) ss.length cg, .slice p ss.length c] V fun e w' => e = .returned (.bool true) ∧ Hid (Fr [] V w')) := fun V hq => by
  have hf := HBo.out.frm hq.out;exact (kBw ss _ _ V ((hG.keep hf hgn).rd (by omega)) (hrd2 V hf)).mono fun e w' ⟨k1, m, k2⟩ => ⟨k1, by rw [k2]; exact Fr.drewN [] _ _⟩
 have HGv : Hid (∀ V V', Hid (Q 2 V) → Hid (Fr [] V V') → Gvn w V' G cg (ss ++ [-71, -72])) := fun V V' hq hf => (hG.keep (HBo.out.frm hq.out) hgn).keep hf.out (by simp)
 have HNx : Hid (∀ V V', Hid (Q 2 V) → Hid (Fr [] V V') → ∃ D', kBm w V' (n + 4) D D' ∧ G ∉ sdF D' ∧ vO D' = vO D ∧ vR D' = vR D) := fun V V' hq hf => by
  obtain ⟨D', hp⟩ := HBo.out.done hq.out
  have hp2 : kBm w V' (n + 4) D D' := ⟨hp.ok.fK hf.out, (((f2.mono (by simp)).trans hp.fr fun g hg => .inl hg)).trans hf.out (by simp), fun g hg => by
   rcases hp.foot g hg with e | e
   ·exact .inl e
   ·right; have := f2.size; omega, hp.pO, hp.pR⟩
  refine ⟨D', hp2, fun hm => ?_, hp.pO, hp.pR⟩;rcases hp.foot G hm with e | e
  ·exact hgn e
  ·omega
 have HR1 := kAA r1;have HR2 := kAA r2;have HTb := kAA hT;have HLo : Hid (∀ g ∈ sdF D, 2 ≤ g) := h.lo;have HGlo := kAA hG.lo;have a1 : (ss.length : Int) ≤ cg := by omega
 have a2 := ng ss.length;have a3 : (ss.length : Int) < ss.length + 2 := by omega
 have a4 : (ss.length : Int) + 1 < (ss.length : Int) + 2 := by omega
 have a5 : 0 ≤ (ss.length : Int) + 1 := by omega
 have a6 : (ss.length : Int) ≤ 1048576 := by omega
 clear h hT hr hout o1 o2 g2 f1 f1a hGl hcg hD hrd2 hBo HBo hG hgn f2 r1 r2;obtain ⟨vo, hvo⟩ := jex (vO D);obtain ⟨vr, hvr⟩ := jex (vR D);rw [← hvo] at HP HNx ⊢;rw [← hvr] at HR HNx ⊢;have HVo := kAA hvo;have HVr := kAA hvr;clear hvo hvr;go_enter func21, ntmps21
 go_wp2_with (first | (at_builtin; first | refine Lib.wpList_append_run _ rfl (.const (.slice none 0 0)) (.tmp 17) 35 35 rfl _ _ rfl rfl _ _ HR1.out ?_ | refine Lib.wpList_append_run _ rfl (.tmp 19) (.tmp 20) 35 35 rfl _ _ rfl rfl _ _ HR2.out ?_) | (go_at_call 57; refine (HP.out _ q0).mono ?_; rintro e w3 ⟨rfl, q1⟩) | (go_at_call 6; refine (kAm _ _ (by omega) (by omega)).mono ?_; rintro e w' ⟨rfl, hw'⟩; subst hw') | (go_at_call 58; refine (HR.out _ q1).mono ?_; rintro e w4 ⟨rfl, q2⟩) | (go_at_call 37; refine (HSm.out _ q2).mono ?_; rintro e w5 ⟨rfl, q5⟩; have hg5 := HGv.out _ _ q2 q5; have g1 : w5.cell? ⟨G, ss.length, none⟩ = some (int i64 (-71)) := (by rw [hg5.at_ ss.length (by simp)]; simp); have g2 : w5.cell? ⟨G, ss.length + 1, none⟩ = some (int i64 (-72)) := (by rw [hg5.at_ (ss.length + 1) (by simp)]; simp [jAA])))
 obtain ⟨xs, hxs⟩ : ∃ xs : List Int, xs = ss ++ [-71, -72] := ⟨_, rfl⟩
 have hxl : xs.length = ss.length + 2 := by rw [hxs]; simp
 have HK5 : Hid (Kn w w5 (n + 4) D vo vr G cg xs) := by
  obtain ⟨D', k1, k2, k3, k4⟩ := HNx.out _ _ q2 q5;exact ⟨by rw [hxs]; exact hg5, D', k1, k2, k3, k4⟩
 have HXl := kAA hxl;have b1 : (xs.length : Int) = (ss.length : Int) + 2 := by omega
 clear hg5 g1 g2 hxs HNx HGv HSm HP HR q0 q1 q2 q5
 go_loopw [13] (fun i wr => ∃ k : Nat, k ≤ xs.length ∧ i = int i64 k ∧ Hid (Kn w wr (n + 4) D vo vr G cg (wipK xs 3 k))) (fun i _ => xs.length - (intOf i).toNat)
 case atStart => exact ⟨0, jAH _, rfl, by unfold wipK; simpa using HK5⟩
 case round =>
  obtain ⟨k, hkn, rfl, hk⟩ := hrel;have k1 := ng k
  by_cases hlt : k < xs.length
  ·have k2 : (k : Int) < ss.length + 2 := by omega
   have hwl := kGC xs 3 k hkn;have x1 := hk.out.gv.at_ k (by omega);have z1 := hk.out.fz k
   have HK2 : Hid (Kn w (wr.setCell ⟨G, k, none⟩ (int i64 3)) (n + 4) D vo vr G cg (wipK xs 3 (k + 1))) := by
    have := hk.out.set k 3;rw [kFx xs 3 k hlt] at this;exact this
   generalize (wipK xs 3 k).getD k 0 = u at *;clear hk hwl
   go_wp2_with fail
   go_roundw
   case rel => exact ⟨k + 1, by omega, by go_num, HK2⟩
   case measure => simp [intOf]; omega
  ·have hke : k = xs.length := by omega
   subst hke;rw [kMw] at hk;have k2 : ¬ (xs.length : Int) < ss.length + 2 := by omega
   generalize wr = wo at *
   cases again with
   | false =>
    go_wp2_with fail
    go_ret
    obtain ⟨D', j1, -⟩ := hk.out.nx;exact ⟨rfl, D', ⟨j1.ok.more (by omega), j1.fr, j1.foot, j1.pO, j1.pR⟩⟩
   | true =>
    obtain ⟨ts, hts⟩ : ∃ ts : List Int, ts = List.replicate ss.length 3 := ⟨_, rfl⟩
    have htl : ts.length = ss.length := by rw [hts]; simp
    have hsp : List.replicate xs.length 3 = ts ++ [3, 3] := by rw [hts, HXl.out, ← jBN]; rfl
    rw [hsp] at hk;have hrd := hk.out.gv.rd (by omega);rw [htl] at hrd;obtain ⟨v7, w7, r7, o7, f7⟩ := kCi ts (.slice (some ⟨G, 0, none⟩) ss.length cg) wo hrd;obtain ⟨p7, c7, rfl⟩ := kAv o7;have hk7 := hk.out.fK f7;obtain ⟨D', j1, j2, j3, j4⟩ := hk7.nx;have hT7 : Tbs w7 := HTb.out.keep j1.fr HLo.out;obtain ⟨E2, Q2, hE2, hB2⟩ := kNf w7 (n + 4) D' ts (some ⟨G, 0, none⟩) cg p7 c7 j1.ok hT7 (fun W hW => (hk7.gv.keep hW j2).rd (by omega)) (fun W hW => kCC (kAE o7 fun g hg => hW.block g (o7.lt g hg).2 (by simp)) (by omega));rw [j3, j4, htl] at hB2;have HB2 := kAA hB2;have HR7 : Hid ((Builtin.append_ #[35, 35] 35 #[.slice none 0 0, .slice (some ⟨G, 0, none⟩) ss.length cg]).run prog wo = .ok (.slice p7 ss.length c7) w7) := by rw [← htl] at r7 ⊢; exact r7
    have HP2 : Hid (∀ V, Hid (Q2 0 V) → Calls prog 58 #[vr, .slice p7 ss.length c7] V fun e w'' => e = .returned (int i64 E2) ∧ Hid (Q2 1 w'')) := fun V hq => HB2.out.prog hq.out
    have HR2 : Hid (∀ V, Hid (Q2 1 V) → Calls prog 57 #[vo, .slice (some ⟨G, 0, none⟩) ss.length cg] V fun e w'' => e = .returned (int i64 E2) ∧ Hid (Q2 2 w'')) := fun V hq => HB2.out.docu hq.out
    have q0 : Hid (Q2 0 w7) := HB2.out.start
    have HK8 : Hid (∀ V, Hid (Q2 2 V) → Kn w V (n + 8) D vo vr G cg (ts ++ [3, 3])) := fun V hq => by
     obtain ⟨D2, hp⟩ := HB2.out.done hq.out;have h7 := hk7.gv.lt;refine ⟨hk7.gv.keep (HB2.out.frm hq.out) j2, D2, j1.trans hp, fun hm => ?_, hp.pO.trans j3, hp.pR.trans j4⟩;rcases hp.foot G hm with e | e
     ·exact j2 e
     ·omega
    have b3 : ((ts ++ [3, 3] : List Int).length : Int) = (ss.length : Int) + 2 := by rw [jAG, htl]; simp
    have b4 : (ts ++ [3, 3] : List Int).length = ss.length + 2 := by rw [jAG, htl]; simp
    generalize (ts ++ [3, 3] : List Int) = us at *;clear hk hrd r7 o7 f7 hk7 j1 j2 j3 j4 hT7 hB2 HB2 hts htl hsp HK5
    go_wp2_with (first | (at_builtin; refine Lib.wpList_append_run _ rfl (.const (.slice none 0 0)) (.tmp 72) 35 35 rfl _ _ rfl rfl _ _ HR7.out ?_) | (go_at_call 58; refine (HP2.out _ q0).mono ?_; rintro e w8 ⟨rfl, q1⟩) | (go_at_call 57; refine (HR2.out _ q1).mono ?_; rintro e w9 ⟨rfl, q2⟩) | (go_at_call 6; refine (kAm _ _ (by omega) (by omega)).mono ?_; rintro e w' ⟨rfl, hw'⟩; subst hw'))
    have HK9 := kAA (HK8.out _ q2);clear HK8 q0 q1 q2 HP2 HR2 HR7
    go_loopw [16] (fun i wr => ∃ k : Nat, k ≤ us.length ∧ i = int i64 k ∧ Hid (Kn w wr (n + 8) D vo vr G cg (wipK us 5 k))) (fun i _ => us.length - (intOf i).toNat)
    case atStart => exact ⟨0, jAH _, rfl, by unfold wipK; simpa using HK9⟩
    case round =>
     obtain ⟨k, hkn, rfl, hk⟩ := hrel;have k1 := ng k
     by_cases hlt : k < us.length
     ·have k2 : (k : Int) < ss.length + 2 := by omega
      have hwl := kGC us 5 k hkn;have x1 := hk.out.gv.at_ k (by omega);have z1 := hk.out.fz k
      have HK2 : Hid (Kn w (wr.setCell ⟨G, k, none⟩ (int i64 5)) (n + 8) D vo vr G cg (wipK us 5 (k + 1))) := by
       have := hk.out.set k 5;rw [kFx us 5 k hlt] at this;exact this
      generalize (wipK us 5 k).getD k 0 = u at *;clear hk hwl
      go_wp2_with fail
      go_roundw
      case rel => exact ⟨k + 1, by omega, by go_num, HK2⟩
      case measure => simp [intOf]; omega
     ·have hke : k = us.length := by omega
      subst hke;have k2 : ¬ (us.length : Int) < ss.length + 2 := by omega
      go_wp2_with fail
      go_ret
      obtain ⟨D', j1, -⟩ := hk.out.nx;exact ⟨rfl, D', j1⟩
end Go.Proofs.YtflgicdbbogllaaGreatDoor
