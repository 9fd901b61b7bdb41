import Derived.Test.YtfhkhmgodkheaaaGreatDoorQCG05PAhead
import Derived.WalkSmall
import Derived.Shelf.LaysM
import Derived.Shelf.Strconv.Itoa3
import Derived.Test.YtfhkhmgodkheaaaGreatDoorChecked
import Derived.Lib.Replace
import Derived.Lib.CountLaws
set_option linter.unusedSimpArgs false
set_option linter.unusedVariables false
set_option maxRecDepth 1000000
set_option maxHeartbeats 16000000
namespace Go.Proofs.YtfhkhmgodkheaaaGreatDoor
open Go.RowKit Go.Maps
theorem za {w w':World} {P:Nat} (b:Bl w w'):Fr [P] w w':=Fr.ofBl b [P]
theorem qu {a b c:World} {P:Nat} (h:Fr [P] a b) (k:Fr [P] b c):Fr [P] a c:=h.trans k (fun x hx=>Or.inl hx)
theorem most_ok (P g c:Nat) (ts:Ts) (s:Ps) (x:Tok × Nat) (n:Nat) (w:World) (h:Pr w P g c ts s) (h1:s.place≤8192) (hx:x.1.text.length≤8192) (hn:n≤256):Calls Tryz.prog 139 #[.pointer (some ⟨P,0,none⟩),tkv x,.int .i64 n] w fun e w'=>e=.returned (.tuple #[])∧Pr w' P g c ts (jM x n s)∧Fr [P] w w':=by
 obtain ⟨⟨tk,tt,tn⟩,tp⟩:=x
 have hbs:(ba tt).size=tt.length:=by rw [← qo,qJ]
 have HPs:=qd (fun V (b:Bl w V)=>pass_ok P g c ts s 73 tp V (h.keep b) h1)
 have HK:=qd (fun V (b:Bl w V)=>h.keep b)
 by_cases hl:n < tt.length
 ·have HM:Hid (jM (⟨tk,tt,tn⟩,tp) n s=qR 73 tp s):=qd (if_pos hl)
  have hli:(n:Int) < (ba tt).size:=by omega
  clear h hl;unfold tkv
  go_enter Tryz.func139,Tryz.ntmps139
  go_wp2_with (go_at_call 116; refine (HPs.out _ (Bl.alloc _ _)).mono ?_; rintro e w1 ⟨rfl,p1,f1⟩)
  go_end0
  exact ⟨rfl,by rw [HM.out]; exact p1,qu (za (Bl.alloc _ _)) f1⟩
 ·have HM:Hid (jM (⟨tk,tt,tn⟩,tp) n s=s):=qd (if_neg hl)
  have hli:¬ (n:Int) < (ba tt).size:=by omega
  clear h hl;unfold tkv
  go_enter Tryz.func139,Tryz.ntmps139
  go_wp2_with fail
  go_end0
  exact ⟨rfl,by rw [HM.out]; exact HK.out _ (Bl.alloc _ _),za (Bl.alloc _ _)⟩
theorem bound_ok (P g c:Nat) (ts:Ts) (s:Ps) (x:Tok × Nat) (w:World) (h:Pr w P g c ts s) (h1:s.place≤8192) (hx:x.1.text.length≤8192) (ho1:-8192≤s.opn) (ho2:s.opn≤8192):Calls Tryz.prog 113 #[.pointer (some ⟨P,0,none⟩),tkv x] w fun e w'=>e=.returned (.tuple #[])∧Pr w' P g c ts (qW x s)∧Fr [P] w w':=by
 have HMo:=qd (fun n (hn:n≤256) V (b:Bl w V)=>most_ok P g c ts s x n V (h.keep b) h1 hx hn)
 have HPs:=qd (fun V (b:Bl w V)=>pass_ok P g c ts s 72 x.2 V (h.keep b) h1)
 have HK:=qd (fun V (b:Bl w V)=>h.keep b)
 have HW:Hid (∀ V t o,Pr V P g c ts t→Pr (V.setCell ⟨P,2,none⟩ (.int .i64 o)) P g c ts { t with opn:=o }∧Fr [P] V (V.setCell ⟨P,2,none⟩ (.int .i64 o))):=qd fun V t o hV=>by
  have f:Fr [P] V (V.setCell ⟨P,2,none⟩ (.int .i64 o)):=Fr.setCell V _ _ (by simp)
  exact ⟨hV.write f (by rw [zc hV.par 2 _]; rfl),f⟩
 obtain ⟨⟨tk,tt,tn⟩,tp⟩:=x
 obtain ⟨W,hW⟩:∃ W,W=w.alloc (.cells #[.int .i64 tk,.string (ba tt),.int .i64 tn,.int .i64 tp] 54):=⟨_,rfl⟩
 have HBW:Hid (Bl w W):=by rw [hW]; exact Bl.alloc _ _
 obtain ⟨a0,a1,a2,a3,a4⟩:=(h.keep HBW.out).cells
 have f2:=qK (h.keep HBW.out).par 2
 have hr:W.heap[w.heap.size]?=some (.cells #[.int .i64 tk,.string (ba tt),.int .i64 tn,.int .i64 tp] 54 (0,0)):=by rw [hW]; exact heap_alloc_new w _
 have r0:W.cell? ⟨w.heap.size,0,none⟩=some (.int .i64 tk):=by rw [qh hr]; rfl
 have r1:W.cell? ⟨w.heap.size,1,none⟩=some (.string (ba tt)):=by rw [qh hr]; rfl
 have r2:W.cell? ⟨w.heap.size,2,none⟩=some (.int .i64 tn):=by rw [qh hr]; rfl
 have r3:W.cell? ⟨w.heap.size,3,none⟩=some (.int .i64 tp):=by rw [qh hr]; rfl
 have hlt:=h.lt
 clear hr h
 unfold tkv at *
 by_cases k1:tk=1
 ·have q1:((tk:Int) == 1)=true:=beq_iff_eq.2 (by omega)
  have HE:Hid (qW (⟨tk,tt,tn⟩,tp) s=jM (⟨tk,tt,tn⟩,tp) 32 s):=qd (by unfold qW; simp [k1])
  have HM:=qd (HMo.out 32 (by omega) W HBW.out)
  clear HMo k1
  go_enter Tryz.func113,Tryz.ntmps113
  go_wp2_with (go_at_call 139; fail)
  rw [← hW];clear hW
  go_wp2_with (go_at_call 139; refine HM.out.mono ?_; rintro e w1 ⟨rfl,p1,f1⟩)
  go_end0
  exact ⟨rfl,by rw [HE.out]; exact p1,qu (za HBW.out) f1⟩
 by_cases k2:tk=2
 ·have q1:((tk:Int) == 1)=false:=beq_eq_false_iff_ne.2 (by omega)
  have q2:((tk:Int) == 2)=true:=beq_iff_eq.2 (by omega)
  have HE:Hid (qW (⟨tk,tt,tn⟩,tp) s=jM (⟨tk,tt,tn⟩,tp) 32 s):=qd (by unfold qW; simp [k2])
  have HM:=qd (HMo.out 32 (by omega) W HBW.out)
  clear HMo k2
  go_enter Tryz.func113,Tryz.ntmps113
  go_wp2_with (go_at_call 139; fail)
  rw [← hW];clear hW
  go_wp2_with (go_at_call 139; refine HM.out.mono ?_; rintro e w1 ⟨rfl,p1,f1⟩)
  go_end0
  exact ⟨rfl,by rw [HE.out]; exact p1,qu (za HBW.out) f1⟩
 by_cases k5:tk=5
 ·have q1:((tk:Int) == 1)=false:=beq_eq_false_iff_ne.2 (by omega)
  have q2:((tk:Int) == 2)=false:=beq_eq_false_iff_ne.2 (by omega)
  have q5:((tk:Int) == 5)=true:=beq_iff_eq.2 (by omega)
  have HE:Hid (qW (⟨tk,tt,tn⟩,tp) s=jM (⟨tk,tt,tn⟩,tp) 96 s):=qd (by unfold qW; simp [k5])
  have HM:=qd (HMo.out 96 (by omega) W HBW.out)
  clear HMo k5
  go_enter Tryz.func113,Tryz.ntmps113
  go_wp2_with (go_at_call 139; fail)
  rw [← hW];clear hW
  go_wp2_with (go_at_call 139; refine HM.out.mono ?_; rintro e w1 ⟨rfl,p1,f1⟩)
  go_end0
  exact ⟨rfl,by rw [HE.out]; exact p1,qu (za HBW.out) f1⟩
 by_cases k6:tk=6
 ·have q1:((tk:Int) == 1)=false:=beq_eq_false_iff_ne.2 (by omega)
  have q2:((tk:Int) == 2)=false:=beq_eq_false_iff_ne.2 (by omega)
  have q5:((tk:Int) == 5)=false:=beq_eq_false_iff_ne.2 (by omega)
  have q6:((tk:Int) == 6)=true:=beq_iff_eq.2 (by omega)
  have HE:Hid (qW (⟨tk,tt,tn⟩,tp) s=jM (⟨tk,tt,tn⟩,tp) 256 s):=qd (by unfold qW; simp [k6])
  have HM:=qd (HMo.out 256 (by omega) W HBW.out)
  clear HMo k6
  go_enter Tryz.func113,Tryz.ntmps113
  go_wp2_with (go_at_call 139; fail)
  rw [← hW];clear hW
  go_wp2_with (go_at_call 139; refine HM.out.mono ?_; rintro e w1 ⟨rfl,p1,f1⟩)
  go_end0
  exact ⟨rfl,by rw [HE.out]; exact p1,qu (za HBW.out) f1⟩
 by_cases k8:tk=8
 ·have q1:((tk:Int) == 1)=false:=beq_eq_false_iff_ne.2 (by omega)
  have q2:((tk:Int) == 2)=false:=beq_eq_false_iff_ne.2 (by omega)
  have q5:((tk:Int) == 5)=false:=beq_eq_false_iff_ne.2 (by omega)
  have q6:((tk:Int) == 6)=false:=beq_eq_false_iff_ne.2 (by omega)
  have q8:((tk:Int) == 8)=true:=beq_iff_eq.2 (by omega)
  have HE:Hid (qW (⟨tk,tt,tn⟩,tp) s={ (if 24≤s.opn then qR 72 tp s else s) with opn:=s.opn+1 }):=qd (by unfold qW; simp [k8])
  have HP:=qd (HPs.out W HBW.out);clear HMo k8
  by_cases h24:24≤s.opn
  ·have HE2:Hid (qW (⟨tk,tt,tn⟩,tp) s={ qR 72 tp s with opn:=s.opn+1 }):=by unfold Hid; rw [HE.out,if_pos h24]
   have HO:Hid ((qR 72 tp s).opn=s.opn):=qd (by unfold qR; split <;> rfl)
   rw [hW] at a0 a1 a2 a3 a4 f2 r0 r1 r2 r3 HP HBW;clear hW HPs HK
   go_enter Tryz.func113,Tryz.ntmps113
   go_wp2_with (go_at_call 116; refine HP.out.mono ?_; rintro e w1 ⟨rfl,p1,f1⟩; obtain ⟨b0,b1,b2,b3,b4⟩:=p1.cells; rw [HO.out] at b2; have g2:=qK p1.par 2; have P1:=qd p1; have F1:=qd f1; clear p1 f1)
   go_end0
   obtain ⟨z1,z2⟩:=HW.out _ _ (s.opn+1) P1.out;exact ⟨rfl,by rw [HE2.out]; exact z1,qu (qu (za HBW.out) F1.out) z2⟩
  ·have HE2:Hid (qW (⟨tk,tt,tn⟩,tp) s={ s with opn:=s.opn+1 }):=by unfold Hid; rw [HE.out,if_neg h24]
   have HZ:=qd (HW.out w s (s.opn+1) (HK.out w (Bl.refl _)));rw [hW] at a0 a1 a2 a3 a4 f2 r0 r1 r2 r3 HBW;clear hW HP HPs HK HW
   go_enter Tryz.func113,Tryz.ntmps113
   go_wp2_with fail
   go_end0
   exact ⟨rfl,by rw [HE2.out]; exact HZ.out.1.keep (Bl.alloc _ _),qu HZ.out.2 (za (Bl.alloc _ _))⟩
 by_cases k10:tk=10
 ·have q1:((tk:Int) == 1)=false:=beq_eq_false_iff_ne.2 (by omega)
  have q2:((tk:Int) == 2)=false:=beq_eq_false_iff_ne.2 (by omega)
  have q5:((tk:Int) == 5)=false:=beq_eq_false_iff_ne.2 (by omega)
  have q6:((tk:Int) == 6)=false:=beq_eq_false_iff_ne.2 (by omega)
  have q8:((tk:Int) == 8)=false:=beq_eq_false_iff_ne.2 (by omega)
  have q10:((tk:Int) == 10)=true:=beq_iff_eq.2 (by omega)
  have HE:Hid (qW (⟨tk,tt,tn⟩,tp) s={ (if 24≤s.opn then qR 72 tp s else s) with opn:=s.opn+1 }):=qd (by unfold qW; simp [k10])
  have HP:=qd (HPs.out W HBW.out);clear HMo k10
  by_cases h24:24≤s.opn
  ·have HE2:Hid (qW (⟨tk,tt,tn⟩,tp) s={ qR 72 tp s with opn:=s.opn+1 }):=by unfold Hid; rw [HE.out,if_pos h24]
   have HO:Hid ((qR 72 tp s).opn=s.opn):=qd (by unfold qR; split <;> rfl)
   rw [hW] at a0 a1 a2 a3 a4 f2 r0 r1 r2 r3 HP HBW;clear hW HPs HK
   go_enter Tryz.func113,Tryz.ntmps113
   go_wp2_with (go_at_call 116; refine HP.out.mono ?_; rintro e w1 ⟨rfl,p1,f1⟩; obtain ⟨b0,b1,b2,b3,b4⟩:=p1.cells; rw [HO.out] at b2; have g2:=qK p1.par 2; have P1:=qd p1; have F1:=qd f1; clear p1 f1)
   go_end0
   obtain ⟨z1,z2⟩:=HW.out _ _ (s.opn+1) P1.out;exact ⟨rfl,by rw [HE2.out]; exact z1,qu (qu (za HBW.out) F1.out) z2⟩
  ·have HE2:Hid (qW (⟨tk,tt,tn⟩,tp) s={ s with opn:=s.opn+1 }):=by unfold Hid; rw [HE.out,if_neg h24]
   have HZ:=qd (HW.out w s (s.opn+1) (HK.out w (Bl.refl _)));rw [hW] at a0 a1 a2 a3 a4 f2 r0 r1 r2 r3 HBW;clear hW HP HPs HK HW
   go_enter Tryz.func113,Tryz.ntmps113
   go_wp2_with fail
   go_end0
   exact ⟨rfl,by rw [HE2.out]; exact HZ.out.1.keep (Bl.alloc _ _),qu HZ.out.2 (za (Bl.alloc _ _))⟩
 by_cases k7:tk=7
 ·have q1:((tk:Int) == 1)=false:=beq_eq_false_iff_ne.2 (by omega)
  have q2:((tk:Int) == 2)=false:=beq_eq_false_iff_ne.2 (by omega)
  have q5:((tk:Int) == 5)=false:=beq_eq_false_iff_ne.2 (by omega)
  have q6:((tk:Int) == 6)=false:=beq_eq_false_iff_ne.2 (by omega)
  have q8:((tk:Int) == 8)=false:=beq_eq_false_iff_ne.2 (by omega)
  have q10:((tk:Int) == 10)=false:=beq_eq_false_iff_ne.2 (by omega)
  have q7:((tk:Int) == 7)=true:=beq_iff_eq.2 (by omega)
  have HE:Hid (qW (⟨tk,tt,tn⟩,tp) s={ (if 24≤s.opn then qR 72 tp s else s) with opn:=s.opn+1 }):=qd (by unfold qW; simp [k7])
  have HP:=qd (HPs.out W HBW.out);clear HMo k7
  by_cases h24:24≤s.opn
  ·have HE2:Hid (qW (⟨tk,tt,tn⟩,tp) s={ qR 72 tp s with opn:=s.opn+1 }):=by unfold Hid; rw [HE.out,if_pos h24]
   have HO:Hid ((qR 72 tp s).opn=s.opn):=qd (by unfold qR; split <;> rfl)
   rw [hW] at a0 a1 a2 a3 a4 f2 r0 r1 r2 r3 HP HBW;clear hW HPs HK
   go_enter Tryz.func113,Tryz.ntmps113
   go_wp2_with (go_at_call 116; refine HP.out.mono ?_; rintro e w1 ⟨rfl,p1,f1⟩; obtain ⟨b0,b1,b2,b3,b4⟩:=p1.cells; rw [HO.out] at b2; have g2:=qK p1.par 2; have P1:=qd p1; have F1:=qd f1; clear p1 f1)
   go_end0
   obtain ⟨z1,z2⟩:=HW.out _ _ (s.opn+1) P1.out;exact ⟨rfl,by rw [HE2.out]; exact z1,qu (qu (za HBW.out) F1.out) z2⟩
  ·have HE2:Hid (qW (⟨tk,tt,tn⟩,tp) s={ s with opn:=s.opn+1 }):=by unfold Hid; rw [HE.out,if_neg h24]
   have HZ:=qd (HW.out w s (s.opn+1) (HK.out w (Bl.refl _)));rw [hW] at a0 a1 a2 a3 a4 f2 r0 r1 r2 r3 HBW;clear hW HP HPs HK HW
   go_enter Tryz.func113,Tryz.ntmps113
   go_wp2_with fail
   go_end0
   exact ⟨rfl,by rw [HE2.out]; exact HZ.out.1.keep (Bl.alloc _ _),qu HZ.out.2 (za (Bl.alloc _ _))⟩
 by_cases k9:tk=9
 ·have q1:((tk:Int) == 1)=false:=beq_eq_false_iff_ne.2 (by omega)
  have q2:((tk:Int) == 2)=false:=beq_eq_false_iff_ne.2 (by omega)
  have q5:((tk:Int) == 5)=false:=beq_eq_false_iff_ne.2 (by omega)
  have q6:((tk:Int) == 6)=false:=beq_eq_false_iff_ne.2 (by omega)
  have q8:((tk:Int) == 8)=false:=beq_eq_false_iff_ne.2 (by omega)
  have q10:((tk:Int) == 10)=false:=beq_eq_false_iff_ne.2 (by omega)
  have q7:((tk:Int) == 7)=false:=beq_eq_false_iff_ne.2 (by omega)
  have q9:((tk:Int) == 9)=true:=beq_iff_eq.2 (by omega)
  have HE:Hid (qW (⟨tk,tt,tn⟩,tp) s={ s with opn:=s.opn - 1 }):=qd (by unfold qW; simp [k9])
  have HZ:=qd (HW.out w s (s.opn - 1) (HK.out w (Bl.refl _)));rw [hW] at a0 a1 a2 a3 a4 f2 r0 r1 r2 r3 HBW;clear HMo k9 hW HPs HK HW
  go_enter Tryz.func113,Tryz.ntmps113
  go_wp2_with fail
  go_end0
  exact ⟨rfl,by rw [HE.out]; exact HZ.out.1.keep (Bl.alloc _ _),qu HZ.out.2 (za (Bl.alloc _ _))⟩
 by_cases k11:tk=11
 ·have q1:((tk:Int) == 1)=false:=beq_eq_false_iff_ne.2 (by omega)
  have q2:((tk:Int) == 2)=false:=beq_eq_false_iff_ne.2 (by omega)
  have q5:((tk:Int) == 5)=false:=beq_eq_false_iff_ne.2 (by omega)
  have q6:((tk:Int) == 6)=false:=beq_eq_false_iff_ne.2 (by omega)
  have q8:((tk:Int) == 8)=false:=beq_eq_false_iff_ne.2 (by omega)
  have q10:((tk:Int) == 10)=false:=beq_eq_false_iff_ne.2 (by omega)
  have q7:((tk:Int) == 7)=false:=beq_eq_false_iff_ne.2 (by omega)
  have q9:((tk:Int) == 9)=false:=beq_eq_false_iff_ne.2 (by omega)
  have q11:((tk:Int) == 11)=true:=beq_iff_eq.2 (by omega)
  have HE:Hid (qW (⟨tk,tt,tn⟩,tp) s={ s with opn:=s.opn - 1 }):=qd (by unfold qW; simp [k11])
  have HZ:=qd (HW.out w s (s.opn - 1) (HK.out w (Bl.refl _)));rw [hW] at a0 a1 a2 a3 a4 f2 r0 r1 r2 r3 HBW;clear HMo k11 hW HPs HK HW
  go_enter Tryz.func113,Tryz.ntmps113
  go_wp2_with fail
  go_end0
  exact ⟨rfl,by rw [HE.out]; exact HZ.out.1.keep (Bl.alloc _ _),qu HZ.out.2 (za (Bl.alloc _ _))⟩
 have HE:Hid (qW (⟨tk,tt,tn⟩,tp) s=s):=qd (by unfold qW; simp [k1,k2,k5,k6,k8,k10,k7,k9,k11])
 have q1:((tk:Int) == 1)=false:=beq_eq_false_iff_ne.2 (by omega)
 have q2:((tk:Int) == 2)=false:=beq_eq_false_iff_ne.2 (by omega)
 have q5:((tk:Int) == 5)=false:=beq_eq_false_iff_ne.2 (by omega)
 have q6:((tk:Int) == 6)=false:=beq_eq_false_iff_ne.2 (by omega)
 have q8:((tk:Int) == 8)=false:=beq_eq_false_iff_ne.2 (by omega)
 have q10:((tk:Int) == 10)=false:=beq_eq_false_iff_ne.2 (by omega)
 have q7:((tk:Int) == 7)=false:=beq_eq_false_iff_ne.2 (by omega)
 have q9:((tk:Int) == 9)=false:=beq_eq_false_iff_ne.2 (by omega)
 have q11:((tk:Int) == 11)=false:=beq_eq_false_iff_ne.2 (by omega)
 have HZ:=qd (HK.out _ HBW.out)
 rw [hW] at a0 a1 a2 a3 a4 f2 r0 r1 r2 r3 HBW HZ
 clear HMo k1 k2 k5 k6 k8 k10 k7 k9 k11 hW HPs HK HW
 go_enter Tryz.func113,Tryz.ntmps113
 go_wp2_with fail
 go_end0
 exact ⟨rfl,by rw [HE.out]; exact HZ.out,za HBW.out⟩
structure Okp (ts:Ts) (s:Ps):Prop where
 len:ts.length≤4097
 txt:∀ x∈ts,x.1.text.length≤4096∧x.2≤4096
 place:s.place≤4096
 lo:-(s.pos:Int)≤s.opn
 hi:s.opn≤s.pos
 pos:s.pos≤ts.length
theorem hdT_mem {ts:Ts} {s:Ps} (h:s.pos < ts.length):hdT ts s∈ts:=by
 unfold hdT
 rw [List.getD_eq_getElem?_getD,List.getElem?_eq_getElem h]
 exact List.getElem_mem h
theorem jD {c p:Nat} {s:Ps} (h:s.place≤4096) (hp:p≤4096):(qR c p s).place≤4096∧(qR c p s).opn=s.opn∧(qR c p s).pos=s.pos:=by
 unfold qR
 split
 ·exact ⟨hp,rfl,rfl⟩
 ·exact ⟨h,rfl,rfl⟩
theorem boundP_ok {x:Tok × Nat} {s:Ps} (h:s.place≤4096) (hp:x.2≤4096):(qW x s).place≤4096∧(qW x s).pos=s.pos∧s.opn - 1≤(qW x s).opn∧(qW x s).opn≤s.opn+1:=by
 have hm:∀ n,(jM x n s).place≤4096∧(jM x n s).opn=s.opn∧(jM x n s).pos=s.pos:=fun n=>by
  unfold jM
  split
  ·exact jD h hp
  ·exact ⟨h,rfl,rfl⟩
 unfold qW
 split
 ·obtain ⟨a,b,c⟩:=hm 32; exact ⟨a,c,by omega,by omega⟩
 split
 ·obtain ⟨a,b,c⟩:=hm 96; exact ⟨a,c,by omega,by omega⟩
 split
 ·obtain ⟨a,b,c⟩:=hm 256; exact ⟨a,c,by omega,by omega⟩
 split
 ·by_cases h24:24≤s.opn
  ·rw [if_pos h24]
   obtain ⟨a,b,c⟩:=jD (c:=72) h hp;exact ⟨a,c,by show s.opn - 1≤s.opn+1; omega,Int.le_refl _⟩
  ·rw [if_neg h24]
   exact ⟨h,rfl,by show s.opn - 1≤s.opn+1; omega,Int.le_refl _⟩
 split
 ·exact ⟨h,rfl,Int.le_refl _,by show s.opn - 1≤s.opn+1; omega⟩
 ·exact ⟨h,rfl,by omega,by omega⟩
theorem Okp.take {ts:Ts} {s:Ps} (h:Okp ts s) (hp:s.pos < ts.length):Okp ts (qj ts s):=by
 obtain ⟨a,b,c,d⟩:=boundP_ok (x:=hdT ts s) h.place (h.txt _ (hdT_mem hp)).2
 have h1:=h.lo
 have h2:=h.hi
 exact ⟨h.len,h.txt,a,by show -((s.pos+1:Nat):Int)≤(qW (hdT ts s) s).opn; omega,by show (qW (hdT ts s) s).opn≤((s.pos+1:Nat):Int); omega,hp⟩
theorem field54 (a b c d:Value) (W:World):(Instr.field 54 (.agg #[a,b,c,d]) 0).run Tryz.prog W=.ok a W:=by
 kernel_rfl
theorem Pr.other {w w':World} {P g c:Nat} {ts:Ts} {s:Ps} {S:List Nat} (h:Pr w P g c ts s) (f:Fr S w w') (hP:P ∉ S) (hg:g ∉ S):Pr w' P g c ts s:=by
 refine ⟨(f.block P h.lt hP).trans h.par,?_,h.ne⟩
 obtain ⟨p,c',e,hq⟩:=h.toks.at_
 refine ⟨p,c',e,fun h0=>?_⟩
 obtain ⟨b,off,e4,hb,hc⟩:=hq h0
 injection e with e1 e2 e3
 have hbg:b=g:=by
  rw [← e1] at e4;injection e4 with e4
  injection e4 with e5
  exact e5.symm
 refine ⟨b,off,e4,Nat.lt_of_lt_of_le hb f.size,fun j hj=>?_⟩
 have e:∀ i,w'.cell? ⟨b,i,none⟩=w.cell? ⟨b,i,none⟩:=fun i=>World.cell?_of_block (w:=w) (f.block b hb (by rw [hbg]; exact hg))
 rw [e,e,e,e]
 exact hc j hj
theorem Pr.glt {w:World} {P g c:Nat} {ts:Ts} {s:Ps} (h:Pr w P g c ts s) (hp:0 < ts.length):g < w.heap.size:=by
 obtain ⟨p,c',e,hq⟩:=h.toks.at_
 obtain ⟨b,off,e4,hb,hc⟩:=hq hp
 injection e with e1
 rw [← e1] at e4
 injection e4 with e4
 injection e4 with e5
 rw [e5]; exact hb
theorem four_fr {W:World} {B:Nat} (a b c d:Value):Fr [B] W ((((W.setCell ⟨B,0,none⟩ a).setCell ⟨B,1,none⟩ b).setCell ⟨B,2,none⟩ c).setCell ⟨B,3,none⟩ d):=by
 have k:∀ (V:World) (j:Nat) (u:Value),Fr [B] W V→Fr [B] W (V.setCell ⟨B,j,none⟩ u):=fun V j u h=>h.trans (Fr.setCell V _ _ (by simp)) (fun b hb=>Or.inl hb)
 exact k _ _ _ (k _ _ _ (k _ _ _ (k _ _ _ (Fr.refl _ _))))
theorem je (P g c:Nat) (ts:Ts) (s:Ps) (k:Nat) (w:World) (h:Pr w P g c ts s) (ho:Okp ts s) (hp:s.pos < ts.length):Calls Tryz.prog 83 #[.pointer (some ⟨P,0,none⟩),.int .i64 k] w fun e w'=>e=.returned (.bool (qi ts k s))∧Bl w w':=by
 have HA:=qd (zI P g c ts s w h hp (by have:=ho.len; omega))
 have key:qi ts k s=(((hdT ts s).1.kind:Int) == (k:Int)):=by
  unfold qi;rw [Bool.eq_iff_iff,decide_eq_true_eq,beq_iff_eq];omega
 rw [key]
 unfold tkv at HA
 generalize hdT ts s=x at *
 obtain ⟨⟨tk,tt,tn⟩,tp⟩:=x
 dsimp only at *
 clear h ho hp key
 go_enter Tryz.func83,Tryz.ntmps83
 have hfd:=fun W=>field54 (.int .i64 tk) (.string (ba tt)) (.int .i64 tn) (.int .i64 tp) W
 go_wp2_with (go_at_call 54; refine HA.out.mono ?_; rintro e w1 ⟨rfl,b1⟩)
 go_ret
 exact ⟨rfl,b1⟩
theorem ret54g {f:Func} {V:World} {B p:Nat} {tm:Array Value} {k n a:Nat} {t:Bs} {R:Ending→World→Prop} (hres:f.results=#[.cell p 54]) (hVb:V.heap[B]?=some (.cells #[.int .i64 k,.string (ba t),.int .i64 n,.int .i64 a] 54 (0,0)))
  (h2:tm.getD p undef=.pointer (some ⟨B,0,none⟩)) (hR:R (.returned (.agg #[.int .i64 k,.string (ba t),.int .i64 n,.int .i64 a])) V):bodyPost Tryz.prog f R .ret ⟨tm,[]⟩ V:=by
 have x0:V.cell? ⟨B,0,none⟩=some (.int .i64 k):=by rw [qh hVb]; rfl
 have x1:V.cell? ⟨B,1,none⟩=some (.string (ba t)):=by rw [qh hVb]; rfl
 have x2:V.cell? ⟨B,2,none⟩=some (.int .i64 n):=by rw [qh hVb]; rfl
 have x3:V.cell? ⟨B,3,none⟩=some (.int .i64 a):=by rw [qh hVb]; rfl
 have h2':tm[p]?.getD undef=.pointer (some ⟨B,0,none⟩):=by simpa using h2
 refine bodyPost_ret (v:=.agg #[.int .i64 k,.string (ba t),.int .i64 n,.int .i64 a]) (by simp [results,hres,go_sem,h2,h2',x0,x1,x2,x3]) rfl hR
theorem zY (P g c:Nat) (ts:Ts) (s:Ps) (w:World) (h:Pr w P g c ts s) (ho:Okp ts s) (hp:s.pos < ts.length):Calls Tryz.prog 80 #[.pointer (some ⟨P,0,none⟩)] w fun e w'=>e=.returned (tkv (hdT ts s))∧Pr w' P g c ts (qj ts s)∧Fr [P] w w':=by
 have hlen:=ho.len
 obtain ⟨ht1,ht2⟩:=ho.txt _ (hdT_mem hp)
 have hop1:=ho.lo
 have hop2:=ho.hi
 have hpl:=ho.place
 obtain ⟨_,hbp,_⟩:=boundP_ok (x:=hdT ts s) ho.place ht2
 have HA:=qd (fun V (b:Bl w V)=>zI P g c ts s V (h.keep b) hp (by omega))
 have HBd:=qd (fun V (b:Bl w V)=>bound_ok P g c ts s (hdT ts s) V (h.keep b) (by omega) (by omega) (by omega) (by omega))
 have HT:Hid (∀ V,Pr V P g c ts (qW (hdT ts s) s)→Pr (V.setCell ⟨P,1,none⟩ (.int .i64 ((s.pos:Int)+1))) P g c ts (qj ts s)∧Fr [P] V (V.setCell ⟨P,1,none⟩ (.int .i64 ((s.pos:Int)+1)))):=qd fun V hV=>by
  have f:Fr [P] V (V.setCell ⟨P,1,none⟩ (.int .i64 ((s.pos:Int)+1))):=Fr.setCell V _ _ (by simp)
  exact ⟨hV.write f (by rw [zc hV.par 1 _]; rfl),f⟩
 have hbp:=qd hbp
 have hPl:=h.lt
 have hgl:=h.glt (by omega)
 clear h ho ht1 ht2 hop1 hop2 hpl
 unfold tkv at *
 generalize hdT ts s=x at *
 obtain ⟨⟨tk,tt,tn⟩,tp⟩:=x
 dsimp only at *
 obtain ⟨B,hB⟩:∃ B,B=qW (⟨tk,tt,tn⟩,tp) s:=⟨_,rfl⟩
 rw [← hB] at HBd HT hbp
 clear hB
 go_enter Tryz.func80,Tryz.ntmps80
 go_wp2_with (first
  | (go_at_call 54; refine (HA.out _ (Bl.alloc _ _)).mono ?_; rintro e w1 ⟨rfl,b1⟩; have R1:=qd (blk_in b1); have B1:=qd ((Bl.alloc _ _).trans b1); have L1:=qd (qf (blk_in b1)); clear b1)
  | (
   go_at_call 113; refine (HBd.out _ (B1.out.trans (Bl.alloc _ _))).mono ?_; rintro e w2 ⟨rfl,p2,f2⟩
   have hw1:=B1.out.size;have q1:w2.heap[w1.heap.size]?=some (.cells #[.int .i64 tk,.string (ba tt),.int .i64 tn,.int .i64 tp] 54 (0,0)):=(f2.block _ (by simp) (by simp; omega)).trans (heap_alloc_new w1 _)
   have q0:w2.heap[w.heap.size]?=some z4:=(f2.block _ (by have:=L1.out; simp; omega) (by simp; omega)).trans ((Below.heap_alloc _ _ _ L1.out).trans R1.out)
   obtain ⟨r0,r1,r2,r3,y0,y1,y2,y3⟩:=resF q0;have x0:w2.cell? ⟨w1.heap.size,0,none⟩=some (.int .i64 tk):=by rw [qh q1]; rfl
   have x1:w2.cell? ⟨w1.heap.size,1,none⟩=some (.string (ba tt)):=by rw [qh q1]; rfl
   have x2:w2.cell? ⟨w1.heap.size,2,none⟩=some (.int .i64 tn):=by rw [qh q1]; rfl
   have x3:w2.cell? ⟨w1.heap.size,3,none⟩=some (.int .i64 tp):=by rw [qh q1]; rfl
   obtain ⟨a0,a1,a2,a3,a4⟩:=p2.cells;rw [hbp.out] at a1;have g1:=qK p2.par 1;have n1:P≠w1.heap.size:=by omega
   have n2:P≠w.heap.size:=by omega
   have n3:w1.heap.size≠P:=by omega
   have n4:w.heap.size≠P:=by omega
   have Q0:=qd q0;have P2:=qd p2;have F2:=qd (qu (za (P:=P) (B1.out.trans (Bl.alloc w1 (.cells #[.int .i64 tk,.string (ba tt),.int .i64 tn,.int .i64 tp] 54)))) f2);have S2:=qd f2.size;clear q0 q1 p2 f2))
 obtain ⟨z1,z2⟩:=HT.out w2 P2.out
 have q3:(w2.setCell ⟨P,1,none⟩ (.int .i64 ((s.pos:Int)+1))).heap[w.heap.size]?=some z4:=(z2.block _ (qf Q0.out) (by simpa using n4)).trans Q0.out
 refine ret54g Tryz.results80 (B:=w.heap.size) ?_ rfl ⟨rfl,?_,?_⟩
 ·rw [zc (zc (zc (zc q3 0 _) 1 _) 2 _) 3 _]
  rfl
 ·exact z1.other (four_fr _ _ _ _) (by simpa using n2) (by simp; omega)
 ·exact (qu F2.out z2).trans (four_fr _ _ _ _) (fun b hb=>Or.inr (by simp at hb; omega))
theorem skip_ok (P g c:Nat) (ts:Ts) (s:Ps) (k:Nat) (w:World) (h:Pr w P g c ts s) (ho:Okp ts s) (hp:s.pos < ts.length):Calls Tryz.prog 85 #[.pointer (some ⟨P,0,none⟩),.int .i64 k] w fun e w'=>e=.returned (.bool (qN ts k s).1)∧Pr w' P g c ts (qN ts k s).2∧Fr [P] w w':=by
 have HS:=qd (je P g c ts s k w h ho hp)
 have HT:=qd (fun V (b:Bl w V)=>zY P g c ts s V (h.keep b) ho hp)
 have HK:=qd (fun V (b:Bl w V)=>h.keep b)
 clear h ho
 unfold qN
 cases hst:qi ts k s with
 | true =>
  rw [hst] at HS;rw [if_pos rfl];clear hst
  go_enter Tryz.func85,Tryz.ntmps85
  go_wp2_with (first
   | (go_at_call 83; refine HS.out.mono ?_; rintro e w1 ⟨rfl,b1⟩; have B1:=qd b1; clear b1)
   | (go_at_call 80; refine (HT.out _ B1.out).mono ?_; rintro e w2 ⟨rfl,p2,f2⟩))
  go_ret
  exact ⟨rfl,p2,qu (za B1.out) f2⟩
 | false =>
  rw [hst] at HS;rw [if_neg (by simp)]
  clear hst
  go_enter Tryz.func85,Tryz.ntmps85
  go_wp2_with (first
   | (go_at_call 83; refine HS.out.mono ?_; rintro e w1 ⟨rfl,b1⟩; have B1:=qd b1; clear b1))
  go_ret
  exact ⟨rfl,HK.out _ B1.out,za B1.out⟩
def jl (x:Tok × Nat):Value:=.iface 75 (.agg #[.int .i64 x.1.kind,.string (ba x.1.text),.int .i64 x.1.num,.int .i64 x.2])
theorem need_ok (P g c:Nat) (ts:Ts) (s:Ps) (k:Nat) (w:World) (h:Pr w P g c ts s) (ho:Okp ts s) (hp:s.pos < ts.length):Calls Tryz.prog 57 #[.pointer (some ⟨P,0,none⟩),.int .i64 k] w fun e w'=>Fr [P] w w'∧match qS ts k s with
  | .ok x s'=>e=.returned (tkv x)∧Pr w' P g c ts s'
  | .bad x=>e=.panicked [{ v:=jl x,recovered:=false }]:=by
 have HS:=qd (fun V (b:Bl w V)=>je P g c ts s k V (h.keep b) ho hp)
 have HT:=qd (fun V (b:Bl w V)=>zY P g c ts s V (h.keep b) ho hp)
 have HA:=qd (fun V (b:Bl w V)=>zI P g c ts s V (h.keep b) hp (by have:=ho.len; omega))
 have hPl:=h.lt
 have hgl:=h.glt (by omega)
 clear h ho
 unfold qS
 unfold tkv at *
 obtain ⟨S,hS⟩:∃ S,S=qj ts s:=⟨_,rfl⟩
 rw [← hS] at HT ⊢
 clear hS
 generalize hdT ts s=x at *
 obtain ⟨⟨tk,tt,tn⟩,tp⟩:=x
 dsimp only at *
 cases hst:qi ts k s with
 | true =>
  rw [hst] at HS;simp only [if_true];clear hst HA
  go_enter Tryz.func57,Tryz.ntmps57
  go_wp2_with (first
   | (go_at_call 83; refine (HS.out _ (Bl.alloc _ _)).mono ?_; rintro e w1 ⟨rfl,b1⟩; have R1:=qd (blk_in b1); have B1:=qd ((Bl.alloc _ _).trans b1); have L1:=qd (qf (blk_in b1)); clear b1)
   | (
    go_at_call 80; refine (HT.out _ B1.out).mono ?_; rintro e w2 ⟨rfl,p2,f2⟩
    have q0:w2.heap[w.heap.size]?=some z4:=(f2.block _ L1.out (by simp; omega)).trans R1.out
    obtain ⟨r0,r1,r2,r3,y0,y1,y2,y3⟩:=resF q0;have Q0:=qd q0;have P2:=qd p2;have F2:=qd (qu (za B1.out) f2);clear q0 p2 f2))
  refine ret54g Tryz.results57 (B:=w.heap.size) ?_ rfl ⟨?_,rfl,?_⟩
  ·rw [zc (zc (zc (zc Q0.out 0 _) 1 _) 2 _) 3 _]
   rfl
  ·exact F2.out.trans (four_fr _ _ _ _) (fun b hb=>Or.inr (by simp at hb; omega))
  ·exact P2.out.other (four_fr _ _ _ _) (by simp; omega) (by simp; omega)
 | false =>
  rw [hst] at HS;simp only [Bool.false_eq_true,if_false];clear hst HT
  go_enter Tryz.func57,Tryz.ntmps57
  go_wp2_with (first
   | (go_at_call 83; refine (HS.out _ (Bl.alloc _ _)).mono ?_; rintro e w1 ⟨rfl,b1⟩; have B1:=qd ((Bl.alloc _ _).trans b1); clear b1)
   | (go_at_call 54; refine (HA.out _ B1.out).mono ?_; rintro e w2 ⟨rfl,b2⟩; have B2:=qd (B1.out.trans b2); clear b2))
  exact ⟨rfl,za B2.out,rfl⟩
end Go.Proofs.YtfhkhmgodkheaaaGreatDoor
namespace Go.Proofs.YtfhkhmgodkheaaaGreatDoor
open Go Go.Shelf
def Tryz.laysM243_ren:Go.Shelf.Ren:=⟨fun | 243=>147 | 246=>161 | 283=>172 | 284=>173 | 285=>174 | 286=>175 | 129=>183 | 317=>182 | 318=>184 | 319=>185 | 320=>186 | 337=>193 | 338=>194 | n=>n,fun | 3=>3 | 9=>9 | 2=>2 | 4=>4 | 171=>184 | 0=>0 | 53=>185 | 37=>73 | 5=>5 | 173=>188 | 212=>192 | 51=>178 | 20=>20 | 213=>193 | 46=>166 | 232=>196 | 233=>197 | n=>n,fun | 17=>5 | 18=>6 | 19=>7 | n=>n⟩
theorem Tryz.laysM243:Go.Proofs.LaysM.n243 Tryz.prog Tryz.laysM243_ren:={
 mixed:=by kernel_rfl
 f129:=Tryz.func183.trans (congrArg some (by kernel_rfl))
 f243:=Tryz.func147.trans (congrArg some (by kernel_rfl))
 f246:=Tryz.func161.trans (congrArg some (by kernel_rfl))
 f283:=Tryz.func172.trans (congrArg some (by kernel_rfl))
 f284:=Tryz.func173.trans (congrArg some (by kernel_rfl))
 f285:=Tryz.func174.trans (congrArg some (by kernel_rfl))
 f286:=Tryz.func175.trans (congrArg some (by kernel_rfl))
 f317:=Tryz.func182.trans (congrArg some (by kernel_rfl))
 f318:=Tryz.func184.trans (congrArg some (by kernel_rfl))
 f319:=Tryz.func185.trans (congrArg some (by kernel_rfl))
 f320:=Tryz.func186.trans (congrArg some (by kernel_rfl))
 f337:=Tryz.func193.trans (congrArg some (by kernel_rfl))
 f338:=Tryz.func194.trans (congrArg some (by kernel_rfl))
 t0:=Tryz.underlying0
 a0:=Tryz.isAgg0
 z0:=Tryz.sizeOf0
 v0:=Tryz.zeroValue0
 t2:=Tryz.underlying2
 a2:=Tryz.isAgg2
 z2:=Tryz.sizeOf2
 v2:=Tryz.zeroValue2
 t3:=Tryz.underlying3
 a3:=Tryz.isAgg3
 z3:=Tryz.sizeOf3
 v3:=Tryz.zeroValue3
 t4:=Tryz.underlying4
 a4:=Tryz.isAgg4
 z4:=Tryz.sizeOf4
 v4:=Tryz.zeroValue4
 t5:=Tryz.underlying5
 a5:=Tryz.isAgg5
 z5:=Tryz.sizeOf5
 v5:=Tryz.zeroValue5
 t9:=Tryz.underlying9
 a9:=Tryz.isAgg9
 z9:=Tryz.sizeOf9
 v9:=Tryz.zeroValue9
 t20:=Tryz.underlying20
 a20:=Tryz.isAgg20
 z20:=Tryz.sizeOf20
 v20:=Tryz.zeroValue20
 t37:=Tryz.underlying73
 a37:=Tryz.isAgg73
 z37:=Tryz.sizeOf73
 v37:=Tryz.zeroValue73
 t46:=Tryz.underlying166
 a46:=Tryz.isAgg166
 z46:=Tryz.sizeOf166
 v46:=Tryz.zeroValue166
 t51:=Tryz.underlying178
 a51:=Tryz.isAgg178
 z51:=Tryz.sizeOf178
 v51:=Tryz.zeroValue178
 t53:=Tryz.underlying185
 a53:=Tryz.isAgg185
 z53:=Tryz.sizeOf185
 v53:=Tryz.zeroValue185
 t171:=Tryz.underlying184
 a171:=Tryz.isAgg184
 z171:=Tryz.sizeOf184
 v171:=Tryz.zeroValue184
 t173:=Tryz.underlying188
 a173:=Tryz.isAgg188
 z173:=Tryz.sizeOf188
 v173:=Tryz.zeroValue188
 t212:=Tryz.underlying192
 a212:=Tryz.isAgg192
 z212:=Tryz.sizeOf192
 v212:=Tryz.zeroValue192
 t213:=Tryz.underlying193
 a213:=Tryz.isAgg193
 z213:=Tryz.sizeOf193
 t232:=Tryz.underlying196
 a232:=Tryz.isAgg196
 z232:=Tryz.sizeOf196
 v232:=Tryz.zeroValue196
 t233:=Tryz.underlying197
 a233:=Tryz.isAgg197
 z233:=Tryz.sizeOf197
 v233:=Tryz.zeroValue197
 g17:=by kernel_rfl
 g18:=by kernel_rfl
 g19:=by kernel_rfl
 i0:=by kernel_rfl
 i2:=by kernel_rfl
 i3:=by kernel_rfl
 i4:=by kernel_rfl
 i5:=by kernel_rfl
 i9:=by kernel_rfl
 i20:=by kernel_rfl
 i37:=by kernel_rfl
 i46:=by kernel_rfl
 i51:=by kernel_rfl
 i53:=by kernel_rfl
 i171:=by kernel_rfl
 i173:=by kernel_rfl
 i212:=by kernel_rfl
 i232:=by kernel_rfl
 i233:=by kernel_rfl
 m17:=by kernel_rfl
 m18:=by kernel_rfl
 m19:=by kernel_rfl }
open Go.RowKit Go.Sort Go.Lib in
theorem Tryz.internal_strconv_Itoa (n:Int) (h0:-9223372036854775808≤n) (h1:n≤9223372036854775807) (w:World) (htab:Lib.TabIs Tryz.prog w "internal/strconv.uint64pow10" .u64 Lib.pow10Tab) :
  Calls Tryz.prog 147 #[.int .i64 n] w fun e w'=>e=.returned (.string ⟨(Lib.itoa n).toArray⟩)∧∃ k os,w'=grow (w.drewN k) os:=Any.internal_strconv_Itoa Tryz.laysM243 n h0 h1 w htab
end Go.Proofs.YtfhkhmgodkheaaaGreatDoor
namespace Go.Proofs.YtfhkhmgodkheaaaGreatDoor
open Go.RowKit Go.Maps
theorem index_q (b:UInt8) (l:Bs):Lib.index (b :: l) [39]=if b=39 then 0 else if Lib.index l [39] == -1 then -1 else Lib.index l [39]+1:=by
 conv=>lhs; unfold Lib.index
 by_cases h:b=39
 ·subst h
  rfl
 ·rw [if_neg h,if_neg (by simp [List.isPrefixOf]; exact fun e=>h e.symm)]
theorem repl_qt:∀ s:Bs,Lib.replaceK [39] [39,39] (Lib.count s [39]) s=qt s:=by
 intro s
 induction s with
 | nil=>rfl
 | cons b l ih =>
  rw [qt_cons];have hx:=index_q b l
  by_cases h:b=39
  ·subst h
   rw [if_pos rfl] at hx;rw [Lib.count_hit (i:=0) (by simp) hx,Nat.add_comm,Lib.replaceK_hit _ _ _ _ 0 hx]
   show [39,39]++Lib.replaceK [39] [39,39] (Lib.count l [39]) l=_
   rw [ih];rfl
  ·have h39:¬ b.toNat=39:=fun e=>h (UInt8.toNat_inj.1 e)
   rw [if_neg h] at hx;rw [if_neg h39]
   by_cases hm:Lib.index l [39]=-1
   ·rw [if_pos (by rw [hm]; rfl)] at hx
    rw [Lib.count_miss hx];rw [Lib.count_miss hm] at ih
    show b :: l=b :: qt l
    rw [← ih];rfl
   ·rw [if_neg (by simpa using hm)] at hx
    obtain ⟨j,hj⟩:∃ j:Nat,Lib.index l [39]=j:=⟨(Lib.index l [39]).toNat,by have:=Lib.index_ge l [39]; omega⟩
    have hx2:Lib.index (b :: l) [39]=((j+1:Nat):Int):=by rw [hx,hj]; rfl
    rw [Lib.count_hit (by simp) hx2,Nat.add_comm,Lib.replaceK_hit _ _ _ _ (j+1) hx2]
    rw [Lib.count_hit (by simp) hj,Nat.add_comm,Lib.replaceK_hit _ _ _ _ j hj] at ih
    show b :: (l.take j++[39,39]++Lib.replaceK [39] [39,39] (Lib.count (l.drop (j+1)) [39]) (l.drop (j+1)))=b :: qt l
    rw [← ih];rfl
theorem replaceAll_qt (s:Bs):Lib.replaceAll s [39] [39,39]=qt s:=by
 unfold Lib.replaceAll Lib.replace Lib.replaceNum
 rw [if_neg (by decide),if_pos (Or.inl (by decide))]
 exact repl_qt s
theorem qt_len (s:Bs):(qt s).length≤2 * s.length:=by
 induction s with
 | nil=>simp [qt]
 | cons c r ih =>
  rw [qt_cons,List.length_append,List.length_cons]
  split <;> simp <;> omega
end Go.Proofs.YtfhkhmgodkheaaaGreatDoor
