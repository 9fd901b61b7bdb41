import Derived.Test.YtfhkhmgodkheaaaGreatDoorQCG10PReg
import Derived.Test.YtfhkhmgodkheaaaGreatDoorQCG11PBox
set_option linter.unusedSimpArgs false
set_option linter.unusedVariables false
set_option maxRecDepth 1000000
set_option maxHeartbeats 16000000
namespace Go.Proofs.YtfhkhmgodkheaaaGreatDoor
open Go.RowKit Go.Maps
theorem jC {V:World} {T B:Nat} {A cs:Array Value} {t:TypeId} (h:V.heap[T]?=some (.cells A t (0,0))) (hne:T≠B) (i:Nat):(V.setRow B cs).cell? ⟨T,i,none⟩=A[i]?:=by
 rw [qh ((setRow_other _ _ _ _ hne).trans h)]
theorem literal_ok (ts:Ts) (f:Nat) (hI:∀ P g c s w,Pr w P g c ts s→Okq ts s→(hdT ts s).1.kind≠18→Calls Tryz.prog 189 #[.pointer (some ⟨P,0,none⟩)] w (PostN P g c ts w (jc ts s)))
  (hR:∀ P g c s w r,Pr w P g c ts s→Okq ts s→(hdT ts s).1.kind=7→zb ts (f+1) s=some r→Calls Tryz.prog 190 #[.pointer (some ⟨P,0,none⟩)] w (PostN P g c ts w r)):CN 178 ts (zb ts (f+1)):=by
 intro P g c s w r h hok hr
 have HA:=qd (fun V p=>zI P g c ts s V p hok.lt (by have:=hok.len; omega))
 have S0:=qd (Sw.start h hok)
 have HT:=qd (fun V p=>zY P g c ts s V p hok.ok hok.lt)
 have HI:=qd (fun V p hk=>hI P g c s V p hok hk)
 have HR:=qd (fun V p hk=>hR P g c s V r p hok hk hr)
 unfold tkv at HA HT
 unfold zb at hr
 clear h hI hR hok
 by_cases h43:(hdT ts s).1.kind=4∨(hdT ts s).1.kind=3
 ·rw [if_pos h43] at hr
  injection hr with hr
  have HI2:=qd (fun V p=>HI.out V p (by rcases h43 with h | h <;> rw [h] <;> decide))
  rw [hr] at HI2;clear HI HR HT hr
  by_cases h4:(hdT ts s).1.kind=4
  ·have k4:(((hdT ts s).1.kind:Int) == 4)=true:=by rw [h4]; rfl
   clear h43 h4;generalize hdT ts s=x at *;obtain ⟨⟨tk,tt,tn⟩,tp⟩:=x;dsimp only at *
   cases r with
   | bad x =>
    go_enter Tryz.func178,Tryz.ntmps178
    go_wp2_with (first
     | (go_at_call 54; refine (HA.out _ S0.out.pr).mono ?_; rintro e w1 ⟨rfl,b1⟩; have S1:=qd ((S0.out.bl b1).bl (Bl.alloc w1 (.cells #[.int .i64 tk,.string (ba tt),.int .i64 tn,.int .i64 tp] 54))); have T1:=qd (heap_alloc_new w1 (.cells #[.int .i64 tk,.string (ba tt),.int .i64 tn,.int .i64 tp] 54)); have L1:Hid (w.heap.size < w1.heap.size):=qd ((S0.out.bl b1).size); clear b1)
     | (go_at_call 189; refine (HI2.out _ S1.out.pr).mono ?_; intro e w9 q9; obtain ⟨rfl,f9⟩:=zy q9; have F9:=qd (qu S1.out.fr f9); clear q9 f9))
    exact ⟨rfl,zl F9.out⟩
   | ok n s1 =>
    go_enter Tryz.func178,Tryz.ntmps178
    go_wp2_with (first
     | (go_at_call 54; refine (HA.out _ S0.out.pr).mono ?_; rintro e w1 ⟨rfl,b1⟩; have S1:=qd ((S0.out.bl b1).bl (Bl.alloc w1 (.cells #[.int .i64 tk,.string (ba tt),.int .i64 tn,.int .i64 tp] 54))); have T1:=qd (heap_alloc_new w1 (.cells #[.int .i64 tk,.string (ba tt),.int .i64 tn,.int .i64 tp] 54)); have L1:Hid (w.heap.size < w1.heap.size):=qd ((S0.out.bl b1).size); clear b1)
     | (
      go_at_call 189; refine (HI2.out _ S1.out.pr).mono ?_; intro e w9 q9; obtain ⟨c0,c1,c2,c3,c4,c5,c6,ft,rfl,n9,a9,p9,f9⟩:=zK q9
      have S9:=qd (S1.out.go f9 p9);have N9:=qd n9;have A9:Hid (Apt (w.heap.size+1) ft):=qd (a9.mono S1.out.size);clear q9 n9 a9 p9 f9)
     | (refine wpList_store_row rfl 34 _ _ rfl w.heap.size #[c0,c1,c2,c3,c4,c5,c6] rfl rfl 34 _ S9.out.res (by kernel_rfl) rfl (qL N9.out) ?_))
    exact S9.out.endN Tryz.results178 rfl N9.out A9.out
  ·have k4:(((hdT ts s).1.kind:Int) == 4)=false:=beq_eq_false_iff_ne.2 (by omega)
   have k3:(((hdT ts s).1.kind:Int) == 3)=true:=beq_iff_eq.2 (by omega)
   clear h43 h4;generalize hdT ts s=x at *;obtain ⟨⟨tk,tt,tn⟩,tp⟩:=x;dsimp only at *
   cases r with
   | bad x =>
    go_enter Tryz.func178,Tryz.ntmps178
    go_wp2_with (first
     | (go_at_call 54; refine (HA.out _ S0.out.pr).mono ?_; rintro e w1 ⟨rfl,b1⟩; have S1:=qd ((S0.out.bl b1).bl (Bl.alloc w1 (.cells #[.int .i64 tk,.string (ba tt),.int .i64 tn,.int .i64 tp] 54))); have T1:=qd (heap_alloc_new w1 (.cells #[.int .i64 tk,.string (ba tt),.int .i64 tn,.int .i64 tp] 54)); have L1:Hid (w.heap.size < w1.heap.size):=qd ((S0.out.bl b1).size); clear b1)
     | (go_at_call 189; refine (HI2.out _ S1.out.pr).mono ?_; intro e w9 q9; obtain ⟨rfl,f9⟩:=zy q9; have F9:=qd (qu S1.out.fr f9); clear q9 f9))
    exact ⟨rfl,zl F9.out⟩
   | ok n s1 =>
    go_enter Tryz.func178,Tryz.ntmps178
    go_wp2_with (first
     | (go_at_call 54; refine (HA.out _ S0.out.pr).mono ?_; rintro e w1 ⟨rfl,b1⟩; have S1:=qd ((S0.out.bl b1).bl (Bl.alloc w1 (.cells #[.int .i64 tk,.string (ba tt),.int .i64 tn,.int .i64 tp] 54))); have T1:=qd (heap_alloc_new w1 (.cells #[.int .i64 tk,.string (ba tt),.int .i64 tn,.int .i64 tp] 54)); have L1:Hid (w.heap.size < w1.heap.size):=qd ((S0.out.bl b1).size); clear b1)
     | (
      go_at_call 189; refine (HI2.out _ S1.out.pr).mono ?_; intro e w9 q9; obtain ⟨c0,c1,c2,c3,c4,c5,c6,ft,rfl,n9,a9,p9,f9⟩:=zK q9
      have S9:=qd (S1.out.go f9 p9);have N9:=qd n9;have A9:Hid (Apt (w.heap.size+1) ft):=qd (a9.mono S1.out.size);clear q9 n9 a9 p9 f9)
     | (refine wpList_store_row rfl 34 _ _ rfl w.heap.size #[c0,c1,c2,c3,c4,c5,c6] rfl rfl 34 _ S9.out.res (by kernel_rfl) rfl (qL N9.out) ?_))
    exact S9.out.endN Tryz.results178 rfl N9.out A9.out
 rw [if_neg h43] at hr
 have k4:(((hdT ts s).1.kind:Int) == 4)=false:=beq_eq_false_iff_ne.2 (by omega)
 have k3:(((hdT ts s).1.kind:Int) == 3)=false:=beq_eq_false_iff_ne.2 (by omega)
 clear HI
 by_cases h6:(hdT ts s).1.kind=6
 ·rw [if_pos h6] at hr
  injection hr with hr
  subst hr;have k6:(((hdT ts s).1.kind:Int) == 6)=true:=by rw [h6]; rfl
  clear HR h43 h6;generalize qj ts s=st at *;generalize hdT ts s=x at *;obtain ⟨⟨tk,tt,tn⟩,tp⟩:=x;dsimp only at *
  go_enter Tryz.func178,Tryz.ntmps178
  go_wp2_with (first
   | (go_at_call 54; refine (HA.out _ S0.out.pr).mono ?_; rintro e w1 ⟨rfl,b1⟩; have S1:=qd ((S0.out.bl b1).bl (Bl.alloc w1 (.cells #[.int .i64 tk,.string (ba tt),.int .i64 tn,.int .i64 tp] 54))); have T1:=qd (heap_alloc_new w1 (.cells #[.int .i64 tk,.string (ba tt),.int .i64 tn,.int .i64 tp] 54)); have L1:Hid (w.heap.size < w1.heap.size):=qd ((S0.out.bl b1).size); clear b1))
  have S2:=qd S1.out.drew;have T2:Hid ((w1.alloc (.cells #[.int .i64 tk,.string (ba tt),.int .i64 tn,.int .i64 tp] 54)).drew.heap[w1.heap.size]?=some (.cells #[.int .i64 tk,.string (ba tt),.int .i64 tn,.int .i64 tp] 54 (0,0))):=qd T1.out;have HW:Hid (w.heap.size < w1.heap.size):=qd L1.out;have HNe:Hid (w1.heap.size≠w.heap.size):=qd (by have:=HW.out; omega)
  refine wp_region_held_drew (S:=fun V=>V.cell? ⟨w1.heap.size,3,none⟩=some (.int .i64 tp)) (by kernel_rfl) (qh T2.out) (fun hHeld=>?_)
  refine tq (i:=0) ?_
  try simp only [Act.put,qq]
  refine tq (i:=3) ?_
  try simp only [Act.put,qq]
  refine tq (i:=4) ?_
  try simp only [Act.put,qq]
  refine qU (i:=1) (by kernel_rfl) rfl (fun K hK=>?_)
  refine qO (by rfl) 80 Tryz.f80 Tryz.func80 (by kernel_rfl) (by kernel_rfl) _ _ rfl _ (by first | (simp [Act.eval]; done) | (simp [Act.eval]; rfl)) _ (HT.out _ S2.out.pr) ?_
  rintro _ w2 ⟨rfl,p2,f2⟩;have S3:=qd (S2.out.go f2 p2);have hne:w1.heap.size≠P:=by have:=S2.out.lp; have:=S2.out.size; have:=HW.out; omega
  have T3:=qd ((f2.block _ (qf T2.out) (by simpa using hne)).trans T2.out)
  clear p2 f2;refine hK.out _ _ (qh T3.out) (fun hHeld=>?_)
  clear hK K
  try simp only [Act.put,qq]
  refine wpAnyH_take (i:=2) (v:=.string (ba tt)) rfl (by kernel_rfl) (by kernel_rfl) (by kernel_rfl) (fun _ _ _ h=>h) (Or.inl ⟨by rfl,?_⟩) (by assumption) ?_
  ·(intro w hSw; have hfd:=fun W=>f54_1 (.int .i64 tk) (.string (ba tt)) (.int .i64 tn) (.int .i64 tp) W; go_simp)
  try simp only [Act.put,qq]
  refine tq (i:=5) ?_
  try simp only [Act.put,qq]
  refine qU (i:=6) (by kernel_rfl) rfl (fun K hK=>?_)
  refine jn (by rfl) 34 _ _ rfl w.heap.size #[.int .i64 2,.string (ba tt),.int .i64 0,.int .i64 tp,.slice none 0 0,.slice none 0 0,.slice none 0 0] rfl rfl 34 _ S3.out.res (by kernel_rfl) rfl (by kernel_rfl) ?_
  refine hK.out _ _ (jC T3.out HNe.out 3) (fun hHeld=>?_)
  clear hK K
  try simp only [Act.put,qq]
  refine wpAnyH_done (by kernel_rfl) ?_ _
  go_wp2_with fail
  exact S3.out.endN Tryz.results178 rfl (NdM.leaf _ 2 tt 0 tp) (Apt.nil _)
 rw [if_neg h6] at hr
 have k6:(((hdT ts s).1.kind:Int) == 6)=false:=beq_eq_false_iff_ne.2 (by omega)
 by_cases h5:(hdT ts s).1.kind=5
 ·rw [if_pos h5] at hr
  injection hr with hr
  subst hr;have k5:(((hdT ts s).1.kind:Int) == 5)=true:=by rw [h5]; rfl
  clear HR h43 h6 h5;generalize qj ts s=st at *;generalize hdT ts s=x at *;obtain ⟨⟨tk,tt,tn⟩,tp⟩:=x;dsimp only at *
  go_enter Tryz.func178,Tryz.ntmps178
  go_wp2_with (first
   | (go_at_call 54; refine (HA.out _ S0.out.pr).mono ?_; rintro e w1 ⟨rfl,b1⟩; have S1:=qd ((S0.out.bl b1).bl (Bl.alloc w1 (.cells #[.int .i64 tk,.string (ba tt),.int .i64 tn,.int .i64 tp] 54))); have T1:=qd (heap_alloc_new w1 (.cells #[.int .i64 tk,.string (ba tt),.int .i64 tn,.int .i64 tp] 54)); have L1:Hid (w.heap.size < w1.heap.size):=qd ((S0.out.bl b1).size); clear b1))
  have S2:=qd S1.out.drew;have T2:Hid ((w1.alloc (.cells #[.int .i64 tk,.string (ba tt),.int .i64 tn,.int .i64 tp] 54)).drew.heap[w1.heap.size]?=some (.cells #[.int .i64 tk,.string (ba tt),.int .i64 tn,.int .i64 tp] 54 (0,0))):=qd T1.out;have HW:Hid (w.heap.size < w1.heap.size):=qd L1.out;have HNe:Hid (w1.heap.size≠w.heap.size):=qd (by have:=HW.out; omega)
  refine wp_region_held_drew (S:=fun V=>V.cell? ⟨w1.heap.size,3,none⟩=some (.int .i64 tp)) (by kernel_rfl) (qh T2.out) (fun hHeld=>?_)
  refine tq (i:=0) ?_
  try simp only [Act.put,qq]
  refine tq (i:=3) ?_
  try simp only [Act.put,qq]
  refine tq (i:=4) ?_
  try simp only [Act.put,qq]
  refine qU (i:=1) (by kernel_rfl) rfl (fun K hK=>?_)
  refine qO (by rfl) 80 Tryz.f80 Tryz.func80 (by kernel_rfl) (by kernel_rfl) _ _ rfl _ (by first | (simp [Act.eval]; done) | (simp [Act.eval]; rfl)) _ (HT.out _ S2.out.pr) ?_
  rintro _ w2 ⟨rfl,p2,f2⟩;have S3:=qd (S2.out.go f2 p2);have hne:w1.heap.size≠P:=by have:=S2.out.lp; have:=S2.out.size; have:=HW.out; omega
  have T3:=qd ((f2.block _ (qf T2.out) (by simpa using hne)).trans T2.out)
  clear p2 f2;refine hK.out _ _ (qh T3.out) (fun hHeld=>?_)
  clear hK K
  try simp only [Act.put,qq]
  refine wpAnyH_take (i:=2) (v:=.string (ba tt)) rfl (by kernel_rfl) (by kernel_rfl) (by kernel_rfl) (fun _ _ _ h=>h) (Or.inl ⟨by rfl,?_⟩) (by assumption) ?_
  ·(intro w hSw; have hfd:=fun W=>f54_1 (.int .i64 tk) (.string (ba tt)) (.int .i64 tn) (.int .i64 tp) W; go_simp)
  try simp only [Act.put,qq]
  refine tq (i:=5) ?_
  try simp only [Act.put,qq]
  refine qU (i:=6) (by kernel_rfl) rfl (fun K hK=>?_)
  refine jn (by rfl) 34 _ _ rfl w.heap.size #[.int .i64 3,.string (ba tt),.int .i64 0,.int .i64 tp,.slice none 0 0,.slice none 0 0,.slice none 0 0] rfl rfl 34 _ S3.out.res (by kernel_rfl) rfl (by kernel_rfl) ?_
  refine hK.out _ _ (jC T3.out HNe.out 3) (fun hHeld=>?_)
  clear hK K
  try simp only [Act.put,qq]
  refine wpAnyH_done (by kernel_rfl) ?_ _
  go_wp2_with fail
  exact S3.out.endN Tryz.results178 rfl (NdM.leaf _ 3 tt 0 tp) (Apt.nil _)
 rw [if_neg h5] at hr
 have k5:(((hdT ts s).1.kind:Int) == 5)=false:=beq_eq_false_iff_ne.2 (by omega)
 clear HT
 by_cases h7:(hdT ts s).1.kind=7
 ·have HR2:=qd (fun V p=>HR.out V p h7)
  have k7:(((hdT ts s).1.kind:Int) == 7)=true:=by rw [h7]; rfl
  clear HR hr h43 h6 h5 h7;generalize hdT ts s=x at *;obtain ⟨⟨tk,tt,tn⟩,tp⟩:=x;dsimp only at *
  cases r with
  | bad x =>
   go_enter Tryz.func178,Tryz.ntmps178
   go_wp2_with (first
    | (go_at_call 54; refine (HA.out _ S0.out.pr).mono ?_; rintro e w1 ⟨rfl,b1⟩; have S1:=qd ((S0.out.bl b1).bl (Bl.alloc w1 (.cells #[.int .i64 tk,.string (ba tt),.int .i64 tn,.int .i64 tp] 54))); have T1:=qd (heap_alloc_new w1 (.cells #[.int .i64 tk,.string (ba tt),.int .i64 tn,.int .i64 tp] 54)); have L1:Hid (w.heap.size < w1.heap.size):=qd ((S0.out.bl b1).size); clear b1)
    | (go_at_call 190; refine (HR2.out _ S1.out.pr).mono ?_; intro e w9 q9; obtain ⟨rfl,f9⟩:=zy q9; have F9:=qd (qu S1.out.fr f9); clear q9 f9))
   exact ⟨rfl,zl F9.out⟩
  | ok n s1 =>
   go_enter Tryz.func178,Tryz.ntmps178
   go_wp2_with (first
    | (go_at_call 54; refine (HA.out _ S0.out.pr).mono ?_; rintro e w1 ⟨rfl,b1⟩; have S1:=qd ((S0.out.bl b1).bl (Bl.alloc w1 (.cells #[.int .i64 tk,.string (ba tt),.int .i64 tn,.int .i64 tp] 54))); have T1:=qd (heap_alloc_new w1 (.cells #[.int .i64 tk,.string (ba tt),.int .i64 tn,.int .i64 tp] 54)); have L1:Hid (w.heap.size < w1.heap.size):=qd ((S0.out.bl b1).size); clear b1)
    | (
     go_at_call 190; refine (HR2.out _ S1.out.pr).mono ?_; intro e w9 q9; obtain ⟨c0,c1,c2,c3,c4,c5,c6,ft,rfl,n9,a9,p9,f9⟩:=zK q9
     have S9:=qd (S1.out.go f9 p9);have N9:=qd n9;have A9:Hid (Apt (w.heap.size+1) ft):=qd (a9.mono S1.out.size);clear q9 n9 a9 p9 f9)
    | (refine wpList_store_row rfl 34 _ _ rfl w.heap.size #[c0,c1,c2,c3,c4,c5,c6] rfl rfl 34 _ S9.out.res (by kernel_rfl) rfl (qL N9.out) ?_))
   exact S9.out.endN Tryz.results178 rfl N9.out A9.out
 ·rw [if_neg h7] at hr
  injection hr with hr
  subst hr;have k7:(((hdT ts s).1.kind:Int) == 7)=false:=beq_eq_false_iff_ne.2 (by omega)
  clear HR h43 h6 h5 h7;generalize hdT ts s=x at *;obtain ⟨⟨tk,tt,tn⟩,tp⟩:=x;dsimp only at *
  go_enter Tryz.func178,Tryz.ntmps178
  go_wp2_with (first
   | (go_at_call 54; refine (HA.out _ S0.out.pr).mono ?_; rintro e w1 ⟨rfl,b1⟩; have S1:=qd ((S0.out.bl b1).bl (Bl.alloc w1 (.cells #[.int .i64 tk,.string (ba tt),.int .i64 tn,.int .i64 tp] 54))); have T1:=qd (heap_alloc_new w1 (.cells #[.int .i64 tk,.string (ba tt),.int .i64 tn,.int .i64 tp] 54)); have L1:Hid (w.heap.size < w1.heap.size):=qd ((S0.out.bl b1).size); clear b1))
  exact ⟨rfl,zl S1.out.fr⟩
theorem zF {V:World} {B:Nat} {c0 c1 c2 c3:Value} {t:TypeId} (h:V.heap[B]?=some (.cells #[c0,c1,c2,c3] t (0,0))):V.cell? ⟨B,0,none⟩=some c0∧V.cell? ⟨B,1,none⟩=some c1∧V.cell? ⟨B,2,none⟩=some c2∧V.cell? ⟨B,3,none⟩=some c3 :=
 ⟨by rw [qh h]; rfl,by rw [qh h]; rfl,by rw [qh h]; rfl,by rw [qh h]; rfl⟩
theorem integer_ok (ts:Ts) (hnum:∀ x∈ts,x.1.num≤9007199254740992):∀ P g c s w,Pr w P g c ts s→Okq ts s→(hdT ts s).1.kind≠18→Calls Tryz.prog 189 #[.pointer (some ⟨P,0,none⟩)] w (PostN P g c ts w (jc ts s)):=by
 intro P g c s w h hok hk
 have hq:=hok.take hk
 have S0:=qd (Sw.start h hok)
 have HT:=qd (fun V p=>zY P g c ts s V p hok.ok hok.lt)
 have HK:=qd (fun V p=>je P g c ts (qj ts s) 4 V p hq.ok hq.lt)
 have HA:=qd (fun V p=>zI P g c ts (qj ts s) V p hq.lt (by have:=hq.len; omega))
 have HT2:=qd (fun V p=>zY P g c ts (qj ts s) V p hq.ok hq.lt)
 have hyp:=hq.txt.2
 have hxp:=hok.txt.2
 have hyn:=hnum _ (hdT_mem hq.lt)
 unfold tkv at HT HA HT2
 unfold jc
 dsimp only
 clear h hok hk hq hnum
 generalize qj ts (qj ts s)=st2 at *
 generalize hst:qi ts 4 (qj ts s)=sb at *
 clear hst
 generalize hdT ts (qj ts s)=y at *
 generalize qj ts s=st at *
 generalize hdT ts s=x at *
 obtain ⟨⟨tk,tt,tn⟩,tp⟩:=x
 obtain ⟨⟨yk,yt,yn⟩,yp⟩:=y
 dsimp only at *
 by_cases h1:tk=4∧tn≤1073741823
 ·rw [if_pos h1]
  have k4:((tk:Int) == 4)=true:=by rw [h1.1]; rfl
  have k5:(tn:Int)≤1073741823:=by omega
  clear h1 HK HA HT2
  go_enter Tryz.func189,Tryz.ntmps189
  go_wp2_with (first
   | (go_at_call 80; refine (HT.out _ S0.out.pr).mono ?_; rintro e w1 ⟨rfl,p1,f1⟩; have S1:=qd ((S0.out.go f1 p1).bl (Bl.alloc w1 (.cells #[.int .i64 tk,.string (ba tt),.int .i64 tn,.int .i64 tp] 54))); have T1:=qd (heap_alloc_new w1 (.cells #[.int .i64 tk,.string (ba tt),.int .i64 tn,.int .i64 tp] 54)); have L1:Hid (w.heap.size < w1.heap.size):=qd ((S0.out.go f1 p1).size); clear p1 f1)
   | (refine wpList_store_row rfl 34 _ _ rfl w.heap.size #[.int .i64 1,.string ⟨#[]⟩,.int .i64 tn,.int .i64 tp,.slice none 0 0,.slice none 0 0,.slice none 0 0] rfl rfl 34 _ S1.out.res (by kernel_rfl) rfl (by kernel_rfl) ?_))
  exact S1.out.endN Tryz.results189 rfl (NdM.leaf _ 1 [] tn tp) (Apt.nil _)
 rw [if_neg h1]
 have K:∃ b:Bool,b=((tk:Int) == 4)∧(b=false∨(b=true∧¬ (tn:Int)≤1073741823)):=by
  refine ⟨_,rfl,?_⟩
  by_cases h4:tk=4
  ·right; exact ⟨by rw [h4]; rfl,fun h=>h1 ⟨h4,by omega⟩⟩
  ·left; exact beq_eq_false_iff_ne.2 (by omega)
 clear h1
 obtain ⟨b,e1,K⟩:=K
 by_cases hm:tt=[45]
 ·have qm:((ba tt).toList == [45])=true:=by rw [tl_lst,qJ,hm]; rfl
  cases sb with
  | false =>
   rw [if_neg (by rintro ⟨_,h,_⟩; cases h)]
   clear hm HA HT2
   rcases K with rfl | ⟨rfl,K⟩
   all_goals
    have k4:=e1.symm;clear e1
    go_enter Tryz.func189,Tryz.ntmps189
    go_wp2_with (first
     | (go_at_call 80; refine (HT.out _ S0.out.pr).mono ?_; rintro e w1 ⟨rfl,p1,f1⟩; have S1:=qd ((S0.out.go f1 p1).bl (Bl.alloc w1 (.cells #[.int .i64 tk,.string (ba tt),.int .i64 tn,.int .i64 tp] 54))); have T1:=qd (heap_alloc_new w1 (.cells #[.int .i64 tk,.string (ba tt),.int .i64 tn,.int .i64 tp] 54)); have L1:Hid (w.heap.size < w1.heap.size):=qd ((S0.out.go f1 p1).size); clear p1 f1))
    have S2:=qd S1.out.drew;have T2:Hid ((w1.alloc (.cells #[.int .i64 tk,.string (ba tt),.int .i64 tn,.int .i64 tp] 54)).drew.heap[w1.heap.size]?=some (.cells #[.int .i64 tk,.string (ba tt),.int .i64 tn,.int .i64 tp] 54 (0,0))):=qd T1.out;refine wp_region_held_drew (S:=fun V=>V.cell? ⟨w1.heap.size,1,none⟩=some (.string (ba tt))∧V.cell? ⟨w1.heap.size,3,none⟩=some (.int .i64 tp)) (by kernel_rfl) (⟨qh T2.out,qh T2.out⟩) (fun hHeld=>?_)
    refine tq (i:=0) ?_
    try simp only [Act.put,qq]
    refine tq (i:=1) ?_
    try simp only [Act.put,qq]
    refine tq (i:=2) ?_
    try simp only [Act.put,qq]
    refine tq (i:=3) ?_
    try simp only [Act.put,qq]
    refine tq (i:=4) ?_
    try simp only [Act.put,qq]
    refine qU (i:=5) (by kernel_rfl) rfl (fun K hK=>?_)
    refine qO (by rfl) 83 Tryz.f83 Tryz.func83 (by kernel_rfl) (by kernel_rfl) _ _ rfl _ (by first | (simp [Act.eval]; done) | (simp [Act.eval]; rfl)) _ (HK.out _ S2.out.pr) ?_
    rintro _ w2 ⟨rfl,b2⟩;have S3:=qd (S2.out.bl b2);have T3:=qd ((b2.block _ (qf T2.out)).trans T2.out);clear b2;refine hK.out _ _ (⟨qh T3.out,qh T3.out⟩) (fun hHeld=>?_)
    clear hK K
    try simp only [Act.put,qq]
    refine tq (i:=6) ?_
    try simp only [Act.put,qq]
    refine tq (i:=7) ?_
    try simp only [Act.put,qq]
    refine tu (i:=8) ?_
    try simp only [Act.put,qq]
    refine tu (i:=11) ?_
    try simp only [Act.put,qq]
    refine tu (i:=12) ?_
    try simp only [Act.put,qq]
    refine tu (i:=13) ?_
    try simp only [Act.put,qq]
    refine qU (i:=9) (by kernel_rfl) rfl (fun K hK=>?_)
    rw [if_neg (by intro h; exact Bool.false_ne_true h)]
    refine hK.out _ _ (⟨qh T3.out,qh T3.out⟩) (fun hHeld=>?_)
    clear hK K
    try simp only [Act.put,qq]
    refine tu (i:=10) ?_
    try simp only [Act.put,qq]
    refine tu (i:=14) ?_
    try simp only [Act.put,qq]
    refine tq (i:=15) ?_
    try simp only [Act.put,qq]
    refine wpAnyH_done (by kernel_rfl) ?_ _
    clear hHeld;obtain ⟨z0,z1,z2,z3⟩:=zF T3.out
    go_wp2_with fail
    exact ⟨rfl,zl S3.out.fr⟩
  | true =>
   by_cases ha:yp=tp+1
   ·rw [if_pos ⟨hm,rfl,ha⟩]
    have ka:((yp:Int) == ((tp+1:Nat):Int))=true:=by rw [ha,beq_iff_eq]
    clear hm ha
    rcases K with rfl | ⟨rfl,K⟩
    all_goals
     have k4:=e1.symm;clear e1
     go_enter Tryz.func189,Tryz.ntmps189
     go_wp2_with (first
      | (go_at_call 80; refine (HT.out _ S0.out.pr).mono ?_; rintro e w1 ⟨rfl,p1,f1⟩; have S1:=qd ((S0.out.go f1 p1).bl (Bl.alloc w1 (.cells #[.int .i64 tk,.string (ba tt),.int .i64 tn,.int .i64 tp] 54))); have T1:=qd (heap_alloc_new w1 (.cells #[.int .i64 tk,.string (ba tt),.int .i64 tn,.int .i64 tp] 54)); have L1:Hid (w.heap.size < w1.heap.size):=qd ((S0.out.go f1 p1).size); clear p1 f1))
     have S2:=qd S1.out.drew;have T2:Hid ((w1.alloc (.cells #[.int .i64 tk,.string (ba tt),.int .i64 tn,.int .i64 tp] 54)).drew.heap[w1.heap.size]?=some (.cells #[.int .i64 tk,.string (ba tt),.int .i64 tn,.int .i64 tp] 54 (0,0))):=qd T1.out;refine wp_region_held_drew (S:=fun V=>V.cell? ⟨w1.heap.size,1,none⟩=some (.string (ba tt))∧V.cell? ⟨w1.heap.size,3,none⟩=some (.int .i64 tp)) (by kernel_rfl) (⟨qh T2.out,qh T2.out⟩) (fun hHeld=>?_)
     refine tq (i:=0) ?_
     try simp only [Act.put,qq]
     refine tq (i:=1) ?_
     try simp only [Act.put,qq]
     refine tq (i:=2) ?_
     try simp only [Act.put,qq]
     refine tq (i:=3) ?_
     try simp only [Act.put,qq]
     refine tq (i:=4) ?_
     try simp only [Act.put,qq]
     refine qU (i:=5) (by kernel_rfl) rfl (fun K hK=>?_)
     refine qO (by rfl) 83 Tryz.f83 Tryz.func83 (by kernel_rfl) (by kernel_rfl) _ _ rfl _ (by first | (simp [Act.eval]; done) | (simp [Act.eval]; rfl)) _ (HK.out _ S2.out.pr) ?_
     rintro _ w2 ⟨rfl,b2⟩;have S3:=qd (S2.out.bl b2);have T3:=qd ((b2.block _ (qf T2.out)).trans T2.out);clear b2;refine hK.out _ _ (⟨qh T3.out,qh T3.out⟩) (fun hHeld=>?_)
     clear hK K
     try simp only [Act.put,qq]
     refine tq (i:=6) ?_
     try simp only [Act.put,qq]
     refine tq (i:=7) ?_
     try simp only [Act.put,qq]
     refine tq (i:=8) ?_
     try simp only [Act.put,qq]
     refine tq (i:=11) ?_
     try simp only [Act.put,qq]
     refine tq (i:=12) ?_
     try simp only [Act.put,qq]
     refine wpAnyH_take (i:=13) (v:=.int .i64 ((tp+1:Nat):Int)) rfl (by kernel_rfl) (by kernel_rfl) (by kernel_rfl) (fun _ _ _ h=>h) (Or.inl ⟨by rfl,?_⟩) (by assumption) ?_
     ·(intro w hSw; obtain ⟨hS1,hS2⟩:=hSw; go_simp; rw [zP _ (by omega) (by omega)]; try omega)
     try simp only [Act.put,qq]
     refine qU (i:=9) (by kernel_rfl) rfl (fun K hK=>?_)
     refine qO (by rfl) 54 Tryz.f54 Tryz.func54 (by kernel_rfl) (by kernel_rfl) _ _ rfl _ (by first | (simp [Act.eval]; done) | (simp [Act.eval]; rfl)) _ (HA.out _ S3.out.pr) ?_
     rintro _ w3 ⟨rfl,b3⟩;have S4:=qd (S3.out.bl b3);have T4:=qd ((b3.block _ (qf T3.out)).trans T3.out);clear b3;refine hK.out _ _ (⟨qh T4.out,qh T4.out⟩) (fun hHeld=>?_)
     clear hK K
     try simp only [Act.put,qq]
     refine wpAnyH_take (i:=10) (v:=.int .i64 yp) rfl (by kernel_rfl) (by kernel_rfl) (by kernel_rfl) (fun _ _ _ h=>h) (Or.inl ⟨by rfl,?_⟩) (by assumption) ?_
     ·(intro w hSw; have hfd:=fun W=>js (.int .i64 yk) (.string (ba yt)) (.int .i64 yn) (.int .i64 yp) W; go_simp)
     try simp only [Act.put,qq]
     refine wpAnyH_take (i:=14) (v:=.bool true) rfl (by kernel_rfl) (by kernel_rfl) (by kernel_rfl) (fun _ _ _ h=>h) (Or.inl ⟨by rfl,?_⟩) (by assumption) ?_
     ·(intro w hSw; have:=ka; go_simp; try simpa using this)
     try simp only [Act.put,qq]
     refine tq (i:=15) ?_
     try simp only [Act.put,qq]
     refine wpAnyH_done (by kernel_rfl) ?_ _
     clear hHeld
     go_wp2_with fail
     have S5:=qd S4.out.drew;have T5:Hid (w3.drew.heap[w1.heap.size]?=some (.cells #[.int .i64 tk,.string (ba tt),.int .i64 tn,.int .i64 tp] 54 (0,0))):=qd T4.out;have HNe:Hid (w1.heap.size≠w.heap.size):=qd (by have:=L1.out; omega)
     refine wp_region_held_drew (S:=fun V=>V.cell? ⟨w1.heap.size,3,none⟩=some (.int .i64 tp)) (by kernel_rfl) (qh T5.out) (fun hHeld=>?_)
     refine tq (i:=0) ?_
     try simp only [Act.put,qq]
     refine tq (i:=4) ?_
     try simp only [Act.put,qq]
     refine tq (i:=5) ?_
     try simp only [Act.put,qq]
     refine qU (i:=1) (by kernel_rfl) rfl (fun K hK=>?_)
     refine qO (by rfl) 80 Tryz.f80 Tryz.func80 (by kernel_rfl) (by kernel_rfl) _ _ rfl _ (by first | (simp [Act.eval]; done) | (simp [Act.eval]; rfl)) _ (HT2.out _ S5.out.pr) ?_
     rintro _ w4 ⟨rfl,p4,f4⟩;have S6:=qd (S5.out.go f4 p4);have hne:w1.heap.size≠P:=by have:=S5.out.lp; have:=L1.out; omega
     have T6:=qd ((f4.block _ (qf T5.out) (by simpa using hne)).trans T5.out)
     clear p4 f4;refine hK.out _ _ (qh T6.out) (fun hHeld=>?_)
     clear hK K
     try simp only [Act.put,qq]
     refine wpAnyH_take (i:=2) (v:=.int .i64 yn) rfl (by kernel_rfl) (by kernel_rfl) (by kernel_rfl) (fun _ _ _ h=>h) (Or.inl ⟨by rfl,?_⟩) (by assumption) ?_
     ·(intro w hSw; have hfd:=fun W=>f54_2 (.int .i64 yk) (.string (ba yt)) (.int .i64 yn) (.int .i64 yp) W; go_simp)
     try simp only [Act.put,qq]
     refine wpAnyH_take (i:=3) (v:=.int .i64 (-(yn:Int))) rfl (by kernel_rfl) (by kernel_rfl) (by kernel_rfl) (fun _ _ _ h=>h) (Or.inl ⟨by rfl,?_⟩) (by assumption) ?_
     ·(intro w hSw; go_simp; rw [zP _ (by omega) (by omega)]; try omega)
     try simp only [Act.put,qq]
     refine tq (i:=6) ?_
     try simp only [Act.put,qq]
     refine qU (i:=7) (by kernel_rfl) rfl (fun K hK=>?_)
     refine jn (by rfl) 34 _ _ rfl w.heap.size #[.int .i64 1,.string ⟨#[]⟩,.int .i64 (-(yn:Int)),.int .i64 tp,.slice none 0 0,.slice none 0 0,.slice none 0 0] rfl rfl 34 _ S6.out.res (by kernel_rfl) rfl (by kernel_rfl) ?_
     refine hK.out _ _ (jC T6.out HNe.out 3) (fun hHeld=>?_)
     clear hK K
     try simp only [Act.put,qq]
     refine wpAnyH_done (by kernel_rfl) ?_ _
     go_wp2_with fail
     exact S6.out.endN Tryz.results189 rfl (NdM.leaf _ 1 [] (-(yn:Int)) tp) (Apt.nil _)
   ·rw [if_neg (by rintro ⟨_,_,h⟩; exact ha h)]
    have ka:((yp:Int) == ((tp+1:Nat):Int))=false:=by rw [beq_eq_false_iff_ne]; omega
    clear hm ha HT2
    rcases K with rfl | ⟨rfl,K⟩
    all_goals
     have k4:=e1.symm;clear e1
     go_enter Tryz.func189,Tryz.ntmps189
     go_wp2_with (first
      | (go_at_call 80; refine (HT.out _ S0.out.pr).mono ?_; rintro e w1 ⟨rfl,p1,f1⟩; have S1:=qd ((S0.out.go f1 p1).bl (Bl.alloc w1 (.cells #[.int .i64 tk,.string (ba tt),.int .i64 tn,.int .i64 tp] 54))); have T1:=qd (heap_alloc_new w1 (.cells #[.int .i64 tk,.string (ba tt),.int .i64 tn,.int .i64 tp] 54)); have L1:Hid (w.heap.size < w1.heap.size):=qd ((S0.out.go f1 p1).size); clear p1 f1))
     have S2:=qd S1.out.drew;have T2:Hid ((w1.alloc (.cells #[.int .i64 tk,.string (ba tt),.int .i64 tn,.int .i64 tp] 54)).drew.heap[w1.heap.size]?=some (.cells #[.int .i64 tk,.string (ba tt),.int .i64 tn,.int .i64 tp] 54 (0,0))):=qd T1.out;refine wp_region_held_drew (S:=fun V=>V.cell? ⟨w1.heap.size,1,none⟩=some (.string (ba tt))∧V.cell? ⟨w1.heap.size,3,none⟩=some (.int .i64 tp)) (by kernel_rfl) (⟨qh T2.out,qh T2.out⟩) (fun hHeld=>?_)
     refine tq (i:=0) ?_
     try simp only [Act.put,qq]
     refine tq (i:=1) ?_
     try simp only [Act.put,qq]
     refine tq (i:=2) ?_
     try simp only [Act.put,qq]
     refine tq (i:=3) ?_
     try simp only [Act.put,qq]
     refine tq (i:=4) ?_
     try simp only [Act.put,qq]
     refine qU (i:=5) (by kernel_rfl) rfl (fun K hK=>?_)
     refine qO (by rfl) 83 Tryz.f83 Tryz.func83 (by kernel_rfl) (by kernel_rfl) _ _ rfl _ (by first | (simp [Act.eval]; done) | (simp [Act.eval]; rfl)) _ (HK.out _ S2.out.pr) ?_
     rintro _ w2 ⟨rfl,b2⟩;have S3:=qd (S2.out.bl b2);have T3:=qd ((b2.block _ (qf T2.out)).trans T2.out);clear b2;refine hK.out _ _ (⟨qh T3.out,qh T3.out⟩) (fun hHeld=>?_)
     clear hK K
     try simp only [Act.put,qq]
     refine tq (i:=6) ?_
     try simp only [Act.put,qq]
     refine tq (i:=7) ?_
     try simp only [Act.put,qq]
     refine tq (i:=8) ?_
     try simp only [Act.put,qq]
     refine tq (i:=11) ?_
     try simp only [Act.put,qq]
     refine tq (i:=12) ?_
     try simp only [Act.put,qq]
     refine wpAnyH_take (i:=13) (v:=.int .i64 ((tp+1:Nat):Int)) rfl (by kernel_rfl) (by kernel_rfl) (by kernel_rfl) (fun _ _ _ h=>h) (Or.inl ⟨by rfl,?_⟩) (by assumption) ?_
     ·(intro w hSw; obtain ⟨hS1,hS2⟩:=hSw; go_simp; rw [zP _ (by omega) (by omega)]; try omega)
     try simp only [Act.put,qq]
     refine qU (i:=9) (by kernel_rfl) rfl (fun K hK=>?_)
     refine qO (by rfl) 54 Tryz.f54 Tryz.func54 (by kernel_rfl) (by kernel_rfl) _ _ rfl _ (by first | (simp [Act.eval]; done) | (simp [Act.eval]; rfl)) _ (HA.out _ S3.out.pr) ?_
     rintro _ w3 ⟨rfl,b3⟩;have S4:=qd (S3.out.bl b3);have T4:=qd ((b3.block _ (qf T3.out)).trans T3.out);clear b3;refine hK.out _ _ (⟨qh T4.out,qh T4.out⟩) (fun hHeld=>?_)
     clear hK K
     try simp only [Act.put,qq]
     refine wpAnyH_take (i:=10) (v:=.int .i64 yp) rfl (by kernel_rfl) (by kernel_rfl) (by kernel_rfl) (fun _ _ _ h=>h) (Or.inl ⟨by rfl,?_⟩) (by assumption) ?_
     ·(intro w hSw; have hfd:=fun W=>js (.int .i64 yk) (.string (ba yt)) (.int .i64 yn) (.int .i64 yp) W; go_simp)
     try simp only [Act.put,qq]
     refine wpAnyH_take (i:=14) (v:=.bool false) rfl (by kernel_rfl) (by kernel_rfl) (by kernel_rfl) (fun _ _ _ h=>h) (Or.inl ⟨by rfl,?_⟩) (by assumption) ?_
     ·(intro w hSw; have:=ka; go_simp; try simpa using this)
     try simp only [Act.put,qq]
     refine tq (i:=15) ?_
     try simp only [Act.put,qq]
     refine wpAnyH_done (by kernel_rfl) ?_ _
     clear hHeld;obtain ⟨z0,z1,z2,z3⟩:=zF T4.out
     go_wp2_with fail
     exact ⟨rfl,zl S4.out.fr⟩
 ·have qm:((ba tt).toList == [45])=false:=by rw [tl_lst,qJ,beq_eq_false_iff_ne]; exact hm
  rw [if_neg (by rintro ⟨h,_⟩; exact hm h)]
  clear hm HA HT2 HK
  rcases K with rfl | ⟨rfl,K⟩
  all_goals
   have k4:=e1.symm;clear e1
   go_enter Tryz.func189,Tryz.ntmps189
   go_wp2_with (first
    | (go_at_call 80; refine (HT.out _ S0.out.pr).mono ?_; rintro e w1 ⟨rfl,p1,f1⟩; have S1:=qd ((S0.out.go f1 p1).bl (Bl.alloc w1 (.cells #[.int .i64 tk,.string (ba tt),.int .i64 tn,.int .i64 tp] 54))); have T1:=qd (heap_alloc_new w1 (.cells #[.int .i64 tk,.string (ba tt),.int .i64 tn,.int .i64 tp] 54)); have L1:Hid (w.heap.size < w1.heap.size):=qd ((S0.out.go f1 p1).size); clear p1 f1))
   have S2:=qd S1.out.drew;have T2:Hid ((w1.alloc (.cells #[.int .i64 tk,.string (ba tt),.int .i64 tn,.int .i64 tp] 54)).drew.heap[w1.heap.size]?=some (.cells #[.int .i64 tk,.string (ba tt),.int .i64 tn,.int .i64 tp] 54 (0,0))):=qd T1.out;refine wp_region_held_drew (S:=fun V=>V.cell? ⟨w1.heap.size,1,none⟩=some (.string (ba tt))∧V.cell? ⟨w1.heap.size,3,none⟩=some (.int .i64 tp)) (by kernel_rfl) (⟨qh T2.out,qh T2.out⟩) (fun hHeld=>?_)
   refine tq (i:=0) ?_
   try simp only [Act.put,qq]
   refine tq (i:=1) ?_
   try simp only [Act.put,qq]
   refine tq (i:=2) ?_
   try simp only [Act.put,qq]
   refine tq (i:=3) ?_
   try simp only [Act.put,qq]
   refine tu (i:=4) ?_
   try simp only [Act.put,qq]
   refine qU (i:=5) (by kernel_rfl) rfl (fun K hK=>?_)
   rw [if_neg (by intro h; exact Bool.false_ne_true h)]
   refine hK.out _ _ (⟨qh T2.out,qh T2.out⟩) (fun hHeld=>?_)
   clear hK K
   try simp only [Act.put,qq]
   refine tq (i:=6) ?_
   try simp only [Act.put,qq]
   refine tq (i:=7) ?_
   try simp only [Act.put,qq]
   refine tu (i:=8) ?_
   try simp only [Act.put,qq]
   refine tu (i:=11) ?_
   try simp only [Act.put,qq]
   refine tu (i:=12) ?_
   try simp only [Act.put,qq]
   refine tu (i:=13) ?_
   try simp only [Act.put,qq]
   refine qU (i:=9) (by kernel_rfl) rfl (fun K hK=>?_)
   rw [if_neg (by intro h; exact Bool.false_ne_true h)]
   refine hK.out _ _ (⟨qh T2.out,qh T2.out⟩) (fun hHeld=>?_)
   clear hK K
   try simp only [Act.put,qq]
   refine tu (i:=10) ?_
   try simp only [Act.put,qq]
   refine tu (i:=14) ?_
   try simp only [Act.put,qq]
   refine tq (i:=15) ?_
   try simp only [Act.put,qq]
   refine wpAnyH_done (by kernel_rfl) ?_ _
   clear hHeld;obtain ⟨z0,z1,z2,z3⟩:=zF T2.out
   go_wp2_with fail
   exact ⟨rfl,zl S2.out.fr⟩
theorem PostN.back {P g c:Nat} {ts:Ts} {w w0 w':World} {r:Rs Nd} {e:Ending} (b:Bl w w0) (h:PostN P g c ts w0 r e w'):PostN P g c ts w r e w':=by
 refine ⟨qu (za b) h.1,?_⟩
 have h2:=h.2
 cases r with
 | bad x=>exact h2
 | ok n s =>
  obtain ⟨v,ft,e1,h1,h3,h4⟩:=h2;exact ⟨v,ft,e1,h1,h3.mono b.size,h4⟩
theorem PostN.one {P g c:Nat} {ts:Ts} {bp:Nat} {α:Type} {vl:α→Nd} {W w':World} {F:List Nat} {acc:List α} {s:Ps} {r:Rs α} {rn:Rs Nd} {e:Ending} (hp:P≠bp) (i:I1 P g c ts bp W F acc s) (hr:rn=match r with | .ok a s'=>.ok (vl a) s' | .bad x=>.bad x) (hq:∀ a s',r=.ok a s'→Okq ts s') (h:PostN P g c ts W rn e w'):PostO vl (I1 P g c ts bp) acc W F r e w':=by
 have hF:=i.2.2.1
 subst hF
 refine ⟨h.1,?_⟩
 subst hr
 have h2:=h.2
 cases r with
 | bad x=>exact h2
 | ok a s' =>
  obtain ⟨v,ft,e1,h1,h3,h4⟩:=h2;exact ⟨v,ft,[P],e1,h1,h3,i.go h.1 hp h4 (hq a s' rfl),fun b hb=>Or.inl hb,fun b hb hm=>by simp at hm; have:=h3.lo b hb; have:=i.1.lt; omega⟩
theorem ent (n:Nat) (fn:Func) (c:Code) (hf:Tryz.prog.funcs[n]?=some fn) (hn:(fn.name == "runtime.NumGoroutine")=false) (hb:fn.body=some c):Enters Tryz.prog n:=enters_of hf hn hb
theorem NdsM.place {w:World}:∀ {ns:List Nd} {xs:List Value} {ft:List Nat},NdsM w ns xs ft→∀ i,i < ns.length→xs[i * 7+3]?=some (.int .i64 ((ns.map Nd.place).getD i 0:Nat)):=by
 intro ns
 induction ns with
 | nil=>intro xs ft h i hi; simp at hi
 | cons m ns ih =>
  intro xs ft h i hi
  cases h with
  | cons h1 h2 =>
   cases i with
   | zero =>
    rename_i c0 c1 c2 c3 c4 c5 c6 xs f1 f2
    generalize hv:Value.agg #[c0,c1,c2,c3,c4,c5,c6]=v at h1
    cases h1 with
    | mk g1 g2 g3 g4 =>
     injection hv with hv
     simp only [Array.mk.injEq,List.cons.injEq,and_true] at hv
     obtain ⟨rfl,rfl,rfl,rfl,rfl,rfl,rfl⟩:=hv;rfl
   | succ i =>
    have:=ih h2 i (by simpa using hi)
    rw [show (i+1) * 7+3=i * 7+3+7 by omega]
    simpa using this
theorem LN.node {α:Type} {vl:α→Nd} {I:Inv α} {w w':World} {F F':List Nat} {v:Value} {l:List α} {s:Ps} (h:LN vl I w F w' v l s F'):∃ p cp xs ft,v=.slice p l.length cp∧RowZ w' 34 7 w.heap.size v l.length xs∧NdsM w' (l.map vl) xs ft∧Apt w.heap.size (v.ownBlock.toList++ft)∧∀ k t n a,NdM w' (.mk k t n a [] [] (l.map vl)) (.agg #[.int .i64 k,.string (ba t),.int .i64 n,.int .i64 a,.slice none 0 0,.slice none 0 0,v]) (v.ownBlock.toList++ft):=by
 obtain ⟨xs,ft,h1,h2,h3,h4⟩:=h.ex
 obtain ⟨p,cp,e⟩:=qz h1.1
 refine ⟨p,cp,xs,ft,e,h1,h2,h3,fun k t n a=>?_⟩
 have:=NdM.mk (k:=k) (t:=t) (n:=n) (a:=a) (nms:=[]) (pls:=[]) (RowM.nil w' 9 1) (RowM.nil w' 3 1) (show RowM w' 34 7 v (l.map vl).length xs _ by rw [List.length_map]; exact h1.row) h2
 simpa using this
theorem row_at {w:World} {base e sz n:Nat} {p:Option Addr} {c:Nat} {xs:List Value} (h:w.ownsRow base e sz (.slice p n c) n xs) (hn:0 < n):∃ gk,p=some ⟨gk,0,none⟩∧base≤gk∧gk < w.heap.size∧n≤c∧∀ j u,xs[j]?=some u→w.cell? ⟨gk,j,none⟩=some u:=by
 rcases h.2 with ⟨e1,e2⟩ | ⟨g,cap,cur,e1,q1,q2,q3,q4,q5,q6⟩
 ·omega
 ·injection e1 with e1 _ e4
  subst e1; subst e4;refine ⟨g,rfl,q1,qf q2,q3,fun j u hj=>?_⟩
  rw [qh q2,← Array.getElem?_toList];rw [← q6,List.getElem?_take] at hj
  split at hj
  ·exact hj
  ·cases hj
end Go.Proofs.YtfhkhmgodkheaaaGreatDoor
