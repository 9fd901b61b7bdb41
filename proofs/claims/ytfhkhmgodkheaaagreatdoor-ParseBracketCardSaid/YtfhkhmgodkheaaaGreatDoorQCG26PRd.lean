import Derived.Test.YtfhkhmgodkheaaaGreatDoorQCG12PArr0
import Derived.Test.YtfhkhmgodkheaaaGreatDoorQCPBlk
import Derived.Test.YtfhkhmgodkheaaaGreatDoorQCPCas
import Derived.Test.YtfhkhmgodkheaaaGreatDoorQCG25PPrm
import Derived.Defers
import Derived.Recover
set_option linter.unusedSimpArgs false
set_option linter.unusedVariables false
set_option maxRecDepth 1000000
set_option maxHeartbeats 16000000
namespace Go.Proofs.YtfhkhmgodkheaaaGreatDoor
open Go.RowKit Go.Maps
theorem stepB {ops:Array Oper} {o:Oper} {a:Act} {w w':World} {v:Value} {K:Act→World→Prop} {Q:Exit→Act→World→Prop} {E:Prop} (hw:Region.wanted o (yielded ops a.tmps)=true) (hr:(execOp a.eval o).run Tryz.prog w=.ok (.value v) w') (h:K (a.put o.dst v) w'):if Region.wanted o (yielded ops a.tmps)=true then Oper.wp Tryz.prog o a w K Q else E:=by
 rw [if_pos hw]
 unfold Oper.wp
 rw [hr]
 exact h
theorem expression_ok (ts:Ts) (f:Nat) (hE:CN 118 ts (qD ts f)) (hC:CN 140 ts (zi ts f)):CN 118 ts (qD ts (f+1)):=by
 intro P g c s w r h hok hr
 have S0:=qd (Sw.start h hok)
 have HK:=qd (fun V p=>je P g c ts s 1 V p hok.ok hok.lt)
 have HC:=qd (fun V p e=>hC P g c s V r p hok e)
 have HT:=qd (fun V p=>zY P g c ts s V p hok.ok hok.lt)
 unfold qD at hr
 have hlt:=hok.lt
 have hlen:=hok.len
 by_cases hst:qi ts 1 s=true
 ·have hq:=hok.take (by rw [qk hst]; decide)
  have hpos:s.pos+1 < ts.length:=hq.lt;have HH:Hid (∀ V,Pr V P g c ts s→V.cell? ⟨P,0,none⟩=some (.slice (some ⟨g,0,none⟩) ts.length c)∧V.cell? ⟨P,1,none⟩=some (.int .i64 s.pos)∧V.cell? ⟨g,(s.pos+1) * 4,none⟩=some (.int .i64 (ts.getD (s.pos+1) zj).1.kind)):=qd (fun V p=>⟨p.cells.1,p.cells.2.1,(p.toks.cells (s.pos+1) hpos).1⟩)
  rw [hst] at HK;have hpi:(s.pos:Int)+1 < ts.length:=by omega
  by_cases ha:(ts.getD (s.pos+1) zj).1.kind=14
  ·rw [if_pos ⟨hst,ha⟩] at hr
   have hk2:hdT ts (qj ts s)=ts.getD (s.pos+1) zj:=rfl;have hq2:=hq.take (by rw [hk2,ha]; decide)
   have HT2:=qd (fun V p=>zY P g c ts (qj ts s) V p hq.ok hq.lt)
   have ka:(((ts.getD (s.pos+1) zj).1.kind:Int) != 14)=false:=by rw [ha]; rfl
   cases e1:qD ts f (qj ts (qj ts s)) with
   | none=>rw [e1] at hr; cases hr
   | some r1 =>
    rw [e1] at hr;have HE:=qd (fun V p=>hE P g c _ V r1 p hq2 e1)
    unfold tkv at HT HT2;clear h hok hE hC HC hst ha hq hq2 e1 hk2;generalize (ts.getD (s.pos+1) zj).1.kind=nk at *;generalize qj ts (qj ts s)=st2 at *;generalize hdT ts (qj ts s)=y at *;generalize qj ts s=st at *;generalize hdT ts s=x at *;obtain ⟨⟨tk,tt,tn⟩,tp⟩:=x;obtain ⟨⟨yk,yt,yn⟩,yp⟩:=y;dsimp only at *
    cases r1 with
    | bad z =>
     injection hr with hr
     subst hr
     go_enter Tryz.func118,Tryz.ntmps118
     go_wp2_with fail
     have S1:=qd S0.out.drew;refine wp_region_held_drew (S:=fun V=>V.cell? ⟨P,0,none⟩=some (.slice (some ⟨g,0,none⟩) ts.length c)∧V.cell? ⟨P,1,none⟩=some (.int .i64 s.pos)∧V.cell? ⟨g,(s.pos+1) * 4,none⟩=some (.int .i64 nk)) (by kernel_rfl) (HH.out _ S1.out.pr) (fun hHeld=>?_)
     refine tq (i:=0) ?_
     try simp only [Act.put,qq]
     refine qU (i:=1) (by kernel_rfl) rfl (fun K hK=>?_)
     refine qO (by rfl) 83 Tryz.f83 Tryz.func83 (by kernel_rfl) (by kernel_rfl) _ _ rfl _ (by first | (simp [Act.eval]; done) | (simp [Act.eval]; rfl)) _ (HK.out _ S1.out.pr) ?_
     rintro _ w1 ⟨rfl,b1⟩;have S2:=qd (S1.out.bl b1);clear b1;refine hK.out _ _ (HH.out _ S2.out.pr) (fun hHeld=>?_)
     clear hK K
     try simp only [Act.put,qq]
     refine tq (i:=2) ?_
     try simp only [Act.put,qq]
     refine tq (i:=3) ?_
     try simp only [Act.put,qq]
     refine tq (i:=4) ?_
     try simp only [Act.put,qq]
     refine tq (i:=5) ?_
     try simp only [Act.put,qq]
     refine tq (i:=6) ?_
     try simp only [Act.put,qq]
     refine tq (i:=7) ?_
     try simp only [Act.put,qq]
     refine tq (i:=8) ?_
     try simp only [Act.put,qq]
     refine tq (i:=9) ?_
     try simp only [Act.put,qq]
     refine tq (i:=10) ?_
     try simp only [Act.put,qq]
     refine tq (i:=11) ?_
     try simp only [Act.put,qq]
     refine wpAnyH_take (i:=12) (v:=.int .i64 (s.pos+1:Nat)) rfl (by kernel_rfl) (by kernel_rfl) (by kernel_rfl) (fun _ _ _ h=>h) (Or.inl ⟨by rfl,?_⟩) (by assumption) ?_
     ·(intro w hSw; obtain ⟨hS1,hS2,hS3⟩:=hSw; go_simp; rw [zP _ (by omega) (by omega)]; try omega)
     try simp only [Act.put,qq]
     refine wpAnyH_take (i:=13) (v:=.pointer (some ⟨g,(s.pos+1) * 4,none⟩)) rfl (by kernel_rfl) (by kernel_rfl) (by kernel_rfl) (fun _ _ _ h=>h) (Or.inl ⟨by rfl,?_⟩) (by assumption) ?_
     ·(intro w hSw; obtain ⟨hS1,hS2,hS3⟩:=hSw; go_simp; all_goals omega)
     try simp only [Act.put,qq]
     refine tq (i:=14) ?_
     try simp only [Act.put,qq]
     refine tq (i:=15) ?_
     try simp only [Act.put,qq]
     refine tq (i:=16) ?_
     try simp only [Act.put,qq]
     refine tq (i:=17) ?_
     try simp only [Act.put,qq]
     refine wpAnyH_done (by kernel_rfl) ?_ _
     clear hHeld
     go_wp2_with (first
      | (go_at_call 80; first | (refine (HT.out _ S2.out.pr).mono ?_; rintro e w3 ⟨rfl,p3,f3⟩; have S3:=qd ((S2.out.go f3 p3).bl (Bl.alloc w3 (.cells #[.int .i64 tk,.string (ba tt),.int .i64 tn,.int .i64 tp] 54))); have T3:=qd (heap_alloc_new w3 (.cells #[.int .i64 tk,.string (ba tt),.int .i64 tn,.int .i64 tp] 54)); have L3:Hid (w.heap.size < w3.heap.size):=qd ((S2.out.go f3 p3).size); clear p3 f3 HT) | (refine (HT2.out _ S3.out.pr).mono ?_; rintro e w4 ⟨rfl,p4,f4⟩; have S4:=qd (S3.out.go f4 p4); have hne:w3.heap.size≠P:=(by have:=S3.out.lp; have:=L3.out; omega); have T4:=qd ((f4.block _ (qf T3.out) (by simpa using hne)).trans T3.out); clear p4 f4 HT2)))
     have S5:=qd S4.out.drew;have T5:Hid (w4.drew.heap[w3.heap.size]?=some (.cells #[.int .i64 tk,.string (ba tt),.int .i64 tn,.int .i64 tp] 54 (0,0))):=qd T4.out;have hne:w3.heap.size≠P:=by have:=S5.out.lp; have:=L3.out; omega
     refine wp_region_held_drew (S:=fun V=>V.cell? ⟨w3.heap.size,1,none⟩=some (.string (ba tt))∧V.cell? ⟨w3.heap.size,3,none⟩=some (.int .i64 tp)) (by kernel_rfl) (⟨qh T5.out,qh T5.out⟩) (fun hHeld=>?_)
     refine tq (i:=0) ?_
     try simp only [Act.put,qq]
     refine tq (i:=1) ?_
     try simp only [Act.put,qq]
     refine tq (i:=2) ?_
     try simp only [Act.put,qq]
     refine tq (i:=3) ?_
     try simp only [Act.put,qq]
     refine tq (i:=4) ?_
     try simp only [Act.put,qq]
     refine qU (i:=5) (by kernel_rfl) rfl (fun K hK=>?_)
     refine qO (by rfl) 118 Tryz.f118 Tryz.func118 (by kernel_rfl) (by kernel_rfl) _ _ rfl _ (by first | (simp [Act.eval]; done) | (simp [Act.eval]; rfl)) _ (HE.out _ S5.out.pr) ?_
     intro e w6 q6;obtain ⟨rfl,f6⟩:=zy q6;exact ⟨rfl,zl (qu S5.out.fr f6)⟩
    | ok n s1 =>
     injection hr with hr
     subst hr
     go_enter Tryz.func118,Tryz.ntmps118
     go_wp2_with fail
     have S1:=qd S0.out.drew;refine wp_region_held_drew (S:=fun V=>V.cell? ⟨P,0,none⟩=some (.slice (some ⟨g,0,none⟩) ts.length c)∧V.cell? ⟨P,1,none⟩=some (.int .i64 s.pos)∧V.cell? ⟨g,(s.pos+1) * 4,none⟩=some (.int .i64 nk)) (by kernel_rfl) (HH.out _ S1.out.pr) (fun hHeld=>?_)
     refine tq (i:=0) ?_
     try simp only [Act.put,qq]
     refine qU (i:=1) (by kernel_rfl) rfl (fun K hK=>?_)
     refine qO (by rfl) 83 Tryz.f83 Tryz.func83 (by kernel_rfl) (by kernel_rfl) _ _ rfl _ (by first | (simp [Act.eval]; done) | (simp [Act.eval]; rfl)) _ (HK.out _ S1.out.pr) ?_
     rintro _ w1 ⟨rfl,b1⟩;have S2:=qd (S1.out.bl b1);clear b1;refine hK.out _ _ (HH.out _ S2.out.pr) (fun hHeld=>?_)
     clear hK K
     try simp only [Act.put,qq]
     refine tq (i:=2) ?_
     try simp only [Act.put,qq]
     refine tq (i:=3) ?_
     try simp only [Act.put,qq]
     refine tq (i:=4) ?_
     try simp only [Act.put,qq]
     refine tq (i:=5) ?_
     try simp only [Act.put,qq]
     refine tq (i:=6) ?_
     try simp only [Act.put,qq]
     refine tq (i:=7) ?_
     try simp only [Act.put,qq]
     refine tq (i:=8) ?_
     try simp only [Act.put,qq]
     refine tq (i:=9) ?_
     try simp only [Act.put,qq]
     refine tq (i:=10) ?_
     try simp only [Act.put,qq]
     refine tq (i:=11) ?_
     try simp only [Act.put,qq]
     refine wpAnyH_take (i:=12) (v:=.int .i64 (s.pos+1:Nat)) rfl (by kernel_rfl) (by kernel_rfl) (by kernel_rfl) (fun _ _ _ h=>h) (Or.inl ⟨by rfl,?_⟩) (by assumption) ?_
     ·(intro w hSw; obtain ⟨hS1,hS2,hS3⟩:=hSw; go_simp; rw [zP _ (by omega) (by omega)]; try omega)
     try simp only [Act.put,qq]
     refine wpAnyH_take (i:=13) (v:=.pointer (some ⟨g,(s.pos+1) * 4,none⟩)) rfl (by kernel_rfl) (by kernel_rfl) (by kernel_rfl) (fun _ _ _ h=>h) (Or.inl ⟨by rfl,?_⟩) (by assumption) ?_
     ·(intro w hSw; obtain ⟨hS1,hS2,hS3⟩:=hSw; go_simp; all_goals omega)
     try simp only [Act.put,qq]
     refine tq (i:=14) ?_
     try simp only [Act.put,qq]
     refine tq (i:=15) ?_
     try simp only [Act.put,qq]
     refine tq (i:=16) ?_
     try simp only [Act.put,qq]
     refine tq (i:=17) ?_
     try simp only [Act.put,qq]
     refine wpAnyH_done (by kernel_rfl) ?_ _
     clear hHeld
     go_wp2_with (first
      | (go_at_call 80; first | (refine (HT.out _ S2.out.pr).mono ?_; rintro e w3 ⟨rfl,p3,f3⟩; have S3:=qd ((S2.out.go f3 p3).bl (Bl.alloc w3 (.cells #[.int .i64 tk,.string (ba tt),.int .i64 tn,.int .i64 tp] 54))); have T3:=qd (heap_alloc_new w3 (.cells #[.int .i64 tk,.string (ba tt),.int .i64 tn,.int .i64 tp] 54)); have L3:Hid (w.heap.size < w3.heap.size):=qd ((S2.out.go f3 p3).size); clear p3 f3 HT) | (refine (HT2.out _ S3.out.pr).mono ?_; rintro e w4 ⟨rfl,p4,f4⟩; have S4:=qd (S3.out.go f4 p4); have hne:w3.heap.size≠P:=(by have:=S3.out.lp; have:=L3.out; omega); have T4:=qd ((f4.block _ (qf T3.out) (by simpa using hne)).trans T3.out); clear p4 f4 HT2)))
     have S5:=qd S4.out.drew;have T5:Hid (w4.drew.heap[w3.heap.size]?=some (.cells #[.int .i64 tk,.string (ba tt),.int .i64 tn,.int .i64 tp] 54 (0,0))):=qd T4.out;have hne:w3.heap.size≠P:=by have:=S5.out.lp; have:=L3.out; omega
     refine wp_region_held_drew (S:=fun V=>V.cell? ⟨w3.heap.size,1,none⟩=some (.string (ba tt))∧V.cell? ⟨w3.heap.size,3,none⟩=some (.int .i64 tp)) (by kernel_rfl) (⟨qh T5.out,qh T5.out⟩) (fun hHeld=>?_)
     refine tq (i:=0) ?_
     try simp only [Act.put,qq]
     refine tq (i:=1) ?_
     try simp only [Act.put,qq]
     refine tq (i:=2) ?_
     try simp only [Act.put,qq]
     refine tq (i:=3) ?_
     try simp only [Act.put,qq]
     refine tq (i:=4) ?_
     try simp only [Act.put,qq]
     refine qU (i:=5) (by kernel_rfl) rfl (fun K hK=>?_)
     refine qO (by rfl) 118 Tryz.f118 Tryz.func118 (by kernel_rfl) (by kernel_rfl) _ _ rfl _ (by first | (simp [Act.eval]; done) | (simp [Act.eval]; rfl)) _ (HE.out _ S5.out.pr) ?_
     intro e w6 q6;obtain ⟨c0,c1,c2,c3,c4,c5,c6,ft,rfl,n6,a6,p6,f6⟩:=zK q6;have T6:=qd ((f6.block _ (qf T5.out) (by simpa using hne)).trans T5.out)
     have T7:Hid ((w6.alloc (.cells #[c0,c1,c2,c3,c4,c5,c6] 34)).heap[w3.heap.size]?=some (.cells #[.int .i64 tk,.string (ba tt),.int .i64 tn,.int .i64 tp] 54 (0,0))):=qd ((Below.heap_alloc _ _ _ (qf T6.out)).trans T6.out);have S7:=qd ((S5.out.go f6 p6).bl (Bl.alloc w6 (.cells #[c0,c1,c2,c3,c4,c5,c6] 34)));have N7:=qd (NdM.kid 8 tt tp (n6.fr (Fr.alloc [] w6 (.cells #[c0,c1,c2,c3,c4,c5,c6] 34)) (by simp)) (heap_alloc_new w6 _))
     have A7:Hid (Apt (w.heap.size+1) (w6.heap.size :: ft)):=qd ((a6.mono S5.out.size).cons (by have:=S5.out.size; have:=f6.size; omega) (fun hm=>by have:=n6.lt _ hm; omega))
     have HNe:Hid (w3.heap.size≠w.heap.size):=qd (by have:=L3.out; omega)
     clear q6 n6 a6 p6 f6;refine hK.out _ _ (⟨qh T6.out,qh T6.out⟩) (fun hHeld=>?_)
     clear hK K
     try simp only [Act.put,qq]
     refine qU (i:=6) (by kernel_rfl) rfl (fun K hK=>?_)
     refine stepB (by rfl) (v:=.slice (some ⟨w6.heap.size,0,none⟩) 1 1) (w':=w6.alloc (.cells #[c0,c1,c2,c3,c4,c5,c6] 34)) (by go_simp) ?_
     refine hK.out _ _ (⟨qh T7.out,qh T7.out⟩) (fun hHeld=>?_)
     clear hK K
     try simp only [Act.put,qq]
     refine tq (i:=7) ?_
     try simp only [Act.put,qq]
     refine qU (i:=8) (by kernel_rfl) rfl (fun K hK=>?_)
     refine jn (by rfl) 34 _ _ rfl w.heap.size #[.int .i64 8,.string (ba tt),.int .i64 0,.int .i64 tp,.slice none 0 0,.slice none 0 0,.slice (some ⟨w6.heap.size,0,none⟩) 1 1] rfl rfl 34 _ S7.out.res (by kernel_rfl) rfl (by kernel_rfl) ?_
     refine hK.out _ _ (⟨jC T7.out HNe.out 1,jC T7.out HNe.out 3⟩) (fun hHeld=>?_)
     clear hK K
     try simp only [Act.put,qq]
     refine wpAnyH_done (by kernel_rfl) ?_ _
     go_wp2_with fail
     exact S7.out.endN Tryz.results118 rfl N7.out A7.out
  ·rw [if_neg (by rintro ⟨_,h⟩; exact ha h)] at hr
   replace HC:=qd (fun V p=>HC.out V p hr)
   have ka:(((ts.getD (s.pos+1) zj).1.kind:Int) != 14)=true:=bne_iff_ne.2 (by omega)
   clear h hok hE hC HT hst ha hr hq;generalize (ts.getD (s.pos+1) zj).1.kind=nk at *
   cases r with
   | bad x =>
    go_enter Tryz.func118,Tryz.ntmps118
    go_wp2_with fail
    have S1:=qd S0.out.drew;refine wp_region_held_drew (S:=fun V=>V.cell? ⟨P,0,none⟩=some (.slice (some ⟨g,0,none⟩) ts.length c)∧V.cell? ⟨P,1,none⟩=some (.int .i64 s.pos)∧V.cell? ⟨g,(s.pos+1) * 4,none⟩=some (.int .i64 nk)) (by kernel_rfl) (HH.out _ S1.out.pr) (fun hHeld=>?_)
    refine tq (i:=0) ?_
    try simp only [Act.put,qq]
    refine qU (i:=1) (by kernel_rfl) rfl (fun K hK=>?_)
    refine qO (by rfl) 83 Tryz.f83 Tryz.func83 (by kernel_rfl) (by kernel_rfl) _ _ rfl _ (by first | (simp [Act.eval]; done) | (simp [Act.eval]; rfl)) _ (HK.out _ S1.out.pr) ?_
    rintro _ w1 ⟨rfl,b1⟩;have S2:=qd (S1.out.bl b1);clear b1;refine hK.out _ _ (HH.out _ S2.out.pr) (fun hHeld=>?_)
    clear hK K
    try simp only [Act.put,qq]
    refine tq (i:=2) ?_
    try simp only [Act.put,qq]
    refine tq (i:=3) ?_
    try simp only [Act.put,qq]
    refine tq (i:=4) ?_
    try simp only [Act.put,qq]
    refine tq (i:=5) ?_
    try simp only [Act.put,qq]
    refine tq (i:=6) ?_
    try simp only [Act.put,qq]
    refine tq (i:=7) ?_
    try simp only [Act.put,qq]
    refine tq (i:=8) ?_
    try simp only [Act.put,qq]
    refine tq (i:=9) ?_
    try simp only [Act.put,qq]
    refine tq (i:=10) ?_
    try simp only [Act.put,qq]
    refine tq (i:=11) ?_
    try simp only [Act.put,qq]
    refine wpAnyH_take (i:=12) (v:=.int .i64 (s.pos+1:Nat)) rfl (by kernel_rfl) (by kernel_rfl) (by kernel_rfl) (fun _ _ _ h=>h) (Or.inl ⟨by rfl,?_⟩) (by assumption) ?_
    ·(intro w hSw; obtain ⟨hS1,hS2,hS3⟩:=hSw; go_simp; rw [zP _ (by omega) (by omega)]; try omega)
    try simp only [Act.put,qq]
    refine wpAnyH_take (i:=13) (v:=.pointer (some ⟨g,(s.pos+1) * 4,none⟩)) rfl (by kernel_rfl) (by kernel_rfl) (by kernel_rfl) (fun _ _ _ h=>h) (Or.inl ⟨by rfl,?_⟩) (by assumption) ?_
    ·(intro w hSw; obtain ⟨hS1,hS2,hS3⟩:=hSw; go_simp; all_goals omega)
    try simp only [Act.put,qq]
    refine tq (i:=14) ?_
    try simp only [Act.put,qq]
    refine tq (i:=15) ?_
    try simp only [Act.put,qq]
    refine tq (i:=16) ?_
    try simp only [Act.put,qq]
    refine tq (i:=17) ?_
    try simp only [Act.put,qq]
    refine wpAnyH_done (by kernel_rfl) ?_ _
    clear hHeld
    go_wp2_with (first
     | (go_at_call 140; refine (HC.out _ S2.out.pr).mono ?_; intro e w9 q9; obtain ⟨rfl,f9⟩:=zy q9; have F9:=qd (qu S2.out.fr f9); clear q9 f9))
    exact ⟨rfl,zl F9.out⟩
   | ok n s1 =>
    go_enter Tryz.func118,Tryz.ntmps118
    go_wp2_with fail
    have S1:=qd S0.out.drew;refine wp_region_held_drew (S:=fun V=>V.cell? ⟨P,0,none⟩=some (.slice (some ⟨g,0,none⟩) ts.length c)∧V.cell? ⟨P,1,none⟩=some (.int .i64 s.pos)∧V.cell? ⟨g,(s.pos+1) * 4,none⟩=some (.int .i64 nk)) (by kernel_rfl) (HH.out _ S1.out.pr) (fun hHeld=>?_)
    refine tq (i:=0) ?_
    try simp only [Act.put,qq]
    refine qU (i:=1) (by kernel_rfl) rfl (fun K hK=>?_)
    refine qO (by rfl) 83 Tryz.f83 Tryz.func83 (by kernel_rfl) (by kernel_rfl) _ _ rfl _ (by first | (simp [Act.eval]; done) | (simp [Act.eval]; rfl)) _ (HK.out _ S1.out.pr) ?_
    rintro _ w1 ⟨rfl,b1⟩;have S2:=qd (S1.out.bl b1);clear b1;refine hK.out _ _ (HH.out _ S2.out.pr) (fun hHeld=>?_)
    clear hK K
    try simp only [Act.put,qq]
    refine tq (i:=2) ?_
    try simp only [Act.put,qq]
    refine tq (i:=3) ?_
    try simp only [Act.put,qq]
    refine tq (i:=4) ?_
    try simp only [Act.put,qq]
    refine tq (i:=5) ?_
    try simp only [Act.put,qq]
    refine tq (i:=6) ?_
    try simp only [Act.put,qq]
    refine tq (i:=7) ?_
    try simp only [Act.put,qq]
    refine tq (i:=8) ?_
    try simp only [Act.put,qq]
    refine tq (i:=9) ?_
    try simp only [Act.put,qq]
    refine tq (i:=10) ?_
    try simp only [Act.put,qq]
    refine tq (i:=11) ?_
    try simp only [Act.put,qq]
    refine wpAnyH_take (i:=12) (v:=.int .i64 (s.pos+1:Nat)) rfl (by kernel_rfl) (by kernel_rfl) (by kernel_rfl) (fun _ _ _ h=>h) (Or.inl ⟨by rfl,?_⟩) (by assumption) ?_
    ·(intro w hSw; obtain ⟨hS1,hS2,hS3⟩:=hSw; go_simp; rw [zP _ (by omega) (by omega)]; try omega)
    try simp only [Act.put,qq]
    refine wpAnyH_take (i:=13) (v:=.pointer (some ⟨g,(s.pos+1) * 4,none⟩)) rfl (by kernel_rfl) (by kernel_rfl) (by kernel_rfl) (fun _ _ _ h=>h) (Or.inl ⟨by rfl,?_⟩) (by assumption) ?_
    ·(intro w hSw; obtain ⟨hS1,hS2,hS3⟩:=hSw; go_simp; all_goals omega)
    try simp only [Act.put,qq]
    refine tq (i:=14) ?_
    try simp only [Act.put,qq]
    refine tq (i:=15) ?_
    try simp only [Act.put,qq]
    refine tq (i:=16) ?_
    try simp only [Act.put,qq]
    refine tq (i:=17) ?_
    try simp only [Act.put,qq]
    refine wpAnyH_done (by kernel_rfl) ?_ _
    clear hHeld
    go_wp2_with (first
     | (
      go_at_call 140; refine (HC.out _ S2.out.pr).mono ?_; intro e w9 q9; obtain ⟨c0,c1,c2,c3,c4,c5,c6,ft,rfl,n9,a9,p9,f9⟩:=zK q9
      have S9:=qd (S2.out.go f9 p9);have N9:=qd n9;have A9:Hid (Apt (w.heap.size+1) ft):=qd (a9.mono S2.out.size);clear q9 n9 a9 p9 f9)
     | (refine wpList_store_row rfl 34 _ _ rfl w.heap.size #[c0,c1,c2,c3,c4,c5,c6] rfl rfl 34 _ S9.out.res (by kernel_rfl) rfl (qL N9.out) ?_))
    exact S9.out.endN Tryz.results118 rfl N9.out A9.out
 ·have hst2:qi ts 1 s=false:=by simpa using hst
  rw [if_neg (by rintro ⟨h,_⟩; exact hst h)] at hr
  replace HC:=qd (fun V p=>HC.out V p hr)
  rw [hst2] at HK;have HH:Hid (∀ V,Pr V P g c ts s→True∧True∧True):=qd (fun V p=>⟨trivial,trivial,trivial⟩)
  clear h hok hE hC HT hst hst2 hr
  cases r with
  | bad x =>
   go_enter Tryz.func118,Tryz.ntmps118
   go_wp2_with fail
   have S1:=qd S0.out.drew;refine wp_region_held_drew (S:=fun V=>True∧True∧True) (by kernel_rfl) (HH.out _ S1.out.pr) (fun hHeld=>?_)
   refine tq (i:=0) ?_
   try simp only [Act.put,qq]
   refine qU (i:=1) (by kernel_rfl) rfl (fun K hK=>?_)
   refine qO (by rfl) 83 Tryz.f83 Tryz.func83 (by kernel_rfl) (by kernel_rfl) _ _ rfl _ (by first | (simp [Act.eval]; done) | (simp [Act.eval]; rfl)) _ (HK.out _ S1.out.pr) ?_
   rintro _ w1 ⟨rfl,b1⟩;have S2:=qd (S1.out.bl b1);clear b1;refine hK.out _ _ (HH.out _ S2.out.pr) (fun hHeld=>?_)
   clear hK K
   try simp only [Act.put,qq]
   refine tq (i:=2) ?_
   try simp only [Act.put,qq]
   refine tq (i:=3) ?_
   try simp only [Act.put,qq]
   refine tu (i:=4) ?_
   try simp only [Act.put,qq]
   refine tu (i:=5) ?_
   try simp only [Act.put,qq]
   refine tu (i:=6) ?_
   try simp only [Act.put,qq]
   refine tu (i:=7) ?_
   try simp only [Act.put,qq]
   refine tu (i:=8) ?_
   try simp only [Act.put,qq]
   refine tu (i:=9) ?_
   try simp only [Act.put,qq]
   refine tu (i:=10) ?_
   try simp only [Act.put,qq]
   refine tu (i:=11) ?_
   try simp only [Act.put,qq]
   refine tu (i:=12) ?_
   try simp only [Act.put,qq]
   refine tu (i:=13) ?_
   try simp only [Act.put,qq]
   refine tu (i:=14) ?_
   try simp only [Act.put,qq]
   refine tu (i:=15) ?_
   try simp only [Act.put,qq]
   refine tu (i:=16) ?_
   try simp only [Act.put,qq]
   refine tq (i:=17) ?_
   try simp only [Act.put,qq]
   refine wpAnyH_done (by kernel_rfl) ?_ _
   clear hHeld
   go_wp2_with (first
    | (go_at_call 140; refine (HC.out _ S2.out.pr).mono ?_; intro e w9 q9; obtain ⟨rfl,f9⟩:=zy q9; have F9:=qd (qu S2.out.fr f9); clear q9 f9))
   exact ⟨rfl,zl F9.out⟩
  | ok n s1 =>
   go_enter Tryz.func118,Tryz.ntmps118
   go_wp2_with fail
   have S1:=qd S0.out.drew;refine wp_region_held_drew (S:=fun V=>True∧True∧True) (by kernel_rfl) (HH.out _ S1.out.pr) (fun hHeld=>?_)
   refine tq (i:=0) ?_
   try simp only [Act.put,qq]
   refine qU (i:=1) (by kernel_rfl) rfl (fun K hK=>?_)
   refine qO (by rfl) 83 Tryz.f83 Tryz.func83 (by kernel_rfl) (by kernel_rfl) _ _ rfl _ (by first | (simp [Act.eval]; done) | (simp [Act.eval]; rfl)) _ (HK.out _ S1.out.pr) ?_
   rintro _ w1 ⟨rfl,b1⟩;have S2:=qd (S1.out.bl b1);clear b1;refine hK.out _ _ (HH.out _ S2.out.pr) (fun hHeld=>?_)
   clear hK K
   try simp only [Act.put,qq]
   refine tq (i:=2) ?_
   try simp only [Act.put,qq]
   refine tq (i:=3) ?_
   try simp only [Act.put,qq]
   refine tu (i:=4) ?_
   try simp only [Act.put,qq]
   refine tu (i:=5) ?_
   try simp only [Act.put,qq]
   refine tu (i:=6) ?_
   try simp only [Act.put,qq]
   refine tu (i:=7) ?_
   try simp only [Act.put,qq]
   refine tu (i:=8) ?_
   try simp only [Act.put,qq]
   refine tu (i:=9) ?_
   try simp only [Act.put,qq]
   refine tu (i:=10) ?_
   try simp only [Act.put,qq]
   refine tu (i:=11) ?_
   try simp only [Act.put,qq]
   refine tu (i:=12) ?_
   try simp only [Act.put,qq]
   refine tu (i:=13) ?_
   try simp only [Act.put,qq]
   refine tu (i:=14) ?_
   try simp only [Act.put,qq]
   refine tu (i:=15) ?_
   try simp only [Act.put,qq]
   refine tu (i:=16) ?_
   try simp only [Act.put,qq]
   refine tq (i:=17) ?_
   try simp only [Act.put,qq]
   refine wpAnyH_done (by kernel_rfl) ?_ _
   clear hHeld
   go_wp2_with (first
    | (
     go_at_call 140; refine (HC.out _ S2.out.pr).mono ?_; intro e w9 q9; obtain ⟨c0,c1,c2,c3,c4,c5,c6,ft,rfl,n9,a9,p9,f9⟩:=zK q9
     have S9:=qd (S2.out.go f9 p9);have N9:=qd n9;have A9:Hid (Apt (w.heap.size+1) ft):=qd (a9.mono S2.out.size);clear q9 n9 a9 p9 f9)
    | (refine wpList_store_row rfl 34 _ _ rfl w.heap.size #[c0,c1,c2,c3,c4,c5,c6] rfl rfl 34 _ S9.out.res (by kernel_rfl) rfl (qL N9.out) ?_))
   exact S9.out.endN Tryz.results118 rfl N9.out A9.out
structure All (ts:Ts) (f:Nat):Prop where
 expr:CN 118 ts (qD ts f)
 casc:CN 140 ts (zi ts f)
 sends:CS3 ts f
 msg:CN 156 ts (qM ts f)
 prim:∀ most P g c s w r,Pr w P g c ts s→Okq ts s→ze ts f most s=some r→Calls Tryz.prog 163 #[.pointer (some ⟨P,0,none⟩),.int .i64 most] w (PostN P g c ts w r)
 lit:CN 178 ts (zb ts f)
 elem:CN 196 ts (qX ts f)
 blk:∀ P g c s w r,Pr w P g c ts s→Okq ts s→(hdT ts s).1.kind=10→zO ts f s=some r→Calls Tryz.prog 177 #[.pointer (some ⟨P,0,none⟩)] w (PostN P g c ts w r)
 stmt:CN 91 ts (qA ts f)
 body:∀ fin P g c s w r,Pr w P g c ts s→Okq ts s→zg ts f fin s=some r→Calls Tryz.prog 60 #[.pointer (some ⟨P,0,none⟩),.int .i64 fin] w (PostB P g c ts w r)
theorem all_zero (ts:Ts):All ts 0:=by
 refine ⟨?_,?_,?_,?_,?_,?_,?_,?_,?_,?_⟩
 ·intro P g c s w r _ _ e; unfold qD at e; cases e
 ·intro P g c s w r _ _ e; unfold zi at e; cases e
 ·intro most P g c s w r _ _ _ e; unfold zm at e; cases e
 ·intro P g c s w r _ _ e; unfold qM at e; cases e
 ·intro most P g c s w r _ _ e; unfold ze at e; cases e
 ·intro P g c s w r _ _ e; unfold zb at e; cases e
 ·intro P g c s w r _ _ e; unfold qX at e; cases e
 ·intro P g c s w r _ _ _ e; unfold zO at e; cases e
 ·intro P g c s w r _ _ e; unfold qA at e; cases e
 ·intro fin P g c s w r _ _ e; unfold zg at e; cases e
theorem all_ok (ts:Ts) (hnum:∀ x∈ts,x.1.num≤9007199254740992):∀ f f',f'≤f→All ts f':=by
 intro f
 induction f with
 | zero=>intro f' h; rw [Nat.le_zero.1 h]; exact all_zero ts
 | succ f ih =>
  intro f' h
  cases f' with
  | zero=>exact all_zero ts
  | succ f' =>
   have i:=ih f' (by omega)
   exact ⟨expression_ok ts f' i.expr i.casc,cascade_ok ts f' i.sends i.msg,sends_ok ts f' (fun most=>i.prim most) (fun k hk=>(ih k (by omega)).msg),message_ok ts f' i.sends,fun most=>primary_ok ts f' most i.expr i.blk i.lit,literal_ok ts f' (integer_ok ts hnum) (array_ok ts f' i.elem),element_ok ts f' i.lit,block_ok ts f' (fun P g c s w r=>i.body 11 P g c s w r),statement_ok ts f' i.expr,fun fin=>body_ok ts f' fin i.stmt⟩
theorem doit_all (ts:Ts) (hnum:∀ x∈ts,x.1.num≤9007199254740992) (f P g c:Nat) (s:Ps) (w:World) (r:Rs Src) (h:Pr w P g c ts s) (hok:Okq ts s) (hr:doitP ts f s=some r):Calls Tryz.prog 25 #[.pointer (some ⟨P,0,none⟩)] w (PostR P g c ts w r) :=
 doit_ok ts f (fun P g c s w r=>(all_ok ts hnum f f (Nat.le_refl _)).body 18 P g c s w r) P g c s w r h hok hr
theorem method_all (ts:Ts) (hnum:∀ x∈ts,x.1.num≤9007199254740992) (f P g c:Nat) (s:Ps) (w:World) (r:Rs Src) (h:Pr w P g c ts s) (hok:Okq ts s) (hr:methodP ts f s=some r):Calls Tryz.prog 32 #[.pointer (some ⟨P,0,none⟩)] w (PostR P g c ts w r) :=
 method_ok ts f (fun P g c s w r=>(all_ok ts hnum f f (Nat.le_refl _)).body 18 P g c s w r) P g c s w r h hok hr
theorem doit_df (ts:Ts) (s:Ps) (h:Okq ts s):∃ r,doitP ts (16 * zZ ts s+40) s=some r:=by
 unfold doitP restP
 refine Df.bind (temporaries_df _ h (by omega)) (fun tm s1 e1=>?_)
 obtain ⟨q1,q2⟩:=qZ _ h tm s1 e1
 have:=remT_le (ts:=ts) q1
 exact Df.bind ((df_all ts _).body 18 s1 q2 (by omega)) (fun l s2 _=>Df.mk)
theorem method_df (ts:Ts) (s:Ps) (h:Okq ts s):∃ r,methodP ts (16 * zZ ts s+40) s=some r:=by
 unfold methodP
 have hpo:∀ k s,k≤3→Okq ts s→Pq ts s ((fun (_:Nat) s=>some (qS ts 1 s)) k s):=fun k s _ hs=>(Pg.need hs (by decide)).q
 refine Df.bind (worded_df (R:=zZ ts s) hpo (fun k s _ hs _=>Df.mk) _ s h (Nat.le_refl _) (by omega)) (fun x s1 e1=>?_)
 obtain ⟨q1,q2⟩:=worded_pg hpo _ s h x s1 e1
 have r1:=remT_lt h q1
 refine Df.bind ?_ (fun t s2 _=>Df.mk)
 unfold restP
 refine Df.bind (temporaries_df _ q2 (by omega)) (fun tm s3 e3=>?_)
 obtain ⟨q3,q4⟩:=qZ _ q2 tm s3 e3
 have:=remT_le (ts:=ts) q3
 exact Df.bind ((df_all ts _).body 18 s3 q4 (by omega)) (fun l s2 _=>Df.mk)
theorem catch_idle (B:Nat) (w:World):CallsD Tryz.prog 33 #[.pointer (some ⟨B,0,none⟩)] .returning w fun e u' w'=>e=.returned (.tuple #[])∧u'=.returning∧w'=w:=by
 refine callsD_of_wpS Tryz.func33 rfl fun c₀ cs hu=>?_
 apply wpS_seq
 apply wpS_region
 simp [wpOpsS,go_sem,recoverD,hu,Tryz.ntmps33,Exit.thenS]
 refine wpS_of_wp ?_
 go_wp2_with fail
 cases c₀
 simp_all [bodyPostS,results,Tryz.results33]
theorem catch_bad (x:Tok × Nat) (B:Nat) (f0 f1:Int) (w:World) (hB:w.heap[B]?=some (.cells #[.int .i64 f0,.int .i64 f1] 30 (0,0))) :
  CallsD Tryz.prog 33 #[.pointer (some ⟨B,0,none⟩)] (.panicking [{ v:=jl x,recovered:=false }]) w fun e u' w'=>e=.returned (.tuple #[])∧u'=.panicking [{ v:=jl x,recovered:=true }]∧Fr [B] w w'∧w'.heap[B]?=some (.cells #[.int .i64 71,.int .i64 x.2] 30 (0,0)):=by
 obtain ⟨⟨tk,tt,tn⟩,tp⟩:=x
 have HB:=qd hB
 refine callsD_of_wpS Tryz.func33 rfl fun c₀ cs hu=>?_
 unfold jl at *
 dsimp only at *
 apply wpS_seq
 apply wpS_region
 simp [wpOpsS,go_sem,recoverD,hu,Tryz.ntmps33,Exit.thenS]
 refine wpS_of_wp ?_
 rw [show (#[.pointer (some ⟨B,0,none⟩)]:Array Value)++(Array.replicate 13 undef).setIfInBounds 3 (.iface 75 (.agg #[.int .i64 tk,.string (ba tt),.int .i64 tn,.int .i64 tp]))=#[.pointer (some ⟨B,0,none⟩),undef,undef,undef,.iface 75 (.agg #[.int .i64 tk,.string (ba tt),.int .i64 tn,.int .i64 tp]),undef,undef,undef,undef,undef,undef,undef,undef,undef] from rfl]
 have hta:∀ W,(Instr.typeAssert (.iface 75 (.agg #[.int .i64 tk,.string (ba tt),.int .i64 tn,.int .i64 tp])) 20 75 true).run Tryz.prog W=.ok (.tuple #[.agg #[.int .i64 tk,.string (ba tt),.int .i64 tn,.int .i64 tp],.bool true]) W:=fun W=>by kernel_rfl
 have HX:Hid ((w.alloc (.cells #[.int .i64 tk,.string (ba tt),.int .i64 tn,.int .i64 tp] 75)).heap[B]?=some (.cells #[.int .i64 f0,.int .i64 f1] 30 (0,0))):=qd ((Below.heap_alloc _ _ _ (qf hB)).trans hB)
 have HE:Hid (Fr [B] w ((w.alloc (.cells #[.int .i64 tk,.string (ba tt),.int .i64 tn,.int .i64 tp] 75)).setRow B #[.int .i64 71,.int .i64 tp])∧((w.alloc (.cells #[.int .i64 tk,.string (ba tt),.int .i64 tn,.int .i64 tp] 75)).setRow B #[.int .i64 71,.int .i64 tp]).heap[B]?=some (.cells #[.int .i64 71,.int .i64 tp] 30 (0,0))):=qd ⟨(Fr.alloc [B] w _).trans (qG _ _ _) (fun b hb=>Or.inl hb),setRow_heap _ _ _ _ 30 (0,0) HX.out⟩
 clear hB
 go_wp2_with (refine wpList_store_row rfl 30 _ _ rfl B #[.int .i64 71,.int .i64 tp] rfl rfl 30 _ HX.out (by kernel_rfl) rfl (by kernel_rfl) ?_)
 generalize (w.alloc (.cells #[.int .i64 tk,.string (ba tt),.int .i64 tn,.int .i64 tp] 75)).setRow B #[.int .i64 71,.int .i64 tp]=W9 at *
 cases c₀
 simp_all [bodyPostS,results,Tryz.results33]
 first | exact ⟨rfl,HE.out⟩ | exact ⟨rfl,HE.out.1,HE.out.2⟩ | exact ⟨HE.out.1,HE.out.2,rfl⟩
def z6:Obj:=.cells #[.string ⟨#[]⟩,.int .i64 0,.int .i64 0,.slice none 0 0,.slice none 0 0,.slice none 0 0] 27 (0,0)
def noSrc:Value:=.agg #[.string ⟨#[]⟩,.int .i64 0,.int .i64 0,.slice none 0 0,.slice none 0 0,.slice none 0 0]
theorem tok_blk {w:World} {gt cap B:Nat} {ts:Ts} (r:RdT w (.slice (some ⟨gt,0,none⟩) ts.length cap) ts) (h0:0 < ts.length) (hB:w.heap[B]?=some (.cells #[.int .i64 0,.int .i64 0] 30 (0,0))):gt≠B:=by
 intro e
 subst e
 obtain ⟨y0,y1,y2,y3⟩:=r.cells 0 h0
 rw [qh hB] at y1
 simp at y1
theorem pr_new {w2 W3 W4:World} {gt cap B:Nat} {ts:Ts} (hW4:W3.alloc (.cells #[.slice (some ⟨gt,0,none⟩) ts.length cap,.int .i64 0,.int .i64 0,.int .i64 0,.int .i64 0] 77)=W4) (r2:RdT w2 (.slice (some ⟨gt,0,none⟩) ts.length cap) ts) (f3:Fr [B] w2 W3) (hB:gt≠B) (hlt:0 < ts.length):Pr W4 W3.heap.size gt cap ts ⟨0,0,0,0⟩:=by
 have hg:gt < w2.heap.size:=by
  obtain ⟨p,c,e,hq⟩:=r2.at_;obtain ⟨b,off,e4,hb,hc⟩:=hq hlt;injection e with e1
  rw [← e1] at e4;injection e4 with e4
  injection e4 with e5
  rw [e5]; exact hb
 have r3:RdT W3 (.slice (some ⟨gt,0,none⟩) ts.length cap) ts:=by
  obtain ⟨p,c',e,hq⟩:=r2.at_;refine ⟨p,c',e,fun h0=>?_⟩
  obtain ⟨b,off,e4,hb,hc⟩:=hq h0;injection e with e1 e2 e3
  have hbg:b=gt:=by
   rw [← e1] at e4;injection e4 with e4
   injection e4 with e5
   exact e5.symm
  refine ⟨b,off,e4,Nat.lt_of_lt_of_le hb f3.size,fun j hj=>?_⟩
  have e:∀ i,W3.cell? ⟨b,i,none⟩=w2.cell? ⟨b,i,none⟩:=fun i=>World.cell?_of_block (w:=w2) (f3.block b hb (by rw [hbg]; simpa using hB))
  rw [e,e,e,e];exact hc j hj
 refine ⟨hW4▸heap_alloc_new W3 _,r3.keep (hW4▸Bl.alloc _ _),?_⟩
 have:=f3.size
 omega
theorem read_bad (wf:Nat) (ew:Enters Tryz.prog wf) (src:ByteArray) (ts:Ts) (x:Tok × Nat) (w:World) (hT:Tab w) (hs:src.size≤140737488355328) (hl:LexR (lst src) ts 0 0) (hok:Okq ts ⟨0,0,0,0⟩) (hW:∀ P g c V,Pr V P g c ts ⟨0,0,0,0⟩→Calls Tryz.prog wf #[.pointer (some ⟨P,0,none⟩)] V (PostR P g c ts V (.bad x))) :
  Calls Tryz.prog 24 #[.string src,.func (.func wf) #[] #[]] w fun e w'=>Bl w w'∧e=.returned (.tuple #[noSrc,.agg #[.int .i64 71,.int .i64 x.2]]):=by
 have hmf:∀ (fn:Fn) (first cap:Array Value) (w:World),(Instr.makeFunc fn first cap).run Tryz.prog w=.ok (.func fn first cap) w:=fun _ _ _ _=>rfl
 obtain ⟨W1,hW1⟩:∃ X,(w.alloc (.cells #[.string ⟨#[]⟩,.int .i64 0,.int .i64 0,.slice none 0 0,.slice none 0 0,.slice none 0 0] 27)).alloc (.cells #[.int .i64 0,.int .i64 0] 30)=X:=⟨_,rfl⟩
 have b1:Bl w W1:=hW1▸(Bl.alloc _ _).trans (Bl.alloc _ _)
 have s1:W1.heap.size=w.heap.size+2:=by rw [← hW1]; simp
 have g1:W1.heap[w.heap.size]?=some z6:=by rw [← hW1,Below.heap_alloc _ _ _ (by simp)]; exact heap_alloc_new w _
 have g2:W1.heap[w.heap.size+1]?=some (.cells #[.int .i64 0,.int .i64 0] 30 (0,0)):=by
  have:=heap_alloc_new (w.alloc (.cells #[.string ⟨#[]⟩,.int .i64 0,.int .i64 0,.slice none 0 0,.slice none 0 0,.slice none 0 0] 27)) (.cells #[.int .i64 0,.int .i64 0] 30);rw [show (w.alloc (.cells #[.string ⟨#[]⟩,.int .i64 0,.int .i64 0,.slice none 0 0,.slice none 0 0,.slice none 0 0] 27)).heap.size=w.heap.size+1 by simp,hW1] at this
  exact this
 have HTk:=qd (tokens_v hl hs W1 (hT.mono b1))
 have HW:=qd hW
 have G1:=qd g1
 have G2:=qd g2
 have B1:=qd b1
 have HS1:=qd s1
 have hlt:=hok.lt
 have hlen:=hok.len
 unfold Enters at ew
 clear hl hs hT b1 s1 g1 g2 hW
 go_enter_defers Tryz.func24,Tryz.ntmps24
 go_wp2_with (first
  | (
   go_at_call 19; refine HTk.out.mono ?_; rintro e w2 ⟨p,cap,rfl,r2,p2,l2,m2,b2⟩
   obtain ⟨gt,rfl⟩:=p2 (by omega)
   have E1:=qd ((b2.block _ (qf G1.out)).trans G1.out);have E2:=qd ((b2.block _ (qf G2.out)).trans G2.out);obtain ⟨W3,hW3⟩:∃ X,w2.setRow (w.heap.size+1) #[.int .i64 0,.int .i64 0]=X:=⟨_,rfl⟩;have f3:Fr [w.heap.size+1] w2 W3:=hW3▸qG _ _ _;have hz2:=b2.size;have hz1:=HS1.out;have k1:W3.heap[w.heap.size]?=some z6:=(f3.block _ (by omega) (by simp)).trans E1.out
   have k2:W3.heap[w.heap.size+1]?=some (.cells #[.int .i64 0,.int .i64 0] 30 (0,0)):=hW3▸setRow_heap _ _ _ _ 30 (0,0) E2.out;have c20:W3.cell? ⟨w.heap.size+1,0,none⟩=some (.int .i64 0):=by rw [qh k2]; rfl
   obtain ⟨W4,hW4⟩:∃ X,W3.alloc (.cells #[.slice (some ⟨gt,0,none⟩) ts.length cap,.int .i64 0,.int .i64 0,.int .i64 0,.int .i64 0] 77)=X:=⟨_,rfl⟩;have b4:Bl W3 W4:=hW4▸Bl.alloc _ _;have hz3:=f3.size;have n1:=qd ((b4.block _ (qf k1)).trans k1);have n2:=qd ((b4.block _ (qf k2)).trans k2);have PR:Hid (Pr W4 W3.heap.size gt cap ts ⟨0,0,0,0⟩):=qd (pr_new hW4 r2 f3 (tok_blk r2 hlt E2.out) hlt);have B4:Hid (Bl w W4):=qd (((Fr.ofBl (B1.out.trans b2) []).trans (f3.trans (Fr.ofBl b4 _) (fun b hb=>Or.inl hb)) (by simp)).bl (by simp))
   have Z4:Hid (w.heap.size+2≤W3.heap.size∧W3.heap.size < W4.heap.size):=qd ⟨by omega,by rw [← hW4]; simp⟩
   clear r2 p2 l2 m2 b2 f3 k1 k2 b4 hz1 hz2 hz3)
  | (refine wpList_store_row rfl 30 _ _ rfl (w.heap.size+1) #[.int .i64 0,.int .i64 0] rfl rfl 30 _ E2.out (by kernel_rfl) rfl (by kernel_rfl) ?_; rw [hW3])
  | (
   go_at_fn wf; refine (HW.out _ _ _ _ PR.out).mono ?_; rintro e w5 ⟨f5,rfl⟩
   have m1:=qd ((f5.block _ (qf n1.out) (by have:=Z4.out.1; simp; omega)).trans n1.out)
   have m2:=qd ((f5.block _ (qf n2.out) (by have:=Z4.out.1; simp; omega)).trans n2.out)
   have B5:Hid (Bl w w5):=qd (((Fr.ofBl B4.out []).trans f5 (by have:=Z4.out.1; simp; omega)).bl (by simp))
   clear f5))
 refine leaves_cons (f:=33) (args:=#[.pointer (some ⟨w.heap.size+1,0,none⟩)]) (by simp) (by simp [go_sem]) ?_
 refine (catch_bad x (w.heap.size+1) 0 0 _ m2.out).mono ?_
 rintro e u' w6 ⟨rfl,rfl,f6,k6⟩
 have q1:w6.heap[w.heap.size]?=some z6:=(f6.block _ (qf m1.out) (by simp)).trans m1.out
 obtain ⟨x0,x1,x2,x3,x4,x5⟩:=jo q1
 have y0:w6.cell? ⟨w.heap.size+1,0,none⟩=some (.int .i64 71):=by rw [qh k6]; rfl
 have y1:w6.cell? ⟨w.heap.size+1,1,none⟩=some (.int .i64 x.2):=by rw [qh k6]; rfl
 have B6:Bl w w6:=((Fr.ofBl B5.out []).trans f6 (by simp)).bl (by simp)
 simp [Leaves,settle,results,Tryz.results24,go_sem,x0,x1,x2,x3,x4,x5,y0,y1,noSrc]
 exact B6
end Go.Proofs.YtfhkhmgodkheaaaGreatDoor
