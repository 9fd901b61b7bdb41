import Derived.Test.YtfhkhmgodkheaaaGreatDoorQBG24PWdT
set_option linter.unusedSimpArgs false
set_option linter.unusedVariables false
set_option maxRecDepth 1000000
set_option maxHeartbeats 16000000
namespace Go.Proofs.YtfhkhmgodkheaaaGreatDoor
open Go.RowKit Go.Maps
theorem PostR.back {P g c:Nat} {ts:Ts} {w w0 w':World} {r:Rs Src} {e:Ending} (b:Bl w w0) (h:PostR P g c ts w0 r e w'):PostR P g c ts w r e w':=by
 refine ⟨fr_tr (bl_fr b) h.1,?_⟩
 have h2:=h.2
 cases r with
 | bad x=>exact h2
 | ok n s =>
  obtain ⟨t0,t1,t2,t3,t4,t5,ft,e1,h1,h3,h4⟩:=h2
  exact ⟨t0,t1,t2,t3,t4,t5,ft,e1,h1,h3.mono b.size,h4⟩
theorem SrM.all {w:World} {t:Src} {t0 t1 t2 t3 t4 t5:Value} {ft:List Nat} (h:SrM w t (.agg #[t0,t1,t2,t3,t4,t5]) ft):(#[t0,t1,t2,t3,t4,t5].all fun x=>x.oneCell')=true∧∀ sel place,SrM w { t with sel:=sel,place:=place } (.agg #[.string (ba sel),.int .i64 (place:Nat),t2,t3,t4,t5]) ft:=by
 obtain ⟨sn,sp,sb,f1,f2,f3,f4,xs,e1,e2,h1,h2,h3,h4⟩:=h
 obtain ⟨p1,c1,k1⟩:=h1.slice
 obtain ⟨p2,c2,k2⟩:=h2.slice
 obtain ⟨p3,c3,k3⟩:=h3.slice
 injection e1 with e1
 simp only [Array.mk.injEq,List.cons.injEq,and_true] at e1
 obtain ⟨rfl,rfl,rfl,rfl,rfl,rfl⟩:=e1
 subst k1 k2 k3
 exact ⟨by kernel_rfl,fun sel place=>⟨_,_,_,f1,f2,f3,f4,xs,rfl,e2,h1,h2,h3,h4⟩⟩
theorem cells6 {V:World} {B:Nat} {c0 c1 c2 c3 c4 c5:Value} {t:TypeId} (h:V.heap[B]?=some (.cells #[c0,c1,c2,c3,c4,c5] t (0,0))):V.cell? ⟨B,0,none⟩=some c0∧V.cell? ⟨B,1,none⟩=some c1∧V.cell? ⟨B,2,none⟩=some c2∧V.cell? ⟨B,3,none⟩=some c3∧V.cell? ⟨B,4,none⟩=some c4∧V.cell? ⟨B,5,none⟩=some c5 :=
 ⟨by rw [cell_in h]; rfl,by rw [cell_in h]; rfl,by rw [cell_in h]; rfl,by rw [cell_in h]; rfl,by rw [cell_in h]; rfl,by rw [cell_in h]; rfl⟩
theorem doit_ok (ts:Ts) (f:Nat) (hB:∀ P g c s w r,Pr w P g c ts s→Okq ts s→bodyP ts f 18 s=some r→Calls Tryz.prog 60 #[.pointer (some ⟨P,0,none⟩),.int .i64 (18:Nat)] w (PostB P g c ts w r)) (P g c:Nat) (s:Ps) (w:World) (r:Rs Src) (h:Pr w P g c ts s) (hok:Okq ts s) (hr:doitP ts f s=some r):Calls Tryz.prog 25 #[.pointer (some ⟨P,0,none⟩)] w (PostR P g c ts w r):=by
 have hlp:=h.lt
 have hgl:=h.glt (by have:=hok.lt; omega)
 obtain ⟨w0,hW0⟩:∃ X,w.alloc (.cells #[.string ⟨#[]⟩,.int .i64 0,.int .i64 0,.slice none 0 0,.slice none 0 0,.slice none 0 0] 27)=X:=⟨_,rfl⟩
 have B0:Hid (Bl w w0):=mkHid (hW0▸Bl.alloc _ _)
 have RES0:Hid (w0.heap[w.heap.size]?=some (.cells #[.string ⟨#[]⟩,.int .i64 0,.int .i64 0,.slice none 0 0,.slice none 0 0,.slice none 0 0] 27 (0,0))):=mkHid (hW0▸heap_alloc_new w _)
 have HR:=mkHid (rest_ok ts f hB [] P g c (P+1) s w0 r (.slice none 0 0) ⟨World.ownsRow_nil _ _ _ _,fun _=>rfl⟩ (by omega) (by simp) (h.keep B0.out) hok hr)
 clear h hok hB hr
 cases r with
 | bad x =>
  go_enter Tryz.func25,Tryz.ntmps25
  go_wp2_with (go_at_call 34; refine HR.out.mono ?_; rintro e w1 ⟨f1,rfl⟩; have F1:=mkHid (fr_tr (bl_fr B0.out) f1); clear f1)
  exact ⟨rfl,F1.out,rfl⟩
 | ok t s1 =>
  go_enter Tryz.func25,Tryz.ntmps25
  go_wp2_with (first
   | (
    go_at_call 34; refine HR.out.mono ?_; rintro e w1 ⟨f1,t0,t1,t2,t3,t4,t5,ft,rfl,n1,a1,p1⟩
    have F1:=mkHid (fr_tr (bl_fr B0.out) f1)
    have N1:=mkHid n1
    have A1:=mkHid a1
    have P1:=mkHid p1
    have RES1:Hid (w1.heap[w.heap.size]?=some (.cells #[.string ⟨#[]⟩,.int .i64 0,.int .i64 0,.slice none 0 0,.slice none 0 0,.slice none 0 0] 27 (0,0))):=mkHid ((f1.block _ (lt_of_heap RES0.out) (by simp; omega)).trans RES0.out)
    clear f1 n1 a1 p1)
   | (refine wpList_store_row rfl 27 _ _ rfl w.heap.size #[t0,t1,t2,t3,t4,t5] rfl rfl 27 _ RES1.out (by kernel_rfl) rfl N1.out.all.1 ?_))
  refine ret27 Tryz.results25 RES1.out rfl ?_
  have fb:=row_fr w1 w.heap.size #[t0,t1,t2,t3,t4,t5]
  have hl0:=lt_of_heap RES0.out
  exact ⟨F1.out.trans fb (fun b hb=>Or.inr (by simp at hb; omega)),_,_,_,_,_,_,ft,rfl,N1.out.fr fb (fun b hb=>by have:=A1.out.lo b hb; simp; omega),A1.out.mono (by omega),P1.out.other fb (by simp; omega) (by simp; omega)⟩
theorem method_ok (ts:Ts) (f:Nat) (hB:∀ P g c s w r,Pr w P g c ts s→Okq ts s→bodyP ts f 18 s=some r→Calls Tryz.prog 60 #[.pointer (some ⟨P,0,none⟩),.int .i64 (18:Nat)] w (PostB P g c ts w r)) (P g c:Nat) (s:Ps) (w:World) (r:Rs Src) (h:Pr w P g c ts s) (hok:Okq ts s) (hr:methodP ts f s=some r):Calls Tryz.prog 32 #[.pointer (some ⟨P,0,none⟩)] w (PostR P g c ts w r):=by
 have hlp:=h.lt
 have hgl:=h.glt (by have:=hok.lt; omega)
 have hbp:P≠w.heap.size:=by omega
 obtain ⟨wa,hWa⟩:∃ X,w.alloc (.cells #[.pointer (some ⟨P,0,none⟩)] 62)=X:=⟨_,rfl⟩
 have bwa:Bl w wa:=hWa▸Bl.alloc _ _
 obtain ⟨w0,hW0⟩:∃ X,wa.alloc (.cells #[.string ⟨#[]⟩,.int .i64 0,.int .i64 0,.slice none 0 0,.slice none 0 0,.slice none 0 0] 27)=X:=⟨_,rfl⟩
 have b0:Bl wa w0:=hW0▸Bl.alloc _ _
 have HB0:Hid (Box w0 w.heap.size (.pointer (some ⟨P,0,none⟩)) 62):=mkHid ((show Box wa w.heap.size _ 62 from hWa▸heap_alloc_new w _).bl b0)
 have RES0:Hid (w0.heap[wa.heap.size]?=some (.cells #[.string ⟨#[]⟩,.int .i64 0,.int .i64 0,.slice none 0 0,.slice none 0 0,.slice none 0 0] 27 (0,0))):=mkHid (hW0▸heap_alloc_new wa _)
 have x0:=HB0.out.cell
 have hsa:w.heap.size < wa.heap.size:=by rw [← hWa]; simp
 have PR0:=mkHid ((h.keep bwa).keep b0)
 have HA:=mkHid (fun V p=>ahead_ok P g c ts s V p hok.lt (by have:=hok.len; omega))
 unfold tkv at HA
 refine Calls.mono (R:=PostR P g c ts wa r) ?_ (fun e w' q=>PostR.back bwa q)
 unfold methodP at hr
 have Bw:Hid (Bl wa w0):=mkHid b0
 cases e1:wordedP ts (fun _ s=>some (needP ts 1 s)) f s with
 | none=>rw [e1] at hr; cases hr
 | some r1 =>
  rw [e1] at hr
  have hpo:∀ k s,k≤3→Okq ts s→Pq ts s ((fun (_:Nat) s=>some (needP ts 1 s)) k s):=fun k s _ hs=>(Pg.need hs (by decide)).q
  have HW:=mkHid (fun V (p:Pr V P g c ts s) (b:Box V w.heap.size (.pointer (some ⟨P,0,none⟩)) 62)=>wordedT_ok (ts:=ts) f 56 w.heap.size (ent 56 _ _ Tryz.func56 (by kernel_rfl) rfl) (fun _ s=>some (needP ts 1 s)) hpo P g c s V r1 b.lt (fun e=>hbp e.symm)
   (fun k V' s r hk q p' o' e'=>by injection e' with e'; subst e'; exact clo56_ok P g c ts w.heap.size s V' k p' o' (q.trans b)) p hok e1)
  have hq1:=fun x s1 (e:r1=.ok x s1)=>(worded_pg hpo f s hok x s1 (by rw [e1,e])).2
  have hl1:=fun x s1 (e:r1=.ok x s1)=>worded_len hpo f s hok x s1 (by rw [e1,e])
  clear h hok e1 hpo
  generalize hdT ts s=y at *
  obtain ⟨⟨tk,tt,tn⟩,tp⟩:=y
  dsimp only at *
  cases r1 with
  | bad x =>
   injection hr with hr
   subst hr
   clear hq1 hl1 hB
   go_enter Tryz.func32,Tryz.ntmps32
   have hfd:=fun W=>f54_3 (.int .i64 tk) (.string (ba tt)) (.int .i64 tn) (.int .i64 tp) W
   go_wp2_with (first
    | (go_at_call 54; refine (HA.out _ PR0.out).mono ?_; rintro e w1 ⟨rfl,b1⟩; have P1:=mkHid (PR0.out.keep b1); have X1:=mkHid (HB0.out.bl b1); have B1:=mkHid (Bw.out.trans b1); have x1:=X1.out.cell; clear b1)
    | (go_at_call 55; refine (HW.out _ P1.out X1.out).mono ?_; rintro e w2 ⟨f2,rfl⟩; have F2:=mkHid (fr_tr (bl_fr B1.out) f2); clear f2))
   exact ⟨rfl,F2.out,rfl⟩
  | ok x s1 =>
   obtain ⟨sel,ps⟩:=x
   have hq:=hq1 _ _ rfl
   have hl:ps.length≤4097:=hl1 _ _ rfl
   clear hq1 hl1
   have hr2:bindP (restP ts f ps s1) (fun t s2=>some (.ok { t with sel:=sel,place:=tp } s2))=some r:=hr
   cases e2:restP ts f ps s1 with
   | none=>rw [e2] at hr2; cases hr2
   | some r2 =>
    rw [e2] at hr2
    have HRs:=mkHid (fun V p bq vps z hb=>rest_ok ts f hB ps P g c bq s1 V r2 vps z hb hl p hq e2)
    clear hq e2 hB hr
    cases r2 with
    | bad z =>
     injection hr2 with hr2
     subst hr2
     go_enter Tryz.func32,Tryz.ntmps32
     have hfd:=fun W=>f54_3 (.int .i64 tk) (.string (ba tt)) (.int .i64 tn) (.int .i64 tp) W
     go_wp2_with (first
      | (go_at_call 54; refine (HA.out _ PR0.out).mono ?_; rintro e w1 ⟨rfl,b1⟩; have P1:=mkHid (PR0.out.keep b1); have X1:=mkHid (HB0.out.bl b1); have B1:=mkHid (Bw.out.trans b1); have x1:=X1.out.cell; clear b1)
      | (go_at_call 55; refine (HW.out _ P1.out X1.out).mono ?_; rintro e w2 ⟨f2,v,rfl,z2,p2⟩; have F2:=mkHid (fr_tr (bl_fr B1.out) f2); have Z2:=mkHid z2; have P2:=mkHid p2; have X2:=mkHid (X1.out.fr f2 (by simpa using fun e=>hbp e.symm)); have x2:=X2.out.cell; have L1:=mkHid B1.out.size; clear f2 z2 p2)
      | (go_at_call 34; refine (HRs.out _ P2.out _ _ Z2.out (by have:=L1.out; omega)).mono ?_; rintro e w3 ⟨f3,rfl⟩; have F3:=mkHid (fr_tr F2.out f3); clear f3))
     exact ⟨rfl,F3.out,rfl⟩
    | ok t s2 =>
     injection hr2 with hr2
     subst hr2
     go_enter Tryz.func32,Tryz.ntmps32
     have hfd:=fun W=>f54_3 (.int .i64 tk) (.string (ba tt)) (.int .i64 tn) (.int .i64 tp) W
     go_wp2_with (first
      | (go_at_call 54; refine (HA.out _ PR0.out).mono ?_; rintro e w1 ⟨rfl,b1⟩; have P1:=mkHid (PR0.out.keep b1); have X1:=mkHid (HB0.out.bl b1); have B1:=mkHid (Bw.out.trans b1); have x1:=X1.out.cell; have RES1:=mkHid ((b1.block _ (lt_of_heap RES0.out)).trans RES0.out); clear b1)
      | (go_at_call 55; refine (HW.out _ P1.out X1.out).mono ?_; rintro e w2 ⟨f2,v,rfl,z2,p2⟩; have F2:=mkHid (fr_tr (bl_fr B1.out) f2); have Z2:=mkHid z2; have P2:=mkHid p2; have X2:=mkHid (X1.out.fr f2 (by simpa using fun e=>hbp e.symm)); have x2:=X2.out.cell; have L1:=mkHid B1.out.size; have RES2:=mkHid ((f2.block _ (lt_of_heap RES1.out) (by simp; omega)).trans RES1.out); clear f2 z2 p2)
      | (
       go_at_call 34; refine (HRs.out _ P2.out _ _ Z2.out (by have:=L1.out; omega)).mono ?_; rintro e w3 ⟨f3,t0,t1,t2,t3,t4,t5,ft,rfl,n3,a3,p3⟩
       have F3:=mkHid (fr_tr F2.out f3)
       have RES3:w3.heap[wa.heap.size]?=some (.cells #[.string ⟨#[]⟩,.int .i64 0,.int .i64 0,.slice none 0 0,.slice none 0 0,.slice none 0 0] 27 (0,0)):=(f3.block _ (lt_of_heap RES2.out) (by simp; omega)).trans RES2.out
       have hl3:=lt_of_heap RES3
       have R4:=mkHid (heap_alloc_new w3 (.cells #[.string ⟨#[]⟩,.int .i64 0,.int .i64 0,.slice none 0 0,.slice none 0 0,.slice none 0 0] 27))
       obtain ⟨W4,hW4⟩:∃ X,(w3.alloc (.cells #[.string ⟨#[]⟩,.int .i64 0,.int .i64 0,.slice none 0 0,.slice none 0 0,.slice none 0 0] 27)).setRow w3.heap.size #[t0,t1,t2,t3,t4,t5]=X:=⟨_,rfl⟩
       have f4:Fr [] w3 W4:=hW4▸(Fr.alloc [] w3 _).trans (row_fr _ _ _) (by simp)
       have g4:W4.heap[w3.heap.size]?=some (.cells #[t0,t1,t2,t3,t4,t5] 27 (0,0)):=hW4▸setRow_heap _ _ _ _ 27 (0,0) R4.out
       obtain ⟨W5,hW5⟩:∃ X,W4.setCell ⟨w3.heap.size,0,none⟩ (.string (ba sel))=X:=⟨_,rfl⟩
       have f5:Fr [w3.heap.size] W4 W5:=hW5▸Fr.setCell _ _ _ (by simp)
       have g5:W5.heap[w3.heap.size]?=some (.cells #[.string (ba sel),t1,t2,t3,t4,t5] 27 (0,0)):=by rw [← hW5,set_in g4]; rfl
       obtain ⟨W6,hW6⟩:∃ X,W5.setCell ⟨w3.heap.size,1,none⟩ (.int .i64 tp)=X:=⟨_,rfl⟩
       have f6:Fr [w3.heap.size] W5 W6:=hW6▸Fr.setCell _ _ _ (by simp)
       have g6:W6.heap[w3.heap.size]?=some (.cells #[.string (ba sel),.int .i64 tp,t2,t3,t4,t5] 27 (0,0)):=by rw [← hW6,set_in g5]; rfl
       have c40:=(cells6 g4).1
       have z40:=frozen_in g4 0
       have c51:=(cells6 g5).2.1
       have z51:=frozen_in g5 1
       obtain ⟨u0,u1,u2,u3,u4,u5⟩:=cells6 g6
       have fw6:Fr [] w3 W6:=(f4.trans f5 (by simp)).trans f6 (by simp)
       have N6:=mkHid (SrM.all (SrM.fr n3 fw6 (by simp)))
       have A6:=mkHid a3
       have P6:=mkHid (p3.other fw6 (by simp) (by simp))
       have F6:=mkHid (fr_tr F3.out (fw6.mono (by simp)))
       have RES6:Hid (W6.heap[wa.heap.size]?=some (.cells #[.string ⟨#[]⟩,.int .i64 0,.int .i64 0,.slice none 0 0,.slice none 0 0,.slice none 0 0] 27 (0,0))):=mkHid ((fw6.block _ hl3 (by simp)).trans RES3)
       have AL4:=mkHid (SrM.all n3).1
       have AL6:=mkHid (SrM.all ((SrM.all n3).2 sel tp)).1
       clear f3 n3 a3 p3 f4 f5 f6 g4 g5 g6 fw6 RES3 hl3)
      | (refine wpList_store_row rfl 27 _ _ rfl w3.heap.size #[t0,t1,t2,t3,t4,t5] rfl rfl 27 _ R4.out (by kernel_rfl) rfl AL4.out ?_; rw [hW4])
      | (refine wpList_store_row rfl 27 _ _ rfl wa.heap.size #[.string (ba sel),.int .i64 tp,t2,t3,t4,t5] rfl rfl 27 _ RES6.out (by kernel_rfl) rfl AL6.out ?_))
     refine ret27 Tryz.results32 RES6.out rfl ?_
     have fb:=row_fr W6 wa.heap.size #[.string (ba sel),.int .i64 tp,t2,t3,t4,t5]
     have hL:=L1.out
     have hl0:=lt_of_heap RES0.out
     have hs2:=lt_of_heap RES2.out
     exact ⟨F6.out.trans fb (fun b hb=>Or.inr (by simp at hb; omega)),_,_,_,_,_,_,ft,rfl,(N6.out.2 sel tp).fr fb (fun b hb=>by have:=A6.out.lo b hb; simp; omega),A6.out.mono (by omega),P6.out.other fb (by simp; omega) (by simp; omega)⟩
end Go.Proofs.YtfhkhmgodkheaaaGreatDoor
