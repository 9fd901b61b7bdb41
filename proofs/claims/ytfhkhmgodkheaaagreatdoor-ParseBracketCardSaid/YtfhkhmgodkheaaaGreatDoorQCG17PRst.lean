import Derived.Test.YtfhkhmgodkheaaaGreatDoorQCG16PTl2
set_option linter.unusedSimpArgs false
set_option linter.unusedVariables false
set_option maxRecDepth 1000000
set_option maxHeartbeats 16000000
namespace Go.Proofs.YtfhkhmgodkheaaaGreatDoor
open Go.RowKit Go.Maps
def PostTs (P g c:Nat) (ts:Ts) (w:World) (r:Rs Ts) (e:Ending) (w':World):Prop:=Fr [P] w w'∧match r with
 | .ok l s'=>∃ v,e=.returned v∧RowZ w' 54 4 w.heap.size v l.length (tcs l)∧Pr w' P g c ts s'
 | .bad x=>e=.panicked [{ v:=jl x,recovered:=false }]
theorem clo188_ok (P g c:Nat) (ts:Ts) (bp:Nat) (s:Ps) (W:World) (h:Pr W P g c ts s) (hok:Okq ts s) (hb:Box W bp (.pointer (some ⟨P,0,none⟩)) 62):Calls Tryz.prog 188 #[.pointer (some ⟨bp,0,none⟩)] W (PostT P g c ts W (qS ts 1 s)):=by
 have hB:=Bl.alloc W (.cells #[.int .i64 0,.string ⟨#[]⟩,.int .i64 0,.int .i64 0] 54)
 have c0:=(hb.bl hB).cell
 have HD:=qd (need_ok P g c ts s 1 _ (h.keep hB) hok.ok hok.lt)
 have hres:=qd (heap_alloc_new W (.cells #[.int .i64 0,.string ⟨#[]⟩,.int .i64 0,.int .i64 0] 54))
 have hlp:=h.lt
 have hgl:=h.glt (by have:=hok.lt; omega)
 clear h hok hB hb
 cases en:qS ts 1 s with
 | bad y =>
  rw [en] at HD
  go_enter Tryz.func188,Tryz.ntmps188
  go_wp2_with (go_at_call 57; refine HD.out.mono ?_; rintro e w4 ⟨f4,rfl⟩; have F4:=qd (qu (Fr.alloc [P] W (.cells #[.int .i64 0,.string ⟨#[]⟩,.int .i64 0,.int .i64 0] 54)) f4); clear f4)
  exact ⟨rfl,F4.out,rfl⟩
 | ok y s1 =>
  rw [en] at HD;obtain ⟨⟨yk,yt,yn⟩,yp⟩:=y;unfold tkv at HD;dsimp only at HD
  go_enter Tryz.func188,Tryz.ntmps188
  go_wp2_with (first
   | (
    go_at_call 57; refine HD.out.mono ?_; rintro e w9 ⟨f9,rfl,p9⟩
    have F9:=qd (qu (Fr.alloc [P] W (.cells #[.int .i64 0,.string ⟨#[]⟩,.int .i64 0,.int .i64 0] 54)) f9);have P9:=qd p9;have r9:Hid (w9.heap[W.heap.size]?=some (.cells #[.int .i64 0,.string ⟨#[]⟩,.int .i64 0,.int .i64 0] 54 (0,0))):=qd ((f9.block _ (by simp) (by simp; omega)).trans hres.out)
    clear f9 p9)
   | (refine wpList_store_row rfl 54 _ _ rfl W.heap.size #[.int .i64 yk,.string (ba yt),.int .i64 yn,.int .i64 yp] rfl rfl 54 _ r9.out (by kernel_rfl) rfl (by kernel_rfl) ?_))
  refine ret54g Tryz.results188 (B:=W.heap.size) (setRow_heap _ _ _ _ 54 (0,0) r9.out) rfl ?_;have fb:=qG w9 W.heap.size #[.int .i64 yk,.string (ba yt),.int .i64 yn,.int .i64 yp];exact ⟨F9.out.trans fb (fun b hb=>Or.inr (by simp at hb; omega)),rfl,P9.out.other fb (by simp; omega) (by simp; omega)⟩
theorem clo56_ok (P g c:Nat) (ts:Ts) (bp:Nat) (s:Ps) (W:World) (k:Nat) (h:Pr W P g c ts s) (hok:Okq ts s) (hb:Box W bp (.pointer (some ⟨P,0,none⟩)) 62):Calls Tryz.prog 56 #[.int .i64 k,.pointer (some ⟨bp,0,none⟩)] W (PostT P g c ts W (qS ts 1 s)):=by
 have hB:=Bl.alloc W (.cells #[.int .i64 0,.string ⟨#[]⟩,.int .i64 0,.int .i64 0] 54)
 have c0:=(hb.bl hB).cell
 have HD:=qd (need_ok P g c ts s 1 _ (h.keep hB) hok.ok hok.lt)
 have hres:=qd (heap_alloc_new W (.cells #[.int .i64 0,.string ⟨#[]⟩,.int .i64 0,.int .i64 0] 54))
 have hlp:=h.lt
 have hgl:=h.glt (by have:=hok.lt; omega)
 clear h hok hB hb
 cases en:qS ts 1 s with
 | bad y =>
  rw [en] at HD
  go_enter Tryz.func56,Tryz.ntmps56
  go_wp2_with (go_at_call 57; refine HD.out.mono ?_; rintro e w4 ⟨f4,rfl⟩; have F4:=qd (qu (Fr.alloc [P] W (.cells #[.int .i64 0,.string ⟨#[]⟩,.int .i64 0,.int .i64 0] 54)) f4); clear f4)
  exact ⟨rfl,F4.out,rfl⟩
 | ok y s1 =>
  rw [en] at HD;obtain ⟨⟨yk,yt,yn⟩,yp⟩:=y;unfold tkv at HD;dsimp only at HD
  go_enter Tryz.func56,Tryz.ntmps56
  go_wp2_with (first
   | (
    go_at_call 57; refine HD.out.mono ?_; rintro e w9 ⟨f9,rfl,p9⟩
    have F9:=qd (qu (Fr.alloc [P] W (.cells #[.int .i64 0,.string ⟨#[]⟩,.int .i64 0,.int .i64 0] 54)) f9);have P9:=qd p9;have r9:Hid (w9.heap[W.heap.size]?=some (.cells #[.int .i64 0,.string ⟨#[]⟩,.int .i64 0,.int .i64 0] 54 (0,0))):=qd ((f9.block _ (by simp) (by simp; omega)).trans hres.out)
    clear f9 p9)
   | (refine wpList_store_row rfl 54 _ _ rfl W.heap.size #[.int .i64 yk,.string (ba yt),.int .i64 yn,.int .i64 yp] rfl rfl 54 _ r9.out (by kernel_rfl) rfl (by kernel_rfl) ?_))
  refine ret54g Tryz.results56 (B:=W.heap.size) (setRow_heap _ _ _ _ 54 (0,0) r9.out) rfl ?_;have fb:=qG w9 W.heap.size #[.int .i64 yk,.string (ba yt),.int .i64 yn,.int .i64 yp];exact ⟨F9.out.trans fb (fun b hb=>Or.inr (by simp at hb; omega)),rfl,P9.out.other fb (by simp; omega) (by simp; omega)⟩
theorem jm (ts:Ts) (f:Nat):∀ P g c s w r,Pr w P g c ts s→Okq ts s→qv ts f s=some r→Calls Tryz.prog 59 #[.pointer (some ⟨P,0,none⟩)] w (PostTs P g c ts w r):=by
 intro P g c s w r h hok hr
 have hpl:=h.lt
 have hbp:P≠w.heap.size:=by omega
 obtain ⟨w0,hW0⟩:∃ X,w.alloc (.cells #[.pointer (some ⟨P,0,none⟩)] 62)=X:=⟨_,rfl⟩
 have B0:Hid (Bl w w0):=qd (hW0▸Bl.alloc _ _)
 have HB0:Hid (Box w0 w.heap.size (.pointer (some ⟨P,0,none⟩)) 62):=qd (hW0▸heap_alloc_new w _)
 have x0:=HB0.out.cell
 have PR0:=qd (h.keep B0.out)
 have HS:=qd (fun V p=>skip_ok P g c ts s 12 V p hok.ok hok.lt)
 unfold qv at hr
 cases hst:qi ts 12 s with
 | false =>
  have hsk:qN ts 12 s=(false,s):=by unfold qN; rw [hst]; simp
  rw [hsk] at hr HS;injection hr with hr
  subst hr;clear h hok hst hsk
  go_enter Tryz.func59,Tryz.ntmps59
  go_wp2_with (go_at_call 85; refine (HS.out _ PR0.out).mono ?_; rintro e w1 ⟨rfl,p1,f1⟩; have P1:=qd p1; have F1:=qd (qu (za B0.out) f1); have X1:=qd (HB0.out.fr f1 (by simpa using fun e=>hbp e.symm)); have x1:=X1.out.cell; clear p1 f1)
  go_ret
  exact ⟨F1.out,_,rfl,⟨World.ownsRow_nil _ _ _ _,fun _=>rfl⟩,P1.out⟩
 | true =>
  have hsk:qN ts 12 s=(true,qj ts s):=by unfold qN; rw [hst]; simp
  rw [hsk] at hr HS;have hq:=hok.take (by rw [qk hst]; decide)
  have hr2:(qF (qY ts 0 (fun s=>(qi ts 1 s,s)) (fun _ s=>some (.ok (hdT ts s) (qj ts s))) f [] (qj ts s)) fun l s2=>match qS ts 12 s2 with
   | .bad x=>some (.bad x)
   | .ok _ s3=>some (.ok l s3))=some r:=hr
  cases el:qY ts 0 (fun s=>(qi ts 1 s,s)) (fun _ s=>some (.ok (hdT ts s) (qj ts s))) f [] (qj ts s) with
  | none=>rw [el] at hr2; cases hr2
  | some rl =>
   rw [el] at hr2;have HL:=qd (fun V (p:Pr V P g c ts (qj ts s)) (b:Box V w.heap.size (.pointer (some ⟨P,0,none⟩)) 62)=>listT_ok (fun x:Tok × Nat=>x) P [g,w.heap.size] ts 0 (fun s=>(qi ts 1 s,s)) (fun _ s=>some (.ok (hdT ts s) (qj ts s))) (by decide) (fun s hs=>⟨Nat.le_refl _,hs⟩) (fun acc s hs hth=>Pg.tk (Pq.ok (hs.take (by rw [qk hth]; decide)))) (I1 P g c ts w.heap.size) I1.ok 87 80 #[] #[.pointer (some ⟨w.heap.size,0,none⟩)] #[.pointer (some ⟨P,0,none⟩)] #[] (ent 87 _ _ Tryz.func87 (by kernel_rfl) rfl) (ent 80 _ _ Tryz.func80 (by kernel_rfl) rfl)
    (fun W F acc s i=>by rw [show (#[]:Array Value)++#[.pointer (some ⟨w.heap.size,0,none⟩)]=#[.pointer (some ⟨w.heap.size,0,none⟩)] by simp]; exact clo87_ok W F acc s i)
    (fun W F acc s r i hs hth _ e=>by
     rw [show #[.pointer (some ⟨P,0,none⟩)]++(#[]:Array Value)=#[.pointer (some ⟨P,0,none⟩)] by simp]
     injection e with e
     subst e;refine (zY P g c ts s W i.1 i.2.1.ok i.2.1.lt).mono (fun e' w' q=>?_)
     obtain ⟨q1,q2,q3⟩:=q;refine ⟨by rw [i.2.2.1]; exact q3,F,q1,i.go q3 hbp q2 (i.2.1.take (by rw [qk hth]; decide)),fun b hb=>Or.inl hb⟩)
    (fun W F acc s i=>I1.skip hbp 0 (by decide) W F acc s i) f (qj ts s) V [P] ⟨p,hq,rfl,b⟩ rl el)
   cases rl with
   | bad x =>
    injection hr2 with hr2
    subst hr2;clear h hok hst hsk hq el hr
    go_enter Tryz.func59,Tryz.ntmps59
    go_wp2_with (first
     | (go_at_call 85; refine (HS.out _ PR0.out).mono ?_; rintro e w1 ⟨rfl,p1,f1⟩; have P1:=qd p1; have F1:=qd (qu (za B0.out) f1); have X1:=qd (HB0.out.fr f1 (by simpa using fun e=>hbp e.symm)); have x1:=X1.out.cell; clear p1 f1)
     | (go_at_call 86; refine (HL.out _ P1.out X1.out).mono ?_; rintro e w2 ⟨f2,rfl⟩; have F2:=qd (qu F1.out f2); clear f2))
    exact ⟨rfl,F2.out,rfl⟩
   | ok l s2 =>
    have hq2:=((zh (α:=Tok × Nat) (there:=fun s=>(qi ts 1 s,s)) (one:=fun _ s=>some (.ok (hdT ts s) (qj ts s))) (btw:=0) (by decide) (fun s hs=>⟨Nat.le_refl _,hs⟩) (fun acc s hs hth=>Pg.tk (Pq.ok (hs.take (by rw [qk hth]; decide)))) f [] _ hq).1 l s2 el).2
    have hr3:(match qS ts 12 s2 with | .bad x=>some (.bad x) | .ok _ s3=>some (.ok l s3))=some r:=hr2
    have HD:=qd (fun V p=>need_ok P g c ts s2 12 V p hq2.ok hq2.lt)
    cases en:qS ts 12 s2 with
    | bad y =>
     rw [en] at hr3 HD;injection hr3 with hr3
     subst hr3;clear h hok hst hsk hq el hr hr2 hq2 en
     go_enter Tryz.func59,Tryz.ntmps59
     go_wp2_with (first
      | (go_at_call 85; refine (HS.out _ PR0.out).mono ?_; rintro e w1 ⟨rfl,p1,f1⟩; have P1:=qd p1; have F1:=qd (qu (za B0.out) f1); have X1:=qd (HB0.out.fr f1 (by simpa using fun e=>hbp e.symm)); have x1:=X1.out.cell; clear p1 f1)
      | (go_at_call 86; refine (HL.out _ P1.out X1.out).mono ?_; rintro e w2 ⟨f2,v,F',rfl,l2⟩; have F2:=qd (qu F1.out f2); have L2:=qd l2; have x2:=l2.inv.2.2.2.cell; clear f2 l2)
      | (go_at_call 57; refine (HD.out _ L2.out.inv.1).mono ?_; rintro e w4 ⟨f4,rfl⟩; have F4:=qd (qu F2.out f4); clear f4))
     exact ⟨rfl,F4.out,rfl⟩
    | ok y s3 =>
     rw [en] at hr3 HD;injection hr3 with hr3
     subst hr3;clear h hok hst hsk hq el hr hr2 hq2 en
     go_enter Tryz.func59,Tryz.ntmps59
     go_wp2_with (first
      | (go_at_call 85; refine (HS.out _ PR0.out).mono ?_; rintro e w1 ⟨rfl,p1,f1⟩; have P1:=qd p1; have F1:=qd (qu (za B0.out) f1); have X1:=qd (HB0.out.fr f1 (by simpa using fun e=>hbp e.symm)); have x1:=X1.out.cell; clear p1 f1)
      | (go_at_call 86; refine (HL.out _ P1.out X1.out).mono ?_; rintro e w2 ⟨f2,v,F',rfl,l2⟩; have F2:=qd (qu F1.out f2); have L2:=qd l2; have x2:=l2.inv.2.2.2.cell; clear f2 l2)
      | (go_at_call 57; refine (HD.out _ L2.out.inv.1).mono ?_; rintro e w4 ⟨f4,rfl,p4⟩; have F4:=qd (qu F2.out f4); have G4:=qd f4; have P4:=qd p4; clear f4 p4))
     go_ret
     obtain ⟨z1,z2⟩:=L2.out.ex;have hw1:=F1.out.size;rw [List.map_id'] at z1;exact ⟨F4.out,v,rfl,⟨qC (zM z1.1 hw1) (fun k hk=>G4.out.block k (qB z1.1 k hk).2 (by have:=(qB z1.1 k hk).1; simp; omega)),z1.2⟩,P4.out⟩
theorem told_n (va vb:Value) (xa xb:Ts) (nn:Nat) (w:World) (ha:RdT w va xa) (hb:RdT w vb xb) (a0:xa.length=0→va=.slice none 0 0) (b0:xb.length=0→vb=.slice none 0 0) (la:xa.length≤4097) (lb:xb.length≤4097) (hn:(xa++xb).length=nn) :
  Calls Tryz.prog 58 #[va,vb] w fun e w'=>Bl w w'∧∃ vn vp,e=.returned (.tuple #[vn,vp])∧RowZ w' 9 1 w.heap.size vn nn ((xa++xb).map fun x=>.string (ba x.1.text))∧RowZ w' 3 1 w.heap.size vp nn ((xa++xb).map fun x=>.int .i64 (x.2:Nat)):=by
 subst hn
 exact told_ok va vb xa xb w ha hb a0 b0 la lb
theorem npb {w1 w2 w3:World} {P:Nat} {us:Ts} {nn:Nat} {l:List Nd} {vn vp vb:Value} {xs:List Value} {fl:List Nat} (hn:RowZ w2 9 1 w1.heap.size vn nn (us.map fun x=>.string (ba x.1.text))) (hp:RowZ w2 3 1 w1.heap.size vp nn (us.map fun x=>.int .i64 (x.2:Nat))) (hb:RowZ w3 34 7 w2.heap.size vb l.length xs) (hl:NdsM w3 l xs fl) (ha:Apt w2.heap.size (vb.ownBlock.toList++fl)) (f:Fr [P] w2 w3) (hP:P < w1.heap.size) (h2:w1.heap.size≤w2.heap.size) :
  RowM w3 9 1 vn nn (us.map fun x=>.string (ba x.1.text)) vn.ownBlock.toList∧RowM w3 3 1 vp nn (us.map fun x=>.int .i64 (x.2:Nat)) vp.ownBlock.toList∧RowM w3 34 7 vb l.length xs vb.ownBlock.toList∧NdsM w3 l xs fl∧Apt w1.heap.size (vn.ownBlock.toList++(vp.ownBlock.toList++(vb.ownBlock.toList++fl))):=by
 have hnl:=hn.blk
 have hpl:=hp.blk
 refine ⟨hn.row.fr f (fun b h=>by have:=(hnl b h).1; simp; omega),hp.row.fr f (fun b h=>by have:=(hpl b h).1; simp; omega),hb.row,hl,?_⟩
 have single:∀ v:Value,v.ownBlock.toList.Nodup:=fun v=>by cases v.ownBlock <;> simp
 have a1:Apt w1.heap.size (vp.ownBlock.toList++(vb.ownBlock.toList++fl)):=Apt.app ⟨single _,fun b h=>(hpl b h).1⟩ ha (fun b h=>(hpl b h).2) h2
 refine ⟨List.nodup_append.2 ⟨single _,a1.nd,fun a ha' b hb' e=>?_⟩,fun b hb'=>?_⟩
 ·subst e
  rcases List.mem_append.1 hb' with h | h
  ·exact own_ne hn.1 hp.1 (by decide) a (by simpa using ha') (by simpa using h)
  ·have:=(hnl a ha').2; have:=ha.lo a h; omega
 ·rcases List.mem_append.1 hb' with h | h
  ·exact (hnl b h).1
  ·exact a1.lo b h
def SrM (w:World) (t:Src) (v:Value) (ft:List Nat):Prop:=∃ sn sp sb f1 f2 f3 f4 xs,v=.agg #[.string (ba t.sel),.int .i64 t.place,.int .i64 t.params,sn,sp,sb]∧ft=f1++(f2++(f3++f4))∧RowM w 9 1 sn t.names.length (t.names.map fun b=>.string (ba b)) f1∧RowM w 3 1 sp t.places.length (t.places.map fun p=>.int .i64 (p:Nat)) f2∧RowM w 34 7 sb t.body.length xs f3∧NdsM w t.body xs f4
theorem SrM.fr {w w':World} {t:Src} {v:Value} {ft S:List Nat} (h:SrM w t v ft) (f:Fr S w w') (hs:∀ b∈ft,b ∉ S):SrM w' t v ft:=by
 obtain ⟨sn,sp,sb,f1,f2,f3,f4,xs,e1,e2,h1,h2,h3,h4⟩:=h
 subst e2
 exact ⟨sn,sp,sb,f1,f2,f3,f4,xs,e1,rfl,h1.fr f (fun b hb=>hs b (by simp [hb])),h2.fr f (fun b hb=>hs b (by simp [hb])),h3.fr f (fun b hb=>hs b (by simp [hb])),h4.fr f (fun b hb=>hs b (by simp [hb]))⟩
def PostR (P g c:Nat) (ts:Ts) (w:World) (r:Rs Src) (e:Ending) (w':World):Prop:=Fr [P] w w'∧match r with
 | .ok t s'=>∃ t0 t1 t2 t3 t4 t5 ft,e=.returned (.agg #[t0,t1,t2,t3,t4,t5])∧SrM w' t (.agg #[t0,t1,t2,t3,t4,t5]) ft∧Apt w.heap.size ft∧Pr w' P g c ts s'
 | .bad x=>e=.panicked [{ v:=jl x,recovered:=false }]
theorem ret27 {f:Func} {V:World} {B p:Nat} {tm:Array Value} {a0 a1 a2 a3 a4 a5:Value} {A:Array Value} {R:Ending→World→Prop} (hres:f.results=#[.cell p 27]) (hB:V.heap[B]?=some (.cells A 27 (0,0)))
  (h2:tm.getD p undef=.pointer (some ⟨B,0,none⟩)) (hR:R (.returned (.agg #[a0,a1,a2,a3,a4,a5])) (V.setRow B #[a0,a1,a2,a3,a4,a5])):bodyPost Tryz.prog f R .ret ⟨tm,[]⟩ (V.setRow B #[a0,a1,a2,a3,a4,a5]):=by
 have hVb:=setRow_heap V B A #[a0,a1,a2,a3,a4,a5] 27 (0,0) hB
 have x0:(V.setRow B #[a0,a1,a2,a3,a4,a5]).cell? ⟨B,0,none⟩=some a0:=by rw [qh hVb]; rfl
 have x1:(V.setRow B #[a0,a1,a2,a3,a4,a5]).cell? ⟨B,1,none⟩=some a1:=by rw [qh hVb]; rfl
 have x2:(V.setRow B #[a0,a1,a2,a3,a4,a5]).cell? ⟨B,2,none⟩=some a2:=by rw [qh hVb]; rfl
 have x3:(V.setRow B #[a0,a1,a2,a3,a4,a5]).cell? ⟨B,3,none⟩=some a3:=by rw [qh hVb]; rfl
 have x4:(V.setRow B #[a0,a1,a2,a3,a4,a5]).cell? ⟨B,4,none⟩=some a4:=by rw [qh hVb]; rfl
 have x5:(V.setRow B #[a0,a1,a2,a3,a4,a5]).cell? ⟨B,5,none⟩=some a5:=by rw [qh hVb]; rfl
 have h2':tm[p]?.getD undef=.pointer (some ⟨B,0,none⟩):=by simpa using h2
 refine bodyPost_ret (v:=.agg #[a0,a1,a2,a3,a4,a5]) (by simp [results,hres,go_sem,h2,h2',x0,x1,x2,x3,x4,x5]) rfl hR
theorem temps_len {ts:Ts} {f:Nat} {s s':Ps} {l:Ts} (h:Okq ts s) (e:qv ts f s=some (.ok l s')):l.length≤4097:=by
 unfold qv at e
 cases hst:qi ts 12 s with
 | false =>
  have hsk:qN ts 12 s=(false,s):=by unfold qN; rw [hst]; simp
  rw [hsk] at e;injection e with e; injection e with e1 e2; subst e1; exact Nat.zero_le _
 | true =>
  have hsk:qN ts 12 s=(true,qj ts s):=by unfold qN; rw [hst]; simp
  rw [hsk] at e;have hq:=h.take (by rw [qk hst]; decide)
  obtain ⟨a,s1,e1,e2⟩:=qQ e;have hp:∀ (acc:Ts) (s:Ps),Okq ts s→(qi ts 1 s,s).1=true→Pg ts s ((fun (_:Ts) s=>some (.ok (hdT ts s) (qj ts s))) acc s):=fun acc s hs hth=>Pg.tk (Pq.ok (hs.take (by rw [qk hth]; decide)))
  have h1:=zX (there:=fun s=>(qi ts 1 s,s)) (one:=fun (_:Ts) s=>some (.ok (hdT ts s) (qj ts s))) (btw:=0) (by decide) (fun s hs=>⟨Nat.le_refl _,hs⟩) hp f [] _ a s1 hq (Nat.zero_le _) e1
  have h2:=((zh (there:=fun s=>(qi ts 1 s,s)) (one:=fun (_:Ts) s=>some (.ok (hdT ts s) (qj ts s))) (btw:=0) (by decide) (fun s hs=>⟨Nat.le_refl _,hs⟩) hp f [] _ hq).1 a s1 e1).2
  have h3:a=l:=by
   unfold qS at e2
   by_cases hb:qi ts 12 s1=true
   ·rw [if_pos hb] at e2; injection e2 with e2; injection e2 with e2
   ·rw [if_neg hb] at e2; injection e2 with e2; cases e2
  subst h3;have:=h2.lt; have:=h2.len;omega
theorem rest_ok (ts:Ts) (f:Nat) (hB:∀ P g c s w r,Pr w P g c ts s→Okq ts s→zg ts f 18 s=some r→Calls Tryz.prog 60 #[.pointer (some ⟨P,0,none⟩),.int .i64 (18:Nat)] w (PostB P g c ts w r)) (ps:Ts) (P g c bq:Nat) (s:Ps) (w:World) (r:Rs Src) (vps:Value) (hv:RowZ w 54 4 bq vps ps.length (tcs ps)) (hbq:P < bq) (hps:ps.length≤4097) (h:Pr w P g c ts s) (hok:Okq ts s) (hr:restP ts f ps s=some r) :
  Calls Tryz.prog 34 #[.pointer (some ⟨P,0,none⟩),vps] w (PostR P g c ts w r):=by
 have hlp:=h.lt
 have hgl:=h.glt (by have:=hok.lt; omega)
 obtain ⟨w0,hW0⟩:∃ X,w.alloc (.cells #[.string ⟨#[]⟩,.int .i64 0,.int .i64 0,.slice none 0 0,.slice none 0 0,.slice none 0 0] 27)=X:=⟨_,rfl⟩
 have B0:Hid (Bl w w0):=qd (hW0▸Bl.alloc _ _)
 have RES0:Hid (w0.heap[w.heap.size]?=some (.cells #[.string ⟨#[]⟩,.int .i64 0,.int .i64 0,.slice none 0 0,.slice none 0 0,.slice none 0 0] 27 (0,0))):=qd (hW0▸heap_alloc_new w _)
 have PR0:=qd (h.keep B0.out)
 have HV:=qd hv
 obtain ⟨pv,cv,ev⟩:=qz hv.1
 subst ev
 unfold restP at hr
 cases e1:qv ts f s with
 | none=>rw [e1] at hr; cases hr
 | some r1 =>
  rw [e1] at hr;have HTm:=qd (fun V p=>jm ts f P g c s V r1 p hok e1)
  cases r1 with
  | bad x =>
   injection hr with hr
   subst hr;clear h hok e1 hv hB
   go_enter Tryz.func34,Tryz.ntmps34
   go_wp2_with (first
    | (go_at_call 59; refine (HTm.out _ PR0.out).mono ?_; rintro e w1 ⟨f1,rfl⟩; have F1:=qd (qu (za B0.out) f1); clear f1))
   exact ⟨rfl,F1.out,rfl⟩
  | ok tm s1 =>
   have hq1:=(qZ f hok tm s1 e1).2;have HTl:=qd (temps_len hok e1);obtain ⟨nn,hnn⟩:∃ nn,(ps++tm).length=nn:=⟨_,rfl⟩;have HNN:=qd hnn;clear hnn;have hr2:(qF (zg ts f 18 s1) fun l s2=>some (.ok (Src.mk [] 0 ps.length ((ps++tm).map (·.1.text)) ((ps++tm).map (·.2)) l) s2))=some r:=hr
   cases e2:zg ts f 18 s1 with
   | none=>rw [e2] at hr2; cases hr2
   | some r2 =>
    rw [e2] at hr2;have HBd:=qd (fun V p=>hB P g c s1 V r2 p hq1 e2)
    cases r2 with
    | bad x =>
     injection hr2 with hr2
     subst hr2;clear h hok e1 hv hB e2 hq1 hr
     go_enter Tryz.func34,Tryz.ntmps34
     go_wp2_with (first
      | (
       go_at_call 59; refine (HTm.out _ PR0.out).mono ?_; rintro e w1 ⟨f1,vt,rfl,z1,p1⟩
       have F1:=qd (qu (za B0.out) f1);have P1:=qd p1;have Z1:=qd z1;have V1:Hid (w1.ownsRow bq 54 4 (.slice pv ps.length cv) ps.length (tcs ps)):=qd (qC (qC HV.out.1 (fun k hk=>B0.out.block k (qB HV.out.1 k hk).2)) (fun k hk=>f1.block k (by have:=(qB HV.out.1 k hk).2; have:=B0.out.size; omega) (by have:=(qB HV.out.1 k hk).1; simp; omega)))
       have RES1:Hid (w1.heap[w.heap.size]?=some (.cells #[.string ⟨#[]⟩,.int .i64 0,.int .i64 0,.slice none 0 0,.slice none 0 0,.slice none 0 0] 27 (0,0))):=qd ((f1.block _ (qf RES0.out) (by simp; omega)).trans RES0.out)
       have HTo:=qd (told_n (.slice pv ps.length cv) vt ps tm nn w1 (RdT.own V1.out) (RdT.own z1.1) (fun h=>HV.out.2 h) z1.2 (by omega) HTl.out HNN.out)
       clear f1 z1 p1)
      | (
       go_at_call 58; refine HTo.out.mono ?_; rintro e w2 ⟨b2,vn,vp,rfl,n2,p2⟩
       obtain ⟨pn,cn,rfl⟩:=qz n2.1;obtain ⟨pq,cq,rfl⟩:=qz p2.1;have F2:=qd (qu F1.out (za b2));have P2:=qd (P1.out.keep b2);have N2:=qd n2;have Q2:=qd p2;have RES2:Hid (w2.heap[w.heap.size]?=some (.cells #[.string ⟨#[]⟩,.int .i64 0,.int .i64 0,.slice none 0 0,.slice none 0 0,.slice none 0 0] 27 (0,0))):=qd ((b2.block _ (qf RES1.out)).trans RES1.out);have L2:Hid (w.heap.size < w1.heap.size∧w1.heap.size≤w2.heap.size):=qd ⟨qf RES1.out,b2.size⟩;clear b2 n2 p2)
      | (go_at_call 60; refine (HBd.out _ P2.out).mono ?_; rintro e w3 ⟨f3,rfl⟩; have F3:=qd (qu F2.out f3); clear f3))
     exact ⟨rfl,F3.out,rfl⟩
    | ok l s2 =>
     injection hr2 with hr2
     subst hr2;clear h hok e1 hv hB e2 hq1 hr
     go_enter Tryz.func34,Tryz.ntmps34
     go_wp2_with (first
      | (
       go_at_call 59; refine (HTm.out _ PR0.out).mono ?_; rintro e w1 ⟨f1,vt,rfl,z1,p1⟩
       have F1:=qd (qu (za B0.out) f1);have P1:=qd p1;have Z1:=qd z1;have V1:Hid (w1.ownsRow bq 54 4 (.slice pv ps.length cv) ps.length (tcs ps)):=qd (qC (qC HV.out.1 (fun k hk=>B0.out.block k (qB HV.out.1 k hk).2)) (fun k hk=>f1.block k (by have:=(qB HV.out.1 k hk).2; have:=B0.out.size; omega) (by have:=(qB HV.out.1 k hk).1; simp; omega)))
       have RES1:Hid (w1.heap[w.heap.size]?=some (.cells #[.string ⟨#[]⟩,.int .i64 0,.int .i64 0,.slice none 0 0,.slice none 0 0,.slice none 0 0] 27 (0,0))):=qd ((f1.block _ (qf RES0.out) (by simp; omega)).trans RES0.out)
       have HTo:=qd (told_n (.slice pv ps.length cv) vt ps tm nn w1 (RdT.own V1.out) (RdT.own z1.1) (fun h=>HV.out.2 h) z1.2 (by omega) HTl.out HNN.out)
       clear f1 z1 p1)
      | (
       go_at_call 58; refine HTo.out.mono ?_; rintro e w2 ⟨b2,vn,vp,rfl,n2,p2⟩
       obtain ⟨pn,cn,rfl⟩:=qz n2.1;obtain ⟨pq,cq,rfl⟩:=qz p2.1;have F2:=qd (qu F1.out (za b2));have P2:=qd (P1.out.keep b2);have N2:=qd n2;have Q2:=qd p2;have RES2:Hid (w2.heap[w.heap.size]?=some (.cells #[.string ⟨#[]⟩,.int .i64 0,.int .i64 0,.slice none 0 0,.slice none 0 0,.slice none 0 0] 27 (0,0))):=qd ((b2.block _ (qf RES1.out)).trans RES1.out);have L2:Hid (w.heap.size < w1.heap.size∧w1.heap.size≤w2.heap.size):=qd ⟨qf RES1.out,b2.size⟩;clear b2 n2 p2)
      | (
       go_at_call 60; refine (HBd.out _ P2.out).mono ?_; rintro e w3 ⟨f3,vb,xs,fl,rfl,z3,k3,a3,p3⟩
       obtain ⟨pb,cb,rfl⟩:=qz z3.1;have F3:=qd (qu F2.out f3);have P3:=qd p3;have RES3:Hid (w3.heap[w.heap.size]?=some (.cells #[.string ⟨#[]⟩,.int .i64 0,.int .i64 0,.slice none 0 0,.slice none 0 0,.slice none 0 0] 27 (0,0))):=qd ((f3.block _ (qf RES2.out) (by simp; omega)).trans RES2.out)
       have NP:=qd (npb N2.out Q2.out z3 k3 a3 f3 (by have:=L2.out; omega) L2.out.2)
       clear f3 z3 k3 a3 p3)
      | (refine wpList_store_row rfl 27 _ _ rfl w.heap.size #[.string ⟨#[]⟩,.int .i64 0,.int .i64 ps.length,.slice pn nn cn,.slice pq nn cq,.slice pb l.length cb] rfl rfl 27 _ RES3.out (by kernel_rfl) rfl (by kernel_rfl) ?_))
     refine ret27 Tryz.results34 RES3.out rfl ?_;obtain ⟨m1,m2,m3,m4,m5⟩:=NP.out;have hL:=L2.out;have fb:=qG w3 w.heap.size #[.string ⟨#[]⟩,.int .i64 0,.int .i64 ps.length,.slice pn nn cn,.slice pq nn cq,.slice pb l.length cb];have hS:SrM w3 (Src.mk [] 0 ps.length ((ps++tm).map (·.1.text)) ((ps++tm).map (·.2)) l) (.agg #[.string ⟨#[]⟩,.int .i64 0,.int .i64 ps.length,.slice pn nn cn,.slice pq nn cq,.slice pb l.length cb]) _:=⟨_,_,_,_,_,_,_,xs,rfl,rfl,by rw [List.length_map,HNN.out,List.map_map]; exact m1,by rw [List.length_map,HNN.out,List.map_map]; exact m2,m3,m4⟩
     exact ⟨F3.out.trans fb (fun b hb=>Or.inr (by simp at hb; omega)),_,_,_,_,_,_,_,rfl,hS.fr fb (fun b hb=>by have:=m5.lo b hb; simp; omega),m5.mono (by omega),P3.out.other fb (by simp; omega) (by simp; omega)⟩
end Go.Proofs.YtfhkhmgodkheaaaGreatDoor
