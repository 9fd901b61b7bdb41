import Derived.Test.YtfhkhmgodkheaaaGreatDoorQBG23PTmp
import Derived.Test.YtfhkhmgodkheaaaGreatDoorQBG22PKyT
import Derived.Test.YtfhkhmgodkheaaaGreatDoorQBPWdN
set_option linter.unusedSimpArgs false
set_option linter.unusedVariables false
set_option maxRecDepth 1000000
set_option maxHeartbeats 16000000
namespace Go.Proofs.YtfhkhmgodkheaaaGreatDoor
open Go.RowKit Go.Maps
theorem told_n (va vb:Value) (xa xb:Ts) (nn:Nat) (w:World) (ha:RdT w va xa) (hb:RdT w vb xb) (a0:xa.length=0→va=.slice none 0 0) (b0:xb.length=0→vb=.slice none 0 0) (la:xa.length≤4097) (lb:xb.length≤4097) (hn:(xa++xb).length=nn) :
  Calls Tryz.prog 58 #[va,vb] w fun e w'=>Bl w w'∧∃ vn vp,e=.returned (.tuple #[vn,vp])∧RowZ w' 9 1 w.heap.size vn nn ((xa++xb).map fun x=>.string (ba x.1.text))∧RowZ w' 3 1 w.heap.size vp nn ((xa++xb).map fun x=>.int .i64 (x.2:Nat)):=by
 subst hn
 exact told_ok va vb xa xb w ha hb a0 b0 la lb
theorem npb {w1 w2 w3:World} {P:Nat} {us:Ts} {nn:Nat} {l:List Nd} {vn vp vb:Value} {xs:List Value} {fl:List Nat} (hn:RowZ w2 9 1 w1.heap.size vn nn (us.map fun x=>.string (ba x.1.text))) (hp:RowZ w2 3 1 w1.heap.size vp nn (us.map fun x=>.int .i64 (x.2:Nat))) (hb:RowZ w3 34 7 w2.heap.size vb l.length xs) (hl:NdsM w3 l xs fl) (ha:Apt w2.heap.size (vb.ownBlock.toList++fl)) (f:Fr [P] w2 w3) (hP:P < w1.heap.size) (h2:w1.heap.size≤w2.heap.size) :
  RowM w3 9 1 vn nn (us.map fun x=>.string (ba x.1.text)) vn.ownBlock.toList∧RowM w3 3 1 vp nn (us.map fun x=>.int .i64 (x.2:Nat)) vp.ownBlock.toList∧RowM w3 34 7 vb l.length xs vb.ownBlock.toList∧NdsM w3 l xs fl∧Apt w1.heap.size (vn.ownBlock.toList++(vp.ownBlock.toList++(vb.ownBlock.toList++fl))):=by
 have hnl:=hn.blk
 have hpl:=hp.blk
 refine ⟨hn.row.fr f (fun b h=>by have:=(hnl b h).1; simp; omega),hp.row.fr f (fun b h=>by have:=(hpl b h).1; simp; omega),hb.row,hl,?_⟩
 have single:∀ v:Value,v.ownBlock.toList.Nodup:=fun v=>by cases v.ownBlock <;> simp
 have a1:Apt w1.heap.size (vp.ownBlock.toList++(vb.ownBlock.toList++fl)):=Apt.app ⟨single _,fun b h=>(hpl b h).1⟩ ha (fun b h=>(hpl b h).2) h2
 refine ⟨List.nodup_append.2 ⟨single _,a1.nd,fun a ha' b hb' e=>?_⟩,fun b hb'=>?_⟩
 ·subst e
  rcases List.mem_append.1 hb' with h | h
  ·exact own_ne hn.1 hp.1 (by decide) a (by simpa using ha') (by simpa using h)
  ·have:=(hnl a ha').2; have:=ha.lo a h; omega
 ·rcases List.mem_append.1 hb' with h | h
  ·exact (hnl b h).1
  ·exact a1.lo b h
def SrM (w:World) (t:Src) (v:Value) (ft:List Nat):Prop:=∃ sn sp sb f1 f2 f3 f4 xs,v=.agg #[.string (ba t.sel),.int .i64 t.place,.int .i64 t.params,sn,sp,sb]∧ft=f1++(f2++(f3++f4))∧RowM w 9 1 sn t.names.length (t.names.map fun b=>.string (ba b)) f1∧RowM w 3 1 sp t.places.length (t.places.map fun p=>.int .i64 (p:Nat)) f2∧RowM w 34 7 sb t.body.length xs f3∧NdsM w t.body xs f4
theorem SrM.fr {w w':World} {t:Src} {v:Value} {ft S:List Nat} (h:SrM w t v ft) (f:Fr S w w') (hs:∀ b∈ft,b ∉ S):SrM w' t v ft:=by
 obtain ⟨sn,sp,sb,f1,f2,f3,f4,xs,e1,e2,h1,h2,h3,h4⟩:=h
 subst e2
 exact ⟨sn,sp,sb,f1,f2,f3,f4,xs,e1,rfl,h1.fr f (fun b hb=>hs b (by simp [hb])),h2.fr f (fun b hb=>hs b (by simp [hb])),h3.fr f (fun b hb=>hs b (by simp [hb])),h4.fr f (fun b hb=>hs b (by simp [hb]))⟩
def PostR (P g c:Nat) (ts:Ts) (w:World) (r:Rs Src) (e:Ending) (w':World):Prop:=Fr [P] w w'∧match r with
 | .ok t s'=>∃ t0 t1 t2 t3 t4 t5 ft,e=.returned (.agg #[t0,t1,t2,t3,t4,t5])∧SrM w' t (.agg #[t0,t1,t2,t3,t4,t5]) ft∧Apt w.heap.size ft∧Pr w' P g c ts s'
 | .bad x=>e=.panicked [{ v:=thrown x,recovered:=false }]
theorem ret27 {f:Func} {V:World} {B p:Nat} {tm:Array Value} {a0 a1 a2 a3 a4 a5:Value} {A:Array Value} {R:Ending→World→Prop} (hres:f.results=#[.cell p 27]) (hB:V.heap[B]?=some (.cells A 27 (0,0)))
  (h2:tm.getD p undef=.pointer (some ⟨B,0,none⟩)) (hR:R (.returned (.agg #[a0,a1,a2,a3,a4,a5])) (V.setRow B #[a0,a1,a2,a3,a4,a5])):bodyPost Tryz.prog f R .ret ⟨tm,[]⟩ (V.setRow B #[a0,a1,a2,a3,a4,a5]):=by
 have hVb:=setRow_heap V B A #[a0,a1,a2,a3,a4,a5] 27 (0,0) hB
 have x0:(V.setRow B #[a0,a1,a2,a3,a4,a5]).cell? ⟨B,0,none⟩=some a0:=by rw [cell_in hVb]; rfl
 have x1:(V.setRow B #[a0,a1,a2,a3,a4,a5]).cell? ⟨B,1,none⟩=some a1:=by rw [cell_in hVb]; rfl
 have x2:(V.setRow B #[a0,a1,a2,a3,a4,a5]).cell? ⟨B,2,none⟩=some a2:=by rw [cell_in hVb]; rfl
 have x3:(V.setRow B #[a0,a1,a2,a3,a4,a5]).cell? ⟨B,3,none⟩=some a3:=by rw [cell_in hVb]; rfl
 have x4:(V.setRow B #[a0,a1,a2,a3,a4,a5]).cell? ⟨B,4,none⟩=some a4:=by rw [cell_in hVb]; rfl
 have x5:(V.setRow B #[a0,a1,a2,a3,a4,a5]).cell? ⟨B,5,none⟩=some a5:=by rw [cell_in hVb]; rfl
 have h2':tm[p]?.getD undef=.pointer (some ⟨B,0,none⟩):=by simpa using h2
 refine bodyPost_ret (v:=.agg #[a0,a1,a2,a3,a4,a5]) (by simp [results,hres,go_sem,h2,h2',x0,x1,x2,x3,x4,x5]) rfl hR
theorem temps_len {ts:Ts} {f:Nat} {s s':Ps} {l:Ts} (h:Okq ts s) (e:temporariesP ts f s=some (.ok l s')):l.length≤4097:=by
 unfold temporariesP at e
 cases hst:standsP ts 12 s with
 | false =>
  have hsk:skipP ts 12 s=(false,s):=by unfold skipP; rw [hst]; simp
  rw [hsk] at e
  injection e with e; injection e with e1 e2; subst e1; exact Nat.zero_le _
 | true =>
  have hsk:skipP ts 12 s=(true,takeP ts s):=by unfold skipP; rw [hst]; simp
  rw [hsk] at e
  have hq:=h.take (by rw [stands_kind hst]; decide)
  obtain ⟨a,s1,e1,e2⟩:=bindP_ok e
  have hp:∀ (acc:Ts) (s:Ps),Okq ts s→(standsP ts 1 s,s).1=true→Pg ts s ((fun (_:Ts) s=>some (.ok (hdT ts s) (takeP ts s))) acc s):=fun acc s hs hth=>Pg.tk (Pq.ok (hs.take (by rw [stands_kind hth]; decide)))
  have h1:=listA_len (there:=fun s=>(standsP ts 1 s,s)) (one:=fun (_:Ts) s=>some (.ok (hdT ts s) (takeP ts s))) (btw:=0) (by decide) (fun s hs=>⟨Nat.le_refl _,hs⟩) hp f [] _ a s1 hq (Nat.zero_le _) e1
  have h2:=((listA_pg (there:=fun s=>(standsP ts 1 s,s)) (one:=fun (_:Ts) s=>some (.ok (hdT ts s) (takeP ts s))) (btw:=0) (by decide) (fun s hs=>⟨Nat.le_refl _,hs⟩) hp f [] _ hq).1 a s1 e1).2
  have h3:a=l:=by
   unfold needP at e2
   by_cases hb:standsP ts 12 s1=true
   ·rw [if_pos hb] at e2; injection e2 with e2; injection e2 with e2
   ·rw [if_neg hb] at e2; injection e2 with e2; cases e2
  subst h3
  have:=h2.lt; have:=h2.len
  omega
theorem rest_ok (ts:Ts) (f:Nat) (hB:∀ P g c s w r,Pr w P g c ts s→Okq ts s→bodyP ts f 18 s=some r→Calls Tryz.prog 60 #[.pointer (some ⟨P,0,none⟩),.int .i64 (18:Nat)] w (PostB P g c ts w r)) (ps:Ts) (P g c bq:Nat) (s:Ps) (w:World) (r:Rs Src) (vps:Value) (hv:RowZ w 54 4 bq vps ps.length (tcs ps)) (hbq:P < bq) (hps:ps.length≤4097) (h:Pr w P g c ts s) (hok:Okq ts s) (hr:restP ts f ps s=some r) :
  Calls Tryz.prog 34 #[.pointer (some ⟨P,0,none⟩),vps] w (PostR P g c ts w r):=by
 have hlp:=h.lt
 have hgl:=h.glt (by have:=hok.lt; omega)
 obtain ⟨w0,hW0⟩:∃ X,w.alloc (.cells #[.string ⟨#[]⟩,.int .i64 0,.int .i64 0,.slice none 0 0,.slice none 0 0,.slice none 0 0] 27)=X:=⟨_,rfl⟩
 have B0:Hid (Bl w w0):=mkHid (hW0▸Bl.alloc _ _)
 have RES0:Hid (w0.heap[w.heap.size]?=some (.cells #[.string ⟨#[]⟩,.int .i64 0,.int .i64 0,.slice none 0 0,.slice none 0 0,.slice none 0 0] 27 (0,0))):=mkHid (hW0▸heap_alloc_new w _)
 have PR0:=mkHid (h.keep B0.out)
 have HV:=mkHid hv
 obtain ⟨pv,cv,ev⟩:=own_slice hv.1
 subst ev
 unfold restP at hr
 cases e1:temporariesP ts f s with
 | none=>rw [e1] at hr; cases hr
 | some r1 =>
  rw [e1] at hr
  have HTm:=mkHid (fun V p=>temporaries_ok ts f P g c s V r1 p hok e1)
  cases r1 with
  | bad x =>
   injection hr with hr
   subst hr
   clear h hok e1 hv hB
   go_enter Tryz.func34,Tryz.ntmps34
   go_wp2_with (first
    | (go_at_call 59; refine (HTm.out _ PR0.out).mono ?_; rintro e w1 ⟨f1,rfl⟩; have F1:=mkHid (fr_tr (bl_fr B0.out) f1); clear f1))
   exact ⟨rfl,F1.out,rfl⟩
  | ok tm s1 =>
   have hq1:=(temporaries_pq f hok tm s1 e1).2
   have HTl:=mkHid (temps_len hok e1)
   obtain ⟨nn,hnn⟩:∃ nn,(ps++tm).length=nn:=⟨_,rfl⟩
   have HNN:=mkHid hnn
   clear hnn
   have hr2:(bindP (bodyP ts f 18 s1) fun l s2=>some (.ok (Src.mk [] 0 ps.length ((ps++tm).map (·.1.text)) ((ps++tm).map (·.2)) l) s2))=some r:=hr
   cases e2:bodyP ts f 18 s1 with
   | none=>rw [e2] at hr2; cases hr2
   | some r2 =>
    rw [e2] at hr2
    have HBd:=mkHid (fun V p=>hB P g c s1 V r2 p hq1 e2)
    cases r2 with
    | bad x =>
     injection hr2 with hr2
     subst hr2
     clear h hok e1 hv hB e2 hq1 hr
     go_enter Tryz.func34,Tryz.ntmps34
     go_wp2_with (first
      | (
       go_at_call 59; refine (HTm.out _ PR0.out).mono ?_; rintro e w1 ⟨f1,vt,rfl,z1,p1⟩
       have F1:=mkHid (fr_tr (bl_fr B0.out) f1)
       have P1:=mkHid p1
       have Z1:=mkHid z1
       have V1:Hid (w1.ownsRow bq 54 4 (.slice pv ps.length cv) ps.length (tcs ps)):=mkHid (own_congr (own_congr HV.out.1 (fun k hk=>B0.out.block k (own_lt HV.out.1 k hk).2)) (fun k hk=>f1.block k (by have:=(own_lt HV.out.1 k hk).2; have:=B0.out.size; omega) (by have:=(own_lt HV.out.1 k hk).1; simp; omega)))
       have RES1:Hid (w1.heap[w.heap.size]?=some (.cells #[.string ⟨#[]⟩,.int .i64 0,.int .i64 0,.slice none 0 0,.slice none 0 0,.slice none 0 0] 27 (0,0))):=mkHid ((f1.block _ (lt_of_heap RES0.out) (by simp; omega)).trans RES0.out)
       have HTo:=mkHid (told_n (.slice pv ps.length cv) vt ps tm nn w1 (RdT.own V1.out) (RdT.own z1.1) (fun h=>HV.out.2 h) z1.2 (by omega) HTl.out HNN.out)
       clear f1 z1 p1)
      | (
       go_at_call 58; refine HTo.out.mono ?_; rintro e w2 ⟨b2,vn,vp,rfl,n2,p2⟩
       obtain ⟨pn,cn,rfl⟩:=own_slice n2.1
       obtain ⟨pq,cq,rfl⟩:=own_slice p2.1
       have F2:=mkHid (fr_tr F1.out (bl_fr b2))
       have P2:=mkHid (P1.out.keep b2)
       have N2:=mkHid n2
       have Q2:=mkHid p2
       have RES2:Hid (w2.heap[w.heap.size]?=some (.cells #[.string ⟨#[]⟩,.int .i64 0,.int .i64 0,.slice none 0 0,.slice none 0 0,.slice none 0 0] 27 (0,0))):=mkHid ((b2.block _ (lt_of_heap RES1.out)).trans RES1.out)
       have L2:Hid (w.heap.size < w1.heap.size∧w1.heap.size≤w2.heap.size):=mkHid ⟨lt_of_heap RES1.out,b2.size⟩
       clear b2 n2 p2)
      | (go_at_call 60; refine (HBd.out _ P2.out).mono ?_; rintro e w3 ⟨f3,rfl⟩; have F3:=mkHid (fr_tr F2.out f3); clear f3))
     exact ⟨rfl,F3.out,rfl⟩
    | ok l s2 =>
     injection hr2 with hr2
     subst hr2
     clear h hok e1 hv hB e2 hq1 hr
     go_enter Tryz.func34,Tryz.ntmps34
     go_wp2_with (first
      | (
       go_at_call 59; refine (HTm.out _ PR0.out).mono ?_; rintro e w1 ⟨f1,vt,rfl,z1,p1⟩
       have F1:=mkHid (fr_tr (bl_fr B0.out) f1)
       have P1:=mkHid p1
       have Z1:=mkHid z1
       have V1:Hid (w1.ownsRow bq 54 4 (.slice pv ps.length cv) ps.length (tcs ps)):=mkHid (own_congr (own_congr HV.out.1 (fun k hk=>B0.out.block k (own_lt HV.out.1 k hk).2)) (fun k hk=>f1.block k (by have:=(own_lt HV.out.1 k hk).2; have:=B0.out.size; omega) (by have:=(own_lt HV.out.1 k hk).1; simp; omega)))
       have RES1:Hid (w1.heap[w.heap.size]?=some (.cells #[.string ⟨#[]⟩,.int .i64 0,.int .i64 0,.slice none 0 0,.slice none 0 0,.slice none 0 0] 27 (0,0))):=mkHid ((f1.block _ (lt_of_heap RES0.out) (by simp; omega)).trans RES0.out)
       have HTo:=mkHid (told_n (.slice pv ps.length cv) vt ps tm nn w1 (RdT.own V1.out) (RdT.own z1.1) (fun h=>HV.out.2 h) z1.2 (by omega) HTl.out HNN.out)
       clear f1 z1 p1)
      | (
       go_at_call 58; refine HTo.out.mono ?_; rintro e w2 ⟨b2,vn,vp,rfl,n2,p2⟩
       obtain ⟨pn,cn,rfl⟩:=own_slice n2.1
       obtain ⟨pq,cq,rfl⟩:=own_slice p2.1
       have F2:=mkHid (fr_tr F1.out (bl_fr b2))
       have P2:=mkHid (P1.out.keep b2)
       have N2:=mkHid n2
       have Q2:=mkHid p2
       have RES2:Hid (w2.heap[w.heap.size]?=some (.cells #[.string ⟨#[]⟩,.int .i64 0,.int .i64 0,.slice none 0 0,.slice none 0 0,.slice none 0 0] 27 (0,0))):=mkHid ((b2.block _ (lt_of_heap RES1.out)).trans RES1.out)
       have L2:Hid (w.heap.size < w1.heap.size∧w1.heap.size≤w2.heap.size):=mkHid ⟨lt_of_heap RES1.out,b2.size⟩
       clear b2 n2 p2)
      | (
       go_at_call 60; refine (HBd.out _ P2.out).mono ?_; rintro e w3 ⟨f3,vb,xs,fl,rfl,z3,k3,a3,p3⟩
       obtain ⟨pb,cb,rfl⟩:=own_slice z3.1
       have F3:=mkHid (fr_tr F2.out f3)
       have P3:=mkHid p3
       have RES3:Hid (w3.heap[w.heap.size]?=some (.cells #[.string ⟨#[]⟩,.int .i64 0,.int .i64 0,.slice none 0 0,.slice none 0 0,.slice none 0 0] 27 (0,0))):=mkHid ((f3.block _ (lt_of_heap RES2.out) (by simp; omega)).trans RES2.out)
       have NP:=mkHid (npb N2.out Q2.out z3 k3 a3 f3 (by have:=L2.out; omega) L2.out.2)
       clear f3 z3 k3 a3 p3)
      | (refine wpList_store_row rfl 27 _ _ rfl w.heap.size #[.string ⟨#[]⟩,.int .i64 0,.int .i64 ps.length,.slice pn nn cn,.slice pq nn cq,.slice pb l.length cb] rfl rfl 27 _ RES3.out (by kernel_rfl) rfl (by kernel_rfl) ?_))
     refine ret27 Tryz.results34 RES3.out rfl ?_
     obtain ⟨m1,m2,m3,m4,m5⟩:=NP.out
     have hL:=L2.out
     have fb:=row_fr w3 w.heap.size #[.string ⟨#[]⟩,.int .i64 0,.int .i64 ps.length,.slice pn nn cn,.slice pq nn cq,.slice pb l.length cb]
     have hS:SrM w3 (Src.mk [] 0 ps.length ((ps++tm).map (·.1.text)) ((ps++tm).map (·.2)) l) (.agg #[.string ⟨#[]⟩,.int .i64 0,.int .i64 ps.length,.slice pn nn cn,.slice pq nn cq,.slice pb l.length cb]) _:=⟨_,_,_,_,_,_,_,xs,rfl,rfl,by rw [List.length_map,HNN.out,List.map_map]; exact m1,by rw [List.length_map,HNN.out,List.map_map]; exact m2,m3,m4⟩
     exact ⟨F3.out.trans fb (fun b hb=>Or.inr (by simp at hb; omega)),_,_,_,_,_,_,_,rfl,hS.fr fb (fun b hb=>by have:=m5.lo b hb; simp; omega),m5.mono (by omega),P3.out.other fb (by simp; omega) (by simp; omega)⟩
theorem clo82_ok {P g c:Nat} {ts:Ts} {fo bq:Nat} {w:World} (eo:Enters Tryz.prog fo) (pone:Nat→Ps→Option (Rs (Tok × Nat))) (hO:∀ k V s r,(2≤k∧k≤3)→V.heap[bq]?=w.heap[bq]?→Pr V P g c ts s→Okq ts s→pone k s=some r→Calls Tryz.prog fo #[.int .i64 k,.pointer (some ⟨bq,0,none⟩)] V (PostT P g c ts V r)) (k B0 Br:Nat) (hk:2≤k∧k≤3) (V:World) (s:Ps) (r:Rs (Tok × Nat)) (hq:V.heap[bq]?=w.heap[bq]?) (b0:Box V B0 (.func (.func fo) #[] #[.pointer (some ⟨bq,0,none⟩)]) 97) (b1:Box V Br (.int .i64 k) 3) (h:Pr V P g c ts s) (hok:Okq ts s) (hr:pone k s=some r) (hbl:bq < V.heap.size) :
  Calls Tryz.prog 82 #[.pointer (some ⟨B0,0,none⟩),.pointer (some ⟨Br,0,none⟩)] V (PostT P g c ts V r):=by
 have hB:=Bl.alloc V (.cells #[.int .i64 0,.string ⟨#[]⟩,.int .i64 0,.int .i64 0] 54)
 have c0:=(b0.bl hB).cell
 have c1:=(b1.bl hB).cell
 have HP:=mkHid (hO k (V.alloc (.cells #[.int .i64 0,.string ⟨#[]⟩,.int .i64 0,.int .i64 0] 54)) s r hk ((hB.block bq hbl).trans hq) (h.keep hB) hok hr)
 have hlp:=h.lt
 unfold Enters at eo
 have hgl:=h.glt (by have:=hok.lt; omega)
 have hres:=mkHid (heap_alloc_new V (.cells #[.int .i64 0,.string ⟨#[]⟩,.int .i64 0,.int .i64 0] 54))
 clear h hB b0 b1 hO hr hq
 cases r with
 | bad x =>
  go_enter Tryz.func82,Tryz.ntmps82
  go_wp2_with (go_at_fn fo; refine HP.out.mono ?_; rintro e w9 ⟨f9,rfl⟩; have F9:=mkHid (fr_tr (Fr.alloc [P] V (.cells #[.int .i64 0,.string ⟨#[]⟩,.int .i64 0,.int .i64 0] 54)) f9); clear f9)
  exact ⟨rfl,F9.out,rfl⟩
 | ok y s1 =>
  obtain ⟨⟨yk,yt,yn⟩,yp⟩:=y
  unfold PostT tkv at HP
  dsimp only at HP
  go_enter Tryz.func82,Tryz.ntmps82
  go_wp2_with (first
   | (
    go_at_fn fo; refine HP.out.mono ?_; rintro e w9 ⟨f9,rfl,p9⟩
    have F9:=mkHid (fr_tr (Fr.alloc [P] V (.cells #[.int .i64 0,.string ⟨#[]⟩,.int .i64 0,.int .i64 0] 54)) f9)
    have P9:=mkHid p9
    have r9:Hid (w9.heap[V.heap.size]?=some (.cells #[.int .i64 0,.string ⟨#[]⟩,.int .i64 0,.int .i64 0] 54 (0,0))):=mkHid ((f9.block _ (by simp) (by simp; omega)).trans hres.out)
    clear f9 p9)
   | (refine wpList_store_row rfl 54 _ _ rfl V.heap.size #[.int .i64 yk,.string (ba yt),.int .i64 yn,.int .i64 yp] rfl rfl 54 _ r9.out (by kernel_rfl) rfl (by kernel_rfl) ?_))
  refine ret54g Tryz.results82 (B:=V.heap.size) (setRow_heap _ _ _ _ 54 (0,0) r9.out) rfl ?_
  have fb:=row_fr w9 V.heap.size #[.int .i64 yk,.string (ba yt),.int .i64 yn,.int .i64 yp]
  exact ⟨F9.out.trans fb (fun b hb=>Or.inr (by simp at hb; omega)),rfl,P9.out.other fb (by simp; omega) (by simp; omega)⟩
theorem wordedT_ok {ts:Ts} (f:Nat) (fo bq:Nat) (eo:Enters Tryz.prog fo) (pone:Nat→Ps→Option (Rs (Tok × Nat))) (hpg:∀ k s,k≤3→Okq ts s→Pq ts s (pone k s)) (P g c:Nat) (s:Ps) (w:World) (r:Rs (Bs × List (Tok × Nat))) (hbq:bq < w.heap.size) (hbP:bq≠P)
  (hO:∀ k V s r,(2≤k∧k≤3)→V.heap[bq]?=w.heap[bq]?→Pr V P g c ts s→Okq ts s→pone k s=some r→Calls Tryz.prog fo #[.int .i64 k,.pointer (some ⟨bq,0,none⟩)] V (PostT P g c ts V r)) (h:Pr w P g c ts s) (hok:Okq ts s) (hr:wordedP ts pone f s=some r) :
  Calls Tryz.prog 55 #[.pointer (some ⟨P,0,none⟩),.func (.func fo) #[] #[.pointer (some ⟨bq,0,none⟩)]] w (PostWT P g c ts w r):=by
 have hlp:=h.lt
 have HPl:=mkHid h.lt
 obtain ⟨w0,hW0⟩:∃ X,w.alloc (.cells #[.func (.func fo) #[] #[.pointer (some ⟨bq,0,none⟩)]] 97)=X:=⟨_,rfl⟩
 have bw0:Hid (Bl w w0):=mkHid (hW0▸Bl.alloc _ _)
 have GB:Hid (Box w0 w.heap.size (.func (.func fo) #[] #[.pointer (some ⟨bq,0,none⟩)]) 97):=mkHid (hW0▸heap_alloc_new w _)
 have PR0:=mkHid (h.keep bw0.out)
 have HA:=mkHid (fun V p=>ahead_ok P g c ts s V p hok.lt (by have:=hok.len; omega))
 have hy:(hdT ts s).1.text.length≤8192:=by have:=hok.txt.1; omega
 have HR:=mkHid (fun V=>rankT_ok (hdT ts s) V hy)
 have HT:=mkHid (fun V p=>take_ok P g c ts s V p hok.ok hok.lt)
 unfold tkv at HA HR HT
 unfold wordedP at hr
 by_cases h1:rankT (hdT ts s)=1
 ·rw [if_pos h1] at hr
  injection hr with hr
  subst hr
  rw [h1] at HR
  obtain ⟨R,hR⟩:∃ R:Nat,R=1:=⟨1,rfl⟩
  rw [← hR] at HR
  have q1:((R:Int) == 1)=true:=by rw [hR]; rfl
  clear h hok hy h1 hO hpg hR
  generalize takeP ts s=st at *
  generalize hdT ts s=x at *
  obtain ⟨⟨tk,tt,tn⟩,tp⟩:=x
  dsimp only at *
  go_enter Tryz.func55,Tryz.ntmps55
  go_wp2_with (first
   | (go_at_call 54; refine (HA.out _ PR0.out).mono ?_; rintro e w1 ⟨rfl,b1⟩; have B1:=mkHid ((bw0.out.trans b1).trans (Bl.alloc w1 (.cells #[.int .i64 tk,.string (ba tt),.int .i64 tn,.int .i64 tp] 54))); have T1:=mkHid (heap_alloc_new w1 (.cells #[.int .i64 tk,.string (ba tt),.int .i64 tn,.int .i64 tp] 54)); have G1:=mkHid (((GB.out.bl b1).bl (Bl.alloc w1 (.cells #[.int .i64 tk,.string (ba tt),.int .i64 tn,.int .i64 tp] 54)))); have PR1:=mkHid ((PR0.out.keep b1).keep (Bl.alloc w1 (.cells #[.int .i64 tk,.string (ba tt),.int .i64 tn,.int .i64 tp] 54))); obtain ⟨z0,z1,z2,z3⟩:=cells4 T1.out; clear b1)
   | (
    go_at_call 79; refine (HR.out _).mono ?_; rintro e w2 ⟨rfl,b2⟩
    have B2:=mkHid ((B1.out.trans b2).trans (Bl.alloc w2 (.cells #[.int .i64 R] 3)))
    have T2:Hid ((w2.alloc (.cells #[.int .i64 R] 3)).heap[w1.heap.size]?=some (.cells #[.int .i64 tk,.string (ba tt),.int .i64 tn,.int .i64 tp] 54 (0,0))):=mkHid (((b2.trans (Bl.alloc w2 (.cells #[.int .i64 R] 3))).block _ (lt_of_heap T1.out)).trans T1.out)
    have G2:=mkHid ((G1.out.bl b2).bl (Bl.alloc w2 (.cells #[.int .i64 R] 3)))
    have PR2:=mkHid ((PR1.out.keep b2).keep (Bl.alloc w2 (.cells #[.int .i64 R] 3)))
    have K2:Hid (Box (w2.alloc (.cells #[.int .i64 R] 3)) w2.heap.size (.int .i64 R) 3):=mkHid (heap_alloc_new w2 _)
    have L2:Hid (w.heap.size≤w2.heap.size):=mkHid (by have h8:=B1.out.size; have h9:=b2.size; omega)
    have k2:=K2.out.cell
    have g2:=G2.out.cell
    obtain ⟨u0,u1,u2,u3⟩:=cells4 T2.out
    clear b2)
   | (go_at_call 80; refine (HT.out _ PR2.out).mono ?_; rintro e w3 ⟨rfl,p3,f3⟩; have P3:=mkHid p3; have F3:=mkHid (fr_tr (bl_fr B2.out) f3); have hfd:=(fun W=>f54_1 (.int .i64 tk) (.string (ba tt)) (.int .i64 tn) (.int .i64 tp) W); clear p3 f3))
  refine bodyPost_ret (v:=.tuple #[.string (ba tt),.slice none 0 0]) (by simp [results,Tryz.results55,go_sem]) rfl ?_
  exact ⟨F3.out,.slice none 0 0,rfl,⟨World.ownsRow_nil _ _ _ _,fun _=>rfl⟩,P3.out⟩
 rw [if_neg h1] at hr
 by_cases h2:rankT (hdT ts s)=2
 ·rw [if_pos h2] at hr
  rw [h2] at HR
  have hq:=hok.take (rank_kind (by rw [h2]; decide))
  cases e1:pone 2 (takeP ts s) with
  | none=>rw [e1] at hr; cases hr
  | some r1 =>
   rw [e1] at hr
   have HO2:=mkHid (fun V g1 p1=>hO 2 V (takeP ts s) r1 (by decide) g1 p1 hq e1)
   have hB2z:Hid (∀ (a b:Nat),a≤b→a≤b):=mkHid (fun _ _ h=>h)
   clear h hok hy h1 h2 hO hpg hq e1
   generalize takeP ts s=st at *
   generalize hdT ts s=x at *
   obtain ⟨⟨tk,tt,tn⟩,tp⟩:=x
   dsimp only at *
   cases r1 with
   | bad z =>
    injection hr with hr
    subst hr
    go_enter Tryz.func55,Tryz.ntmps55
    go_wp2_with (first
     | (go_at_call 54; refine (HA.out _ PR0.out).mono ?_; rintro e w1 ⟨rfl,b1⟩; have B1:=mkHid ((bw0.out.trans b1).trans (Bl.alloc w1 (.cells #[.int .i64 tk,.string (ba tt),.int .i64 tn,.int .i64 tp] 54))); have T1:=mkHid (heap_alloc_new w1 (.cells #[.int .i64 tk,.string (ba tt),.int .i64 tn,.int .i64 tp] 54)); have G1:=mkHid (((GB.out.bl b1).bl (Bl.alloc w1 (.cells #[.int .i64 tk,.string (ba tt),.int .i64 tn,.int .i64 tp] 54)))); have PR1:=mkHid ((PR0.out.keep b1).keep (Bl.alloc w1 (.cells #[.int .i64 tk,.string (ba tt),.int .i64 tn,.int .i64 tp] 54))); obtain ⟨z0,z1,z2,z3⟩:=cells4 T1.out; clear b1)
     | (
      go_at_call 79; refine (HR.out _).mono ?_; rintro e w2 ⟨rfl,b2⟩
      have B2:=mkHid ((B1.out.trans b2).trans (Bl.alloc w2 (.cells #[.int .i64 2] 3)))
      have T2:Hid ((w2.alloc (.cells #[.int .i64 2] 3)).heap[w1.heap.size]?=some (.cells #[.int .i64 tk,.string (ba tt),.int .i64 tn,.int .i64 tp] 54 (0,0))):=mkHid (((b2.trans (Bl.alloc w2 (.cells #[.int .i64 2] 3))).block _ (lt_of_heap T1.out)).trans T1.out)
      have G2:=mkHid ((G1.out.bl b2).bl (Bl.alloc w2 (.cells #[.int .i64 2] 3)))
      have PR2:=mkHid ((PR1.out.keep b2).keep (Bl.alloc w2 (.cells #[.int .i64 2] 3)))
      have K2:Hid (Box (w2.alloc (.cells #[.int .i64 2] 3)) w2.heap.size (.int .i64 2) 3):=mkHid (heap_alloc_new w2 _)
      have L2:Hid (w.heap.size≤w2.heap.size):=mkHid (by have h8:=B1.out.size; have h9:=b2.size; omega)
      have k2:=K2.out.cell
      have g2:=G2.out.cell
      obtain ⟨u0,u1,u2,u3⟩:=cells4 T2.out
      clear b2))
    have F3:Hid (Fr [P] w (w2.alloc (.cells #[.int .i64 2] 3)).drew):=mkHid (fr_tr (bl_fr B2.out) (Fr.drew _ _))
    have PR3:=mkHid (PR2.out.keep (bl_drew _))
    have G3:Hid (Box (w2.alloc (.cells #[.int .i64 2] 3)).drew w.heap.size (.func (.func fo) #[] #[.pointer (some ⟨bq,0,none⟩)]) 97):=mkHid G2.out
    have K3:Hid (Box (w2.alloc (.cells #[.int .i64 2] 3)).drew w2.heap.size (.int .i64 2) 3):=mkHid K2.out
    have B2s:Hid (P < w2.heap.size):=mkHid (by have:=L2.out; have:=HPl.out; omega)
    refine wp_region_held_drew (S:=fun V=>V.cell? ⟨w.heap.size,0,none⟩=some (.func (.func fo) #[] #[.pointer (some ⟨bq,0,none⟩)])∧V.cell? ⟨w2.heap.size,0,none⟩=some (.int .i64 2)) (by kernel_rfl) (⟨G3.out.cell,K3.out.cell⟩) (fun hHeld=>?_)
    refine tq (i:=0) ?_
    try simp only [Act.put,qq]
    refine tq (i:=3) ?_
    try simp only [Act.put,qq]
    refine tq (i:=4) ?_
    try simp only [Act.put,qq]
    refine oneH (i:=1) (by kernel_rfl) rfl (fun K hK=>?_)
    refine stepE (by rfl) 80 Tryz.f80 Tryz.func80 (by kernel_rfl) (by kernel_rfl) _ _ rfl _ (by first | (simp [Act.eval]; done) | (simp [Act.eval]; rfl)) _ (HT.out _ PR3.out) ?_
    rintro _ w4 ⟨rfl,p4,f4⟩
    have hne1:w.heap.size≠P:=by omega
    have hne2:w2.heap.size≠P:=by have:=B2s.out; omega
    have G4:=mkHid (G3.out.fr f4 (by simpa using hne1))
    have K4:=mkHid (K3.out.fr f4 (by simpa using hne2))
    have P4:=mkHid p4
    have F4:=mkHid (fr_tr F3.out f4)
    have HQ4:Hid (w4.heap[bq]?=w.heap[bq]?):=mkHid (F4.out.block bq hbq (by simpa using hbP))
    clear p4 f4
    refine hK.out _ _ (⟨G4.out.cell,K4.out.cell⟩) (fun hHeld=>?_)
    clear hK K
    try simp only [Act.put,qq]
    refine wpAnyH_take (i:=2) (v:=.string (ba tt)) rfl (by kernel_rfl) (by kernel_rfl) (by kernel_rfl) (fun _ _ _ h=>h) (Or.inl ⟨by rfl,?_⟩) (by assumption) ?_
    ·(intro w hSw; have hfd:=fun W=>f54_1 (.int .i64 tk) (.string (ba tt)) (.int .i64 tn) (.int .i64 tp) W; go_simp)
    try simp only [Act.put,qq]
    refine oneH (i:=5) (by kernel_rfl) rfl (fun K hK=>?_)
    refine stepF (by rfl) fo eo _ _ _ rfl #[] #[.pointer (some ⟨bq,0,none⟩)] rfl _ rfl #[.int .i64 2,.pointer (some ⟨bq,0,none⟩)] (by first | (simp [Act.eval]; done) | (simp [Act.eval]; rfl)) _ (HO2.out _ HQ4.out P4.out) ?_
    rintro _ w5 ⟨f5,rfl⟩
    exact ⟨rfl,fr_tr F4.out f5,rfl⟩
   | ok y s1 =>
    injection hr with hr
    subst hr
    obtain ⟨⟨yk,yt,yn⟩,yp⟩:=y
    unfold PostT tkv at HO2
    dsimp only at HO2
    go_enter Tryz.func55,Tryz.ntmps55
    go_wp2_with (first
     | (go_at_call 54; refine (HA.out _ PR0.out).mono ?_; rintro e w1 ⟨rfl,b1⟩; have B1:=mkHid ((bw0.out.trans b1).trans (Bl.alloc w1 (.cells #[.int .i64 tk,.string (ba tt),.int .i64 tn,.int .i64 tp] 54))); have T1:=mkHid (heap_alloc_new w1 (.cells #[.int .i64 tk,.string (ba tt),.int .i64 tn,.int .i64 tp] 54)); have G1:=mkHid (((GB.out.bl b1).bl (Bl.alloc w1 (.cells #[.int .i64 tk,.string (ba tt),.int .i64 tn,.int .i64 tp] 54)))); have PR1:=mkHid ((PR0.out.keep b1).keep (Bl.alloc w1 (.cells #[.int .i64 tk,.string (ba tt),.int .i64 tn,.int .i64 tp] 54))); obtain ⟨z0,z1,z2,z3⟩:=cells4 T1.out; clear b1)
     | (
      go_at_call 79; refine (HR.out _).mono ?_; rintro e w2 ⟨rfl,b2⟩
      have B2:=mkHid ((B1.out.trans b2).trans (Bl.alloc w2 (.cells #[.int .i64 2] 3)))
      have T2:Hid ((w2.alloc (.cells #[.int .i64 2] 3)).heap[w1.heap.size]?=some (.cells #[.int .i64 tk,.string (ba tt),.int .i64 tn,.int .i64 tp] 54 (0,0))):=mkHid (((b2.trans (Bl.alloc w2 (.cells #[.int .i64 2] 3))).block _ (lt_of_heap T1.out)).trans T1.out)
      have G2:=mkHid ((G1.out.bl b2).bl (Bl.alloc w2 (.cells #[.int .i64 2] 3)))
      have PR2:=mkHid ((PR1.out.keep b2).keep (Bl.alloc w2 (.cells #[.int .i64 2] 3)))
      have K2:Hid (Box (w2.alloc (.cells #[.int .i64 2] 3)) w2.heap.size (.int .i64 2) 3):=mkHid (heap_alloc_new w2 _)
      have L2:Hid (w.heap.size≤w2.heap.size):=mkHid (by have h8:=B1.out.size; have h9:=b2.size; omega)
      have k2:=K2.out.cell
      have g2:=G2.out.cell
      obtain ⟨u0,u1,u2,u3⟩:=cells4 T2.out
      clear b2))
    have F3:Hid (Fr [P] w (w2.alloc (.cells #[.int .i64 2] 3)).drew):=mkHid (fr_tr (bl_fr B2.out) (Fr.drew _ _))
    have PR3:=mkHid (PR2.out.keep (bl_drew _))
    have G3:Hid (Box (w2.alloc (.cells #[.int .i64 2] 3)).drew w.heap.size (.func (.func fo) #[] #[.pointer (some ⟨bq,0,none⟩)]) 97):=mkHid G2.out
    have K3:Hid (Box (w2.alloc (.cells #[.int .i64 2] 3)).drew w2.heap.size (.int .i64 2) 3):=mkHid K2.out
    have B2s:Hid (P < w2.heap.size):=mkHid (by have:=L2.out; have:=HPl.out; omega)
    refine wp_region_held_drew (S:=fun V=>V.cell? ⟨w.heap.size,0,none⟩=some (.func (.func fo) #[] #[.pointer (some ⟨bq,0,none⟩)])∧V.cell? ⟨w2.heap.size,0,none⟩=some (.int .i64 2)) (by kernel_rfl) (⟨G3.out.cell,K3.out.cell⟩) (fun hHeld=>?_)
    refine tq (i:=0) ?_
    try simp only [Act.put,qq]
    refine tq (i:=3) ?_
    try simp only [Act.put,qq]
    refine tq (i:=4) ?_
    try simp only [Act.put,qq]
    refine oneH (i:=1) (by kernel_rfl) rfl (fun K hK=>?_)
    refine stepE (by rfl) 80 Tryz.f80 Tryz.func80 (by kernel_rfl) (by kernel_rfl) _ _ rfl _ (by first | (simp [Act.eval]; done) | (simp [Act.eval]; rfl)) _ (HT.out _ PR3.out) ?_
    rintro _ w4 ⟨rfl,p4,f4⟩
    have hne1:w.heap.size≠P:=by omega
    have hne2:w2.heap.size≠P:=by have:=B2s.out; omega
    have G4:=mkHid (G3.out.fr f4 (by simpa using hne1))
    have K4:=mkHid (K3.out.fr f4 (by simpa using hne2))
    have P4:=mkHid p4
    have F4:=mkHid (fr_tr F3.out f4)
    have HQ4:Hid (w4.heap[bq]?=w.heap[bq]?):=mkHid (F4.out.block bq hbq (by simpa using hbP))
    clear p4 f4
    refine hK.out _ _ (⟨G4.out.cell,K4.out.cell⟩) (fun hHeld=>?_)
    clear hK K
    try simp only [Act.put,qq]
    refine wpAnyH_take (i:=2) (v:=.string (ba tt)) rfl (by kernel_rfl) (by kernel_rfl) (by kernel_rfl) (fun _ _ _ h=>h) (Or.inl ⟨by rfl,?_⟩) (by assumption) ?_
    ·(intro w hSw; have hfd:=fun W=>f54_1 (.int .i64 tk) (.string (ba tt)) (.int .i64 tn) (.int .i64 tp) W; go_simp)
    try simp only [Act.put,qq]
    refine oneH (i:=5) (by kernel_rfl) rfl (fun K hK=>?_)
    refine stepF (by rfl) fo eo _ _ _ rfl #[] #[.pointer (some ⟨bq,0,none⟩)] rfl _ rfl #[.int .i64 2,.pointer (some ⟨bq,0,none⟩)] (by first | (simp [Act.eval]; done) | (simp [Act.eval]; rfl)) _ (HO2.out _ HQ4.out P4.out) ?_
    rintro _ w5 ⟨f5,rfl,p5⟩
    have G5:=mkHid (G4.out.fr f5 (by simpa using hne1))
    have K5:=mkHid (K4.out.fr f5 (by simpa using hne2))
    have R6:=mkHid (heap_alloc_new w5 (.cells #[.int .i64 yk,.string (ba yt),.int .i64 yn,.int .i64 yp] 54))
    have P6:=mkHid (p5.keep (Bl.alloc w5 (.cells #[.int .i64 yk,.string (ba yt),.int .i64 yn,.int .i64 yp] 54)))
    have F6:=mkHid (fr_tr (fr_tr F4.out f5) (Fr.alloc [P] w5 (.cells #[.int .i64 yk,.string (ba yt),.int .i64 yn,.int .i64 yp] 54)))
    have L6:Hid (w.heap.size≤w5.heap.size):=mkHid (by have:=F4.out.size; have:=f5.size; omega)
    clear p5 f5
    refine hK.out _ _ (⟨G5.out.cell,K5.out.cell⟩) (fun hHeld=>?_)
    clear hK K
    try simp only [Act.put,qq]
    refine tq (i:=7) ?_
    try simp only [Act.put,qq]
    refine oneH (i:=6) (by kernel_rfl) rfl (fun K hK=>?_)
    refine stepB2 (by rfl) (v:=.slice (some ⟨w5.heap.size,0,none⟩) 1 1) (w':=w5.alloc (.cells #[.int .i64 yk,.string (ba yt),.int .i64 yn,.int .i64 yp] 54)) (by go_simp) ?_
    refine hK.out _ _ (⟨(G5.out.bl (Bl.alloc _ _)).cell,(K5.out.bl (Bl.alloc _ _)).cell⟩) (fun hHeld=>?_)
    clear hK K
    try simp only [Act.put,qq]
    refine tq (i:=8) ?_
    try simp only [Act.put,qq]
    refine wpAnyH_done (by kernel_rfl) ?_ _
    clear hHeld
    go_wp2_with fail
    refine bodyPost_ret (v:=.tuple #[.string (ba tt),.slice (some ⟨w5.heap.size,0,none⟩) 1 1]) (by simp [results,Tryz.results55,go_sem]) rfl ?_
    exact ⟨F6.out,_,rfl,⟨⟨rfl,Or.inr ⟨w5.heap.size,1,_,rfl,L6.out,R6.out,Nat.le_refl _,by decide,rfl,rfl⟩⟩,fun h0=>by cases h0⟩,P6.out⟩
 rw [if_neg h2] at hr
 by_cases h3:rankT (hdT ts s)=3
 ·rw [if_pos h3] at hr
  rw [h3] at HR
  have HKw:=mkHid (fun (V:World) (B0 Br:Nat) (p:Pr V P g c ts s) (q:V.heap[bq]?=w.heap[bq]?) (b0:Box V B0 (.func (.func fo) #[] #[.pointer (some ⟨bq,0,none⟩)]) 97) (b1:Box V Br (.int .i64 (3:Nat)) 3) (n0:B0≠P) (n1:Br≠P) (lb:w.heap.size≤V.heap.size) =>
   keywordsT_ok (ts:=ts) f 82 #[] #[.pointer (some ⟨B0,0,none⟩),.pointer (some ⟨Br,0,none⟩)] #[.pointer (some ⟨B0,0,none⟩),.pointer (some ⟨Br,0,none⟩)] (ent 82 _ _ Tryz.func82 (by kernel_rfl) rfl) (by simp) (pone 3) (fun s hs=>hpg 3 s (by decide) hs) P g c s V r [bq,B0,Br] (fun b hb=>by simp at hb; rcases hb with rfl | rfl | rfl; exact ⟨hbP,by omega⟩; exact ⟨n0,b0.lt⟩; exact ⟨n1,b1.lt⟩)
    (fun X s r g1 p1 o1 e1=>clo82_ok (w:=w) eo pone hO 3 B0 Br (by decide) X s r ((g1 bq (by simp)).trans q) ((g1 B0 (by simp)).trans b0) ((g1 Br (by simp)).trans b1) p1 o1 e1 (by have:=(Array.getElem?_eq_some_iff.1 ((g1 B0 (by simp)).trans b0)).1; exact lt_of_some_heap ((g1 bq (by simp)).trans q) hbq)) p hok hr)
  clear h hy h1 h2 h3 hO hpg
  generalize hdT ts s=x at *
  obtain ⟨⟨tk,tt,tn⟩,tp⟩:=x
  dsimp only at *
  cases r with
  | bad z =>
   go_enter Tryz.func55,Tryz.ntmps55
   go_wp2_with (first
    | (go_at_call 54; refine (HA.out _ PR0.out).mono ?_; rintro e w1 ⟨rfl,b1⟩; have B1:=mkHid ((bw0.out.trans b1).trans (Bl.alloc w1 (.cells #[.int .i64 tk,.string (ba tt),.int .i64 tn,.int .i64 tp] 54))); have T1:=mkHid (heap_alloc_new w1 (.cells #[.int .i64 tk,.string (ba tt),.int .i64 tn,.int .i64 tp] 54)); have G1:=mkHid (((GB.out.bl b1).bl (Bl.alloc w1 (.cells #[.int .i64 tk,.string (ba tt),.int .i64 tn,.int .i64 tp] 54)))); have PR1:=mkHid ((PR0.out.keep b1).keep (Bl.alloc w1 (.cells #[.int .i64 tk,.string (ba tt),.int .i64 tn,.int .i64 tp] 54))); obtain ⟨z0,z1,z2,z3⟩:=cells4 T1.out; clear b1)
    | (
     go_at_call 79; refine (HR.out _).mono ?_; rintro e w2 ⟨rfl,b2⟩
     have B2:=mkHid ((B1.out.trans b2).trans (Bl.alloc w2 (.cells #[.int .i64 (3:Nat)] 3)))
     have T2:Hid ((w2.alloc (.cells #[.int .i64 (3:Nat)] 3)).heap[w1.heap.size]?=some (.cells #[.int .i64 tk,.string (ba tt),.int .i64 tn,.int .i64 tp] 54 (0,0))):=mkHid (((b2.trans (Bl.alloc w2 (.cells #[.int .i64 (3:Nat)] 3))).block _ (lt_of_heap T1.out)).trans T1.out)
     have G2:=mkHid ((G1.out.bl b2).bl (Bl.alloc w2 (.cells #[.int .i64 (3:Nat)] 3)))
     have PR2:=mkHid ((PR1.out.keep b2).keep (Bl.alloc w2 (.cells #[.int .i64 (3:Nat)] 3)))
     have K2:Hid (Box (w2.alloc (.cells #[.int .i64 (3:Nat)] 3)) w2.heap.size (.int .i64 (3:Nat)) 3):=mkHid (heap_alloc_new w2 _)
     have L2:Hid (w.heap.size≤w2.heap.size):=mkHid (by have h8:=B1.out.size; have h9:=b2.size; omega)
     have k2:=K2.out.cell
     have g2:=G2.out.cell
     obtain ⟨u0,u1,u2,u3⟩:=cells4 T2.out
     clear b2)
    | (go_at_call 81; refine (HKw.out _ _ _ PR2.out (B2.out.block bq hbq) G2.out K2.out (by omega) (by have:=L2.out; have:=HPl.out; omega) B2.out.size).mono ?_; rintro e w5 ⟨f5,rfl⟩; have F5:=mkHid (fr_tr (bl_fr B2.out) f5); clear f5))
   exact ⟨rfl,F5.out,rfl⟩
  | ok y s1 =>
   go_enter Tryz.func55,Tryz.ntmps55
   go_wp2_with (first
    | (go_at_call 54; refine (HA.out _ PR0.out).mono ?_; rintro e w1 ⟨rfl,b1⟩; have B1:=mkHid ((bw0.out.trans b1).trans (Bl.alloc w1 (.cells #[.int .i64 tk,.string (ba tt),.int .i64 tn,.int .i64 tp] 54))); have T1:=mkHid (heap_alloc_new w1 (.cells #[.int .i64 tk,.string (ba tt),.int .i64 tn,.int .i64 tp] 54)); have G1:=mkHid (((GB.out.bl b1).bl (Bl.alloc w1 (.cells #[.int .i64 tk,.string (ba tt),.int .i64 tn,.int .i64 tp] 54)))); have PR1:=mkHid ((PR0.out.keep b1).keep (Bl.alloc w1 (.cells #[.int .i64 tk,.string (ba tt),.int .i64 tn,.int .i64 tp] 54))); obtain ⟨z0,z1,z2,z3⟩:=cells4 T1.out; clear b1)
    | (
     go_at_call 79; refine (HR.out _).mono ?_; rintro e w2 ⟨rfl,b2⟩
     have B2:=mkHid ((B1.out.trans b2).trans (Bl.alloc w2 (.cells #[.int .i64 (3:Nat)] 3)))
     have T2:Hid ((w2.alloc (.cells #[.int .i64 (3:Nat)] 3)).heap[w1.heap.size]?=some (.cells #[.int .i64 tk,.string (ba tt),.int .i64 tn,.int .i64 tp] 54 (0,0))):=mkHid (((b2.trans (Bl.alloc w2 (.cells #[.int .i64 (3:Nat)] 3))).block _ (lt_of_heap T1.out)).trans T1.out)
     have G2:=mkHid ((G1.out.bl b2).bl (Bl.alloc w2 (.cells #[.int .i64 (3:Nat)] 3)))
     have PR2:=mkHid ((PR1.out.keep b2).keep (Bl.alloc w2 (.cells #[.int .i64 (3:Nat)] 3)))
     have K2:Hid (Box (w2.alloc (.cells #[.int .i64 (3:Nat)] 3)) w2.heap.size (.int .i64 (3:Nat)) 3):=mkHid (heap_alloc_new w2 _)
     have L2:Hid (w.heap.size≤w2.heap.size):=mkHid (by have h8:=B1.out.size; have h9:=b2.size; omega)
     have k2:=K2.out.cell
     have g2:=G2.out.cell
     obtain ⟨u0,u1,u2,u3⟩:=cells4 T2.out
     clear b2)
    | (go_at_call 81; refine (HKw.out _ _ _ PR2.out (B2.out.block bq hbq) G2.out K2.out (by omega) (by have:=L2.out; have:=HPl.out; omega) B2.out.size).mono ?_; rintro e w5 ⟨f5,v,rfl,z5,p5⟩; have F5:=mkHid (fr_tr (bl_fr B2.out) f5); have L5:=mkHid B2.out.size))
   refine bodyPost_ret (v:=.tuple #[.string (ba y.1),v]) (by simp [results,Tryz.results55,go_sem]) rfl ?_
   exact ⟨F5.out,v,rfl,⟨ownR_base z5.1 L5.out,z5.2⟩,p5⟩
 ·rw [if_neg h3] at hr
  injection hr with hr
  subst hr
  have q1:((rankT (hdT ts s):Int) == 1)=false:=beq_eq_false_iff_ne.2 (by omega)
  have q2:((rankT (hdT ts s):Int) == 2)=false:=beq_eq_false_iff_ne.2 (by omega)
  have q3:((rankT (hdT ts s):Int) == 3)=false:=beq_eq_false_iff_ne.2 (by omega)
  clear h hok hy h1 h2 h3 hO hpg HT
  generalize rankT (hdT ts s)=R at *
  generalize hdT ts s=x at *
  obtain ⟨⟨tk,tt,tn⟩,tp⟩:=x
  dsimp only at *
  go_enter Tryz.func55,Tryz.ntmps55
  go_wp2_with (first
   | (go_at_call 54; refine (HA.out _ PR0.out).mono ?_; rintro e w1 ⟨rfl,b1⟩; have B1:=mkHid ((bw0.out.trans b1).trans (Bl.alloc w1 (.cells #[.int .i64 tk,.string (ba tt),.int .i64 tn,.int .i64 tp] 54))); have T1:=mkHid (heap_alloc_new w1 (.cells #[.int .i64 tk,.string (ba tt),.int .i64 tn,.int .i64 tp] 54)); have G1:=mkHid (((GB.out.bl b1).bl (Bl.alloc w1 (.cells #[.int .i64 tk,.string (ba tt),.int .i64 tn,.int .i64 tp] 54)))); have PR1:=mkHid ((PR0.out.keep b1).keep (Bl.alloc w1 (.cells #[.int .i64 tk,.string (ba tt),.int .i64 tn,.int .i64 tp] 54))); obtain ⟨z0,z1,z2,z3⟩:=cells4 T1.out; clear b1)
   | (
    go_at_call 79; refine (HR.out _).mono ?_; rintro e w2 ⟨rfl,b2⟩
    have B2:=mkHid ((B1.out.trans b2).trans (Bl.alloc w2 (.cells #[.int .i64 R] 3)))
    have T2:Hid ((w2.alloc (.cells #[.int .i64 R] 3)).heap[w1.heap.size]?=some (.cells #[.int .i64 tk,.string (ba tt),.int .i64 tn,.int .i64 tp] 54 (0,0))):=mkHid (((b2.trans (Bl.alloc w2 (.cells #[.int .i64 R] 3))).block _ (lt_of_heap T1.out)).trans T1.out)
    have G2:=mkHid ((G1.out.bl b2).bl (Bl.alloc w2 (.cells #[.int .i64 R] 3)))
    have PR2:=mkHid ((PR1.out.keep b2).keep (Bl.alloc w2 (.cells #[.int .i64 R] 3)))
    have K2:Hid (Box (w2.alloc (.cells #[.int .i64 R] 3)) w2.heap.size (.int .i64 R) 3):=mkHid (heap_alloc_new w2 _)
    have L2:Hid (w.heap.size≤w2.heap.size):=mkHid (by have h8:=B1.out.size; have h9:=b2.size; omega)
    have k2:=K2.out.cell
    have g2:=G2.out.cell
    obtain ⟨u0,u1,u2,u3⟩:=cells4 T2.out
    clear b2))
  exact ⟨rfl,bl_fr B2.out,rfl⟩
end Go.Proofs.YtfhkhmgodkheaaaGreatDoor
