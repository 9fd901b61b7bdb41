import Derived.Test.YtfhkhmgodkheaaaGreatDoorQCG21PMes
import Derived.Lib.SliceRun
set_option linter.unusedSimpArgs false
set_option linter.unusedVariables false
set_option maxRecDepth 1000000
set_option maxHeartbeats 16000000
namespace Go.Proofs.YtfhkhmgodkheaaaGreatDoor
open Go.RowKit Go.Maps
def Ss (w V:World) (P g c:Nat) (ts:Ts) (s:Ps) (n:Nd):Prop:=Fr [P] w V∧Pr V P g c ts s∧Okq ts s∧∃ c0 c1 c2 c3 c4 c5 c6 ft,V.heap[w.heap.size]?=some (.cells #[c0,c1,c2,c3,c4,c5,c6] 34 (0,0))∧NdM V n (.agg #[c0,c1,c2,c3,c4,c5,c6]) ft∧Apt (w.heap.size+1) ft
theorem Ss.pr {w V:World} {P g c:Nat} {ts:Ts} {s:Ps} {n:Nd} (h:Ss w V P g c ts s n):Pr V P g c ts s:=h.2.1
theorem Ss.fr {w V:World} {P g c:Nat} {ts:Ts} {s:Ps} {n:Nd} (h:Ss w V P g c ts s n):Fr [P] w V:=h.1
theorem Ss.bl {w V V':World} {P g c:Nat} {ts:Ts} {s:Ps} {n:Nd} (h:Ss w V P g c ts s n) (b:Bl V V'):Ss w V' P g c ts s n:=by
 obtain ⟨h1,h2,h3,c0,c1,c2,c3,c4,c5,c6,ft,h4,h5,h6⟩:=h
 exact ⟨qu h1 (za b),h2.keep b,h3,c0,c1,c2,c3,c4,c5,c6,ft,(b.block _ (qf h4)).trans h4,h5.fr (Fr.ofBl b []) (by simp),h6⟩
theorem retS {f:Func} {V:World} {B:Nat} {tm:Array Value} {c0 c1 c2 c3 c4 c5 c6:Value} {b:Bool} {R:Ending→World→Prop} (hres:f.results=#[.cell 4 34,.tmp 5]) (hB:V.heap[B]?=some (.cells #[c0,c1,c2,c3,c4,c5,c6] 34 (0,0)))
  (h4:tm.getD 4 undef=.pointer (some ⟨B,0,none⟩)) (h5:tm.getD 5 undef=.bool b) (hR:R (.returned (.tuple #[.agg #[c0,c1,c2,c3,c4,c5,c6],.bool b])) V):bodyPost Tryz.prog f R .ret ⟨tm,[]⟩ V:=by
 obtain ⟨x0,x1,x2,x3,x4,x5,x6⟩:=zp hB
 have h4':tm[4]?.getD undef=.pointer (some ⟨B,0,none⟩):=by simpa using h4
 have h5':tm[5]?.getD undef=.bool b:=by simpa using h5
 refine bodyPost_ret (v:=.tuple #[.agg #[c0,c1,c2,c3,c4,c5,c6],.bool b]) (by simp [results,hres,go_sem,h4,h4',h5,h5',x0,x1,x2,x3,x4,x5,x6]) rfl hR
theorem sends_ok (ts:Ts) (f:Nat) (hPr:∀ most P g c s w r,Pr w P g c ts s→Okq ts s→ze ts f most s=some r→Calls Tryz.prog 163 #[.pointer (some ⟨P,0,none⟩),.int .i64 most] w (PostN P g c ts w r)) (hMs:∀ f',f'≤f→CN 156 ts (qM ts f')):CS3 ts (f+1):=by
 intro most P g c s w r hmost h hok hr
 unfold zm at hr
 have HPl:=qd h.lt
 have HGl:=qd (h.glt (by have:=hok.lt; omega))
 have S0:=qd (Sw.start h hok)
 cases e1:ze ts f most s with
 | none=>rw [e1] at hr; cases hr
 | some r1 =>
  rw [e1] at hr;have HPm:=qd (fun V p=>hPr most P g c s V r1 p hok e1)
  cases r1 with
  | bad x =>
   injection hr with hr
   subst hr;clear h hok e1 hPr hMs
   go_enter Tryz.func153,Tryz.ntmps153
   go_wp2_with (go_at_call 163; refine (HPm.out _ S0.out.pr).mono ?_; intro e w9 q9; obtain ⟨rfl,f9⟩:=zy q9; have F9:=qd (qu S0.out.fr f9); clear q9 f9)
   exact ⟨rfl,F9.out,rfl⟩
  | ok n0 s0 =>
   have hr0:zn ts f most 1 n0 false s0=some r:=hr;have HR0:=qd hr0;have HQ0:=qd ((zS ts f).prim most s hok n0 s0 e1).2;have HMs0:=qd hMs;clear h hok e1 hPr hMs hr hr0
   go_enter Tryz.func153,Tryz.ntmps153
   go_wp2_with (first
    | (
     go_at_call 163; refine (HPm.out _ S0.out.pr).mono ?_; intro e w9 q9; obtain ⟨c0,c1,c2,c3,c4,c5,c6,ft,rfl,n9,a9,p9,f9⟩:=zK q9
     have S9:=qd (S0.out.go f9 p9);have N9:=qd n9;have A9:Hid (Apt (w.heap.size+1) ft):=qd (a9.mono S0.out.size);obtain ⟨V1,hV1⟩:∃ X,w9.setRow w.heap.size #[c0,c1,c2,c3,c4,c5,c6]=X:=⟨_,rfl⟩;have HS:Hid (Ss w V1 P g c ts s0 n0):=qd (by
      have fb:Fr [w.heap.size] w9 V1:=hV1▸qG _ _ _;exact ⟨S9.out.fr.trans fb (fun b hb=>Or.inr (by simp at hb; omega)),S9.out.pr.other fb (by have:=HPl.out; simp; omega) (by have:=HGl.out; simp; omega),HQ0.out,_,_,_,_,_,_,_,_,hV1▸setRow_heap _ _ _ _ 34 (0,0) S9.out.res,N9.out.fr fb (fun b hb=>by have:=A9.out.lo b hb; simp; omega),A9.out⟩)
     clear q9 n9 a9 p9 f9)
    | (refine wpList_store_row rfl 34 _ _ rfl w.heap.size #[c0,c1,c2,c3,c4,c5,c6] rfl rfl 34 _ S9.out.res (by kernel_rfl) rfl (qL N9.out) ?_; rw [hV1]))
   clear S9 N9 A9 hV1 HQ0 HPm S0
   go_loopw [5,6] (fun q k wr=>∃ (f' rank:Nat) (n:Nd) (sent:Bool) (s:Ps),f'≤f∧1≤rank∧rank≤4∧k=.int .i64 rank∧q=.bool sent∧Hid (zn ts f' most rank n sent s=some r)∧Hid (Ss w wr P g c ts s n)) (fun _ k _=>5 - (intOf k).toNat)
   case atStart=>exact ⟨f,1,n0,false,s0,Nat.le_refl _,by decide,by decide,rfl,rfl,HR0,HS⟩
   case round =>
    obtain ⟨f',rank,n,sent,s,hf',hr1,hr4,rfl,rfl,hrk,hss⟩:=hrel;clear HR0 HS
    by_cases hm:most < rank
    ·have km:¬ (rank:Int)≤most:=by omega
     have hfin:r=.ok (n,sent) s:=by
      have h9:=hrk.out
      cases f' with
      | zero=>unfold zn at h9; cases h9
      | succ f'=>unfold zn at h9; rw [if_pos hm] at h9; injection h9 with h9; exact h9.symm
     subst hfin;obtain ⟨h1,h2,h3,c0,c1,c2,c3,c4,c5,c6,ft,h4,h5,h6⟩:=hss.out;obtain ⟨u0,u1,u2,u3,u4,u5,u6⟩:=zp h4;have H4:=qd h4;have H5:=qd h5;have H6:=qd h6;have H1:=qd h1;have H2:=qd h2;clear h1 h2 h3 h4 h5 h6 hrk hss hm
     go_wp2_with (refine wpList_store_row rfl 34 _ _ rfl w.heap.size #[c0,c1,c2,c3,c4,c5,c6] rfl rfl 34 _ H4.out (by kernel_rfl) rfl (qL H5.out) ?_)
     have fb:=qG wr w.heap.size #[c0,c1,c2,c3,c4,c5,c6];refine retS Tryz.results153 (B:=w.heap.size) (setRow_heap _ _ _ _ 34 (0,0) H4.out) rfl rfl ?_;exact ⟨H1.out.trans fb (fun b hb=>Or.inr (by simp at hb; omega)),_,_,_,_,_,_,_,ft,rfl,H5.out.fr fb (fun b hb=>by have:=H6.out.lo b hb; simp; omega),H6.out.mono (by omega),H2.out.other fb (by have:=HPl.out; simp; omega) (by have:=HGl.out; simp; omega)⟩
    ·have km:(rank:Int)≤most:=by omega
     generalize wr=wo at *
     go_wp2_with fail
     go_loopw [5] (fun q wr=>∃ (f':Nat) (n:Nd) (sent:Bool) (s:Ps),f'≤f∧q=.bool sent∧Hid (zn ts f' most rank n sent s=some r)∧Hid (Ss w wr P g c ts s n)) (fun _ wr=>ts.length - posW wr P)
     case atStart=>exact ⟨f',n,sent,s,hf',rfl,hrk,hss⟩
     case round =>
      clear hrk hss;obtain ⟨f,n,sent,s,hf,rfl,hrk,hss⟩:=hrel
      cases f with
      | zero=>exact absurd hrk.out (by unfold zn; simp)
      | succ f =>
      have hrk1:=hrk.out;unfold zn at hrk1;rw [if_neg hm] at hrk1;have hok:=hss.out.2.2.1;have HA:=qd (fun V p=>zI P g c ts s V p hok.lt (by have:=hok.len; omega))
      have hy:(hdT ts s).1.text.length≤8192:=by have:=hok.txt.1; omega
      have HR:=qd (fun V=>rankT_ok (hdT ts s) V hy)
      unfold tkv at HA HR;have K2:=hss;have HM:=qd hss.out.pr.posW
      by_cases hk:qy (hdT ts s)=rank
      ·rw [if_pos hk] at hrk1
       rw [hk] at HR
       cases e1:qM ts f s with
       | none=>rw [e1] at hrk1; cases hrk1
       | some r1 =>
        rw [e1] at hrk1;have HMs:=qd (fun V p=>HMs0.out f (by omega) P g c s V r1 p hok e1)
        have hpg:=(zS ts f).msg s hok;have hml:=fun (m:Nd) (s':Ps) (e:qM ts f s=some (.ok m s'))=>msg_len hok e
        cases r1 with
        | bad x =>
         injection hrk1 with hrk1
         subst hrk1;clear hok hy hk e1 hpg hml hrk hss;generalize hdT ts s=y at *;obtain ⟨⟨tk,tt,tn⟩,tp⟩:=y;dsimp only at *
         go_wp2_with (first
          | (go_at_call 54; refine (HA.out _ K2.out.pr).mono ?_; rintro e wy ⟨rfl,by1⟩; have KY:=qd (K2.out.bl by1); clear by1)
          | (go_at_call 79; refine (HR.out _).mono ?_; rintro e wz ⟨rfl,bz1⟩; have K3:=qd (KY.out.bl bz1); clear bz1))
         obtain ⟨_,_,_,c0,c1,c2,c3,c4,c5,c6,ft,RZ',NZ',AD'⟩:=K3.out;have RZ:=qd RZ';have NZ:=qd NZ';have AD:=qd AD';clear RZ' NZ' AD';have PD:=qd (K3.out.pr.keep (qV _));have FD:=qd (qu K3.out.fr (Fr.drew _ _));have RD:Hid ((wz).drew.heap[w.heap.size]?=some (.cells #[c0,c1,c2,c3,c4,c5,c6] 34 (0,0))):=qd RZ.out;have ND:=qd (NZ.out.fr (Fr.drew [] wz) (by simp))
         refine wp_region_held_drew (S:=fun _=>True) (by kernel_rfl) trivial (fun hHeld=>?_)
         refine tq (i:=1) ?_
         try simp only [Act.put,qq]
         refine twoH (i:=0) (j:=2) (by kernel_rfl) rfl rfl (fun K hK=>?_) (fun K hK=>?_)
         ·obtain ⟨u0,u1,u2,u3,u4,u5,u6⟩:=zp RD.out
          refine zQ (by rfl) (v:=.agg #[c0,c1,c2,c3,c4,c5,c6]) (w':=wz.drew) (by go_simp) ?_
          clear u0 u1 u2 u3 u4 u5 u6;refine hK.out _ _ trivial (fun hHeld=>?_)
          clear hK K
          try simp only [Act.put,qq]
          refine qU (i:=2) (by kernel_rfl) rfl (fun K hK=>?_)
          refine qO (by rfl) 156 Tryz.f156 Tryz.func156 (by kernel_rfl) (by kernel_rfl) _ _ rfl _ (by first | (simp [Act.eval]; done) | (simp [Act.eval]; rfl)) _ (HMs.out _ PD.out) ?_
          intro e w3 q3;obtain ⟨rfl,f3⟩:=zy q3;exact ⟨rfl,qu FD.out f3,rfl⟩
         ·refine qO (by rfl) 156 Tryz.f156 Tryz.func156 (by kernel_rfl) (by kernel_rfl) _ _ rfl _ (by first | (simp [Act.eval]; done) | (simp [Act.eval]; rfl)) _ (HMs.out _ PD.out) ?_
          intro e w3 q3;obtain ⟨rfl,f3⟩:=zy q3;exact ⟨rfl,qu FD.out f3,rfl⟩
        | ok m s1 =>
         obtain ⟨p1,q1⟩:=hpg m s1 e1;have HP1:=qd p1;have HQ1:=qd q1;obtain ⟨mk,mt,mnum,mpl,mnms,mpls,mkids⟩:=m;have HMl:Hid (mkids.length≤4097):=qd (hml _ _ e1);have HR1:Hid (zn ts f most rank (sendN n (.mk mk mt mnum mpl mnms mpls mkids)) true s1=some r):=qd hrk1;clear hok hy hk e1 hpg hml hrk hss hrk1 p1 q1;generalize hdT ts s=y at *;obtain ⟨⟨tk,tt,tn⟩,tp⟩:=y;dsimp only at *
         go_wp2_with (first
          | (go_at_call 54; refine (HA.out _ K2.out.pr).mono ?_; rintro e wy ⟨rfl,by1⟩; have KY:=qd (K2.out.bl by1); clear by1)
          | (go_at_call 79; refine (HR.out _).mono ?_; rintro e wz ⟨rfl,bz1⟩; have K3:=qd (KY.out.bl bz1); clear bz1))
         obtain ⟨_,_,_,c0,c1,c2,c3,c4,c5,c6,ft,RZ',NZ',AD'⟩:=K3.out;have RZ:=qd RZ';have NZ:=qd NZ';have AD:=qd AD';clear RZ' NZ' AD';have PD:=qd (K3.out.pr.keep (qV _));have FD:=qd (qu K3.out.fr (Fr.drew _ _));have RD:Hid ((wz).drew.heap[w.heap.size]?=some (.cells #[c0,c1,c2,c3,c4,c5,c6] 34 (0,0))):=qd RZ.out;have ND:=qd (NZ.out.fr (Fr.drew [] wz) (by simp))
         refine wp_region_held_drew (S:=fun _=>True) (by kernel_rfl) trivial (fun hHeld=>?_)
         refine tq (i:=1) ?_
         try simp only [Act.put,qq]
         refine twoH (i:=0) (j:=2) (by kernel_rfl) rfl rfl (fun K hK=>?_) (fun K hK=>?_)
         ·obtain ⟨u0,u1,u2,u3,u4,u5,u6⟩:=zp RD.out
          refine zQ (by rfl) (v:=.agg #[c0,c1,c2,c3,c4,c5,c6]) (w':=wz.drew) (by go_simp) ?_
          clear u0 u1 u2 u3 u4 u5 u6;refine hK.out _ _ trivial (fun hHeld=>?_)
          clear hK K
          try simp only [Act.put,qq]
          refine qU (i:=2) (by kernel_rfl) rfl (fun K hK=>?_)
          refine qO (by rfl) 156 Tryz.f156 Tryz.func156 (by kernel_rfl) (by kernel_rfl) _ _ rfl _ (by first | (simp [Act.eval]; done) | (simp [Act.eval]; rfl)) _ (HMs.out _ PD.out) ?_
          intro e w3 q3;obtain ⟨f3,v3,fm,rfl,n3,a3,p3⟩:=q3;have F3:=qd (qu FD.out f3);have R3:Hid (w3.heap[w.heap.size]?=some (.cells #[c0,c1,c2,c3,c4,c5,c6] 34 (0,0))):=qd ((f3.block _ (qf RD.out) (by have:=HPl.out; simp; omega)).trans RD.out)
          have N3:=qd (ND.out.fr f3 (fun b hb=>by have:=AD.out.lo b hb; have:=HPl.out; simp; omega))
          have hnd:(ft++fm).Nodup:=List.nodup_append.2 ⟨AD.out.nd,a3.nd,fun x hx y hy e=>by have:=ND.out.lt x hx; have:=a3.lo y hy; omega⟩
          have HSd:=qd (send_ok n c0 c1 c2 c3 c4 c5 c6 ft mk mt mnum mpl mnms mpls mkids v3 fm w3 N3.out n3 hnd (by have:=HMl.out; omega))
          have P3:=qd p3;have M3:=qd a3;have D3:=qd f3.size;obtain ⟨e0,e1,e2,e3,e4,e5,e6,ev⟩:=n3.form;subst ev;clear f3 n3 a3 p3 hnd;refine hK.out _ _ trivial (fun hHeld=>?_)
          clear hK K
          try simp only [Act.put,qq]
          refine qU (i:=3) (by kernel_rfl) rfl (fun K hK=>?_)
          refine qO (by rfl) 164 Tryz.f164 Tryz.func164 (by kernel_rfl) (by kernel_rfl) _ _ rfl _ (by first | (simp [Act.eval]; done) | (simp [Act.eval]; rfl)) _ (HSd.out) ?_
          rintro _ w4 ⟨b4,c0',c1',c2',c3',c4',c5',c6',ft4,rfl,n4,d4,o4⟩;have N4:=qd n4;have R4:Hid (w4.heap[w.heap.size]?=some (.cells #[c0,c1,c2,c3,c4,c5,c6] 34 (0,0))):=qd ((b4.block _ (qf R3.out)).trans R3.out);have A4:Hid (Apt (w.heap.size+1) ft4):=qd ⟨d4,fun b hb=>by
           rcases o4 b hb with h | h
           ·rcases List.mem_append.1 h with h | h
            ·exact AD.out.lo b h
            ·have:=M3.out.lo b h; have:=qf RD.out; omega
           ·have:=qf R3.out; omega⟩
          have P4:=qd (P3.out.keep b4);have F4:=qd (qu F3.out (za b4));clear b4 n4 d4 o4;refine hK.out _ _ trivial (fun hHeld=>?_)
          clear hK K
          try simp only [Act.put,qq]
          refine qU (i:=4) (by kernel_rfl) rfl (fun K hK=>?_)
          refine jn (by rfl) 34 _ _ rfl w.heap.size #[c0',c1',c2',c3',c4',c5',c6'] rfl rfl 34 _ R4.out (by kernel_rfl) rfl (qL N4.out) ?_
          refine hK.out _ _ trivial (fun hHeld=>?_)
          clear hK K
          try simp only [Act.put,qq]
          refine tq (i:=5) ?_
          try simp only [Act.put,qq]
          refine wpAnyH_done (by kernel_rfl) ?_ _
          clear hHeld;obtain ⟨W5,hW5⟩:∃ X,w4.setRow w.heap.size #[c0',c1',c2',c3',c4',c5',c6']=X:=⟨_,rfl⟩;have fb:Fr [w.heap.size] w4 W5:=hW5▸qG _ _ _;have K5:Hid (Ss w W5 P g c ts s1 (sendN n (.mk mk mt mnum mpl mnms mpls mkids))):=qd ⟨F4.out.trans fb (fun b hb=>Or.inr (by simp at hb; omega)),P4.out.other fb (by have:=HPl.out; simp; omega) (by have:=HGl.out; simp; omega),HQ1.out,_,_,_,_,_,_,_,_,hW5▸setRow_heap _ _ _ _ 34 (0,0) R4.out,N4.out.fr fb (fun b hb=>by have:=A4.out.lo b hb; simp; omega),A4.out⟩
          rw [hW5]
          go_wp2_with fail
          go_roundw
          case rel=>exact ⟨f,_,true,s1,by omega,rfl,HR1,K5⟩
          case measure =>
           have m1:=K5.out.pr.posW;have m2:=HM.out;have:=HP1.out;have:=HQ1.out.lt;omega
         ·refine qO (by rfl) 156 Tryz.f156 Tryz.func156 (by kernel_rfl) (by kernel_rfl) _ _ rfl _ (by first | (simp [Act.eval]; done) | (simp [Act.eval]; rfl)) _ (HMs.out _ PD.out) ?_
          intro e w3 q3;obtain ⟨f3,v3,fm,rfl,n3,a3,p3⟩:=q3;have F3:=qd (qu FD.out f3);have R3:Hid (w3.heap[w.heap.size]?=some (.cells #[c0,c1,c2,c3,c4,c5,c6] 34 (0,0))):=qd ((f3.block _ (qf RD.out) (by have:=HPl.out; simp; omega)).trans RD.out)
          have N3:=qd (ND.out.fr f3 (fun b hb=>by have:=AD.out.lo b hb; have:=HPl.out; simp; omega))
          have hnd:(ft++fm).Nodup:=List.nodup_append.2 ⟨AD.out.nd,a3.nd,fun x hx y hy e=>by have:=ND.out.lt x hx; have:=a3.lo y hy; omega⟩
          have HSd:=qd (send_ok n c0 c1 c2 c3 c4 c5 c6 ft mk mt mnum mpl mnms mpls mkids v3 fm w3 N3.out n3 hnd (by have:=HMl.out; omega))
          have P3:=qd p3;have M3:=qd a3;have D3:=qd f3.size;obtain ⟨e0,e1,e2,e3,e4,e5,e6,ev⟩:=n3.form;subst ev;clear f3 n3 a3 p3 hnd;refine hK.out _ _ trivial (fun hHeld=>?_)
          clear hK K
          try simp only [Act.put,qq]
          refine qU (i:=0) (by kernel_rfl) rfl (fun K hK=>?_)
          obtain ⟨u0,u1,u2,u3,u4,u5,u6⟩:=zp R3.out;refine zQ (by rfl) (v:=.agg #[c0,c1,c2,c3,c4,c5,c6]) (w':=w3) (by go_simp) ?_
          clear u0 u1 u2 u3 u4 u5 u6;refine hK.out _ _ trivial (fun hHeld=>?_)
          clear hK K
          try simp only [Act.put,qq]
          refine qU (i:=3) (by kernel_rfl) rfl (fun K hK=>?_)
          refine qO (by rfl) 164 Tryz.f164 Tryz.func164 (by kernel_rfl) (by kernel_rfl) _ _ rfl _ (by first | (simp [Act.eval]; done) | (simp [Act.eval]; rfl)) _ (HSd.out) ?_
          rintro _ w4 ⟨b4,c0',c1',c2',c3',c4',c5',c6',ft4,rfl,n4,d4,o4⟩;have N4:=qd n4;have R4:Hid (w4.heap[w.heap.size]?=some (.cells #[c0,c1,c2,c3,c4,c5,c6] 34 (0,0))):=qd ((b4.block _ (qf R3.out)).trans R3.out);have A4:Hid (Apt (w.heap.size+1) ft4):=qd ⟨d4,fun b hb=>by
           rcases o4 b hb with h | h
           ·rcases List.mem_append.1 h with h | h
            ·exact AD.out.lo b h
            ·have:=M3.out.lo b h; have:=qf RD.out; omega
           ·have:=qf R3.out; omega⟩
          have P4:=qd (P3.out.keep b4);have F4:=qd (qu F3.out (za b4));clear b4 n4 d4 o4;refine hK.out _ _ trivial (fun hHeld=>?_)
          clear hK K
          try simp only [Act.put,qq]
          refine qU (i:=4) (by kernel_rfl) rfl (fun K hK=>?_)
          refine jn (by rfl) 34 _ _ rfl w.heap.size #[c0',c1',c2',c3',c4',c5',c6'] rfl rfl 34 _ R4.out (by kernel_rfl) rfl (qL N4.out) ?_
          refine hK.out _ _ trivial (fun hHeld=>?_)
          clear hK K
          try simp only [Act.put,qq]
          refine tq (i:=5) ?_
          try simp only [Act.put,qq]
          refine wpAnyH_done (by kernel_rfl) ?_ _
          clear hHeld;obtain ⟨W5,hW5⟩:∃ X,w4.setRow w.heap.size #[c0',c1',c2',c3',c4',c5',c6']=X:=⟨_,rfl⟩;have fb:Fr [w.heap.size] w4 W5:=hW5▸qG _ _ _;have K5:Hid (Ss w W5 P g c ts s1 (sendN n (.mk mk mt mnum mpl mnms mpls mkids))):=qd ⟨F4.out.trans fb (fun b hb=>Or.inr (by simp at hb; omega)),P4.out.other fb (by have:=HPl.out; simp; omega) (by have:=HGl.out; simp; omega),HQ1.out,_,_,_,_,_,_,_,_,hW5▸setRow_heap _ _ _ _ 34 (0,0) R4.out,N4.out.fr fb (fun b hb=>by have:=A4.out.lo b hb; simp; omega),A4.out⟩
          rw [hW5]
          go_wp2_with fail
          go_roundw
          case rel=>exact ⟨f,_,true,s1,by omega,rfl,HR1,K5⟩
          case measure =>
           have m1:=K5.out.pr.posW;have m2:=HM.out;have:=HP1.out;have:=HQ1.out.lt;omega
      ·rw [if_neg hk] at hrk1
       have HRk:=qd hrk1;have kk:((qy (hdT ts s):Int) == rank)=false:=beq_eq_false_iff_ne.2 (by omega)
       clear hok hy hk hrk hss hrk1;generalize qy (hdT ts s)=R at *;generalize hdT ts s=y at *;obtain ⟨⟨tk,tt,tn⟩,tp⟩:=y;dsimp only at *
       go_wp2_with (first
        | (go_at_call 54; refine (HA.out _ K2.out.pr).mono ?_; rintro e wy ⟨rfl,by1⟩; have KY:=qd (K2.out.bl by1); clear by1)
        | (go_at_call 79; refine (HR.out _).mono ?_; rintro e wz ⟨rfl,bz1⟩; have K3:=qd (KY.out.bl bz1); clear bz1))
       go_roundw
       case rel=>exact ⟨f,rank+1,n,sent,s,by omega,by omega,by omega,by go_num,rfl,HRk,K3⟩
       case measure=>simp [intOf]; omega
end Go.Proofs.YtfhkhmgodkheaaaGreatDoor
namespace Go.Proofs.YtfhkhmgodkheaaaGreatDoor
open Go.RowKit Go.Maps Go.WideMaps
theorem clone_ok (a:Addr) (m c:Nat) (ys:List Value) (w:World) (hl:ys.length=m * 7) (hc:∀ j u,ys[j]?=some u→w.cell? (a.add j)=some u) (ha:0 < m→a.block < w.heap.size) (hx:∀ u∈ys,u.oneCell'=true) (hm:m≤100000) :
  Calls Tryz.prog 165 #[.slice (some a) m c] w fun e w'=>Bl w w'∧∃ v ft,e=.returned v∧RowM w' 34 7 v m ys ft∧∀ b∈ft,w.heap.size≤b:=by
 have q25:∀ (w:World) (a:Option Addr) (n c n' c':Nat),(binOp .eql 25 (.slice a n c) (.slice none n' c')).run Tryz.prog w=.ok (.bool a.isNone) w:=fun w a n c n' c'=>Lib.run_eql_slice_nil w _ _ a n c n' c' Tryz.underlying25
 obtain ⟨W1,hW1⟩:∃ X,w.alloc (.cells #[] 34)=X:=⟨_,rfl⟩
 have b1:Bl w W1:=hW1▸Bl.alloc _ _
 have r1:W1.heap[w.heap.size]?=some (.cells #[] 34 (0,0)):=hW1▸heap_alloc_new w _
 have hc1:∀ j u,ys[j]?=some u→W1.cell? (a.add j)=some u:=fun j u hj=>by
  have h0:0 < m:=by
   rcases Nat.eq_zero_or_pos m with h0 | h0
   ·subst h0; rw [List.length_eq_zero_iff.1 (show ys.length=0 by omega)] at hj; simp at hj
   ·exact h0
  rw [← hc j u hj];exact World.cell?_of_block (w:=w) (a:=a.add j) (by rw [add_blk]; exact b1.block _ (ha h0))
 have key:∃ v W2 ft,(Builtin.append_ #[25,25] 25 #[.slice (some ⟨w.heap.size,0,none⟩) 0 0,.slice (some a) m c]).run Tryz.prog W1=.ok v W2∧Bl w W2∧RowM W2 34 7 v m ys ft∧∀ b∈ft,w.heap.size≤b:=by
  by_cases h0:m=0
  ·subst h0
   have hy:ys=[]:=List.length_eq_zero_iff.1 (by omega)
   subst hy;obtain ⟨i,hi,hz,hsize,hby⟩:=info_parts infoN;have hr:=run_append_room (P:=Tryz.prog) W1 25 25 34 i Tryz.underlying25 hi w.heap.size 0 0 #[] r1 a 0 c [] (by simp) (by simp) (by simp) (by decide) (by simp)
   exact ⟨_,_,[],hr,((Fr.ofBl b1 []).trans (qG _ _ _) (by simp)).bl (by simp),Or.inl ⟨rfl,rfl,rfl,_,rfl⟩,by simp⟩
  ·have ho:W1.ownsRow w.heap.size 34 7 (.slice (some ⟨w.heap.size,0,none⟩) 0 0) 0 []:=⟨rfl,Or.inr ⟨_,0,#[],rfl,Nat.le_refl _,r1,Nat.le_refl _,by decide,rfl,rfl⟩⟩
   obtain ⟨v,W2,hr,o2,f2⟩:=appN W1 w.heap.size (some ⟨w.heap.size,0,none⟩) 0 0 m [] ys _ ho (Or.inr ⟨a,c,rfl,hl,hc1⟩) hx (by omega) b1.size
   rw [Nat.zero_add,List.nil_append] at o2;obtain ⟨gk,hg,rk⟩:=RowM.own o2 (by omega)
   exact ⟨v,W2,[gk],hr,((Fr.ofBl b1 []).trans f2 (by simp [blk])).bl (by simp),rk,by simp; exact (qB o2 gk hg).1⟩
 obtain ⟨v,W2,ft,hr,b2,rm,hn⟩:=key
 have HR:=qd hr
 have HE:Hid (Bl w W2∧∃ v' ft,Ending.returned v=.returned v'∧RowM W2 34 7 v' m ys ft∧∀ b∈ft,w.heap.size≤b):=qd ⟨b2,v,ft,rfl,rm,hn⟩
 clear hr b2 rm hn hc1 hc ha hl hx b1 r1
 go_enter Tryz.func165,Tryz.ntmps165
 go_wp2_with (at_builtin; refine Lib.wpList_append_run _ rfl (.tmp 5) (.tmp 6) 25 25 rfl _ _ rfl rfl _ _ HR.out ?_)
 go_ret
 exact HE.out
end Go.Proofs.YtfhkhmgodkheaaaGreatDoor
