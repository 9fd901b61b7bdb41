import Derived.Test.YtfhkhmgodkheaaaGreatDoorQCG19PMth
set_option linter.unusedSimpArgs false
set_option linter.unusedVariables false
set_option maxRecDepth 1000000
set_option maxHeartbeats 16000000
namespace Go.Proofs.YtfhkhmgodkheaaaGreatDoor
open Go.RowKit Go.Maps
theorem block_ok (ts:Ts) (f:Nat) (hB:∀ P g c s w r,Pr w P g c ts s→Okq ts s→zg ts f 11 s=some r→Calls Tryz.prog 60 #[.pointer (some ⟨P,0,none⟩),.int .i64 (11:Nat)] w (PostB P g c ts w r)):∀ P g c s w r,Pr w P g c ts s→Okq ts s→(hdT ts s).1.kind=10→zO ts (f+1) s=some r→Calls Tryz.prog 177 #[.pointer (some ⟨P,0,none⟩)] w (PostN P g c ts w r):=by
 intro P g c s w r h hok hk hr
 have hbp:P≠w.heap.size:=by have:=h.lt; omega
 obtain ⟨wa,hWa⟩:∃ W,w.alloc (.cells #[.pointer (some ⟨P,0,none⟩)] 62)=W:=⟨_,rfl⟩
 have b0:Bl w wa:=hWa▸Bl.alloc _ _
 have HB0:Hid (Box wa w.heap.size (.pointer (some ⟨P,0,none⟩)) 62):=qd (hWa▸heap_alloc_new w _)
 have hb0:=(HB0.out.bl (Bl.alloc wa (.cells #[.int .i64 0,.string ⟨#[]⟩,.int .i64 0,.int .i64 0,.slice none 0 0,.slice none 0 0,.slice none 0 0] 34))).cell
 have hq:=hok.take (by rw [hk]; decide)
 have S0:=qd (Sw.start (h.keep b0) hok)
 have HT:=qd (fun V p=>zY P g c ts s V p hok.ok hok.lt)
 unfold tkv at HT
 have hBd0:=qd hB
 refine Calls.mono (R:=PostN P g c ts wa r) ?_ (fun e w' q=>PostN.back b0 q)
 unfold zO at hr
 cases el:qY ts 0 (fun s=>qN ts 13 s) (fun _ s=>some (qS ts 1 s)) f [] (qj ts s) with
 | none=>rw [el] at hr; cases hr
 | some rl =>
  rw [el] at hr;have hone:∀ (acc:Ts) (s:Ps),Okq ts s→(qN ts 13 s).1=true→Pg ts s ((fun (_:Ts) s=>some (qS ts 1 s)) acc (qN ts 13 s).2):=fun acc s hs _ a s' e=>by
   obtain ⟨q1,q2⟩:=Pg.need (hs.skip (k:=13) (by decide)) (k:=1) (by decide) a s' e
   exact ⟨Nat.lt_of_le_of_lt (zD ts 13 s) q1,q2⟩
  have HL:=qd (fun V (p:Pr V P g c ts (qj ts s)) (b:Box V w.heap.size (.pointer (some ⟨P,0,none⟩)) 62)=>listT_ok (fun x:Tok × Nat=>x) P [g,w.heap.size] ts 0 (fun s=>qN ts 13 s) (fun _ s=>some (qS ts 1 s)) (by decide) (fun s hs=>⟨zD ts 13 s,hs.skip (by decide)⟩) hone (I1 P g c ts w.heap.size) I1.ok 187 188 #[] #[.pointer (some ⟨w.heap.size,0,none⟩)] #[] #[.pointer (some ⟨w.heap.size,0,none⟩)] (ent 187 _ _ Tryz.func187 (by kernel_rfl) rfl) (ent 188 _ _ Tryz.func188 (by kernel_rfl) rfl)
   (fun W F acc s i=>by rw [show (#[]:Array Value)++#[.pointer (some ⟨w.heap.size,0,none⟩)]=#[.pointer (some ⟨w.heap.size,0,none⟩)] by simp]; exact clo187_ok hbp W F acc s i)
   (fun W F acc s r i _ _ _ e=>by
    rw [show (#[]:Array Value)++#[.pointer (some ⟨w.heap.size,0,none⟩)]=#[.pointer (some ⟨w.heap.size,0,none⟩)] by simp]
    injection e with e
    refine (clo188_ok P g c ts w.heap.size (qN ts 13 s).2 W i.1 i.2.1 i.2.2.2).mono (fun e' w' q=>?_)
    have hpg:=Pg.need i.2.1 (k:=1) (by decide)
    rw [e] at q hpg;refine ⟨by rw [i.2.2.1]; exact q.1,?_⟩
    have q2:=q.2
    cases r with
    | bad x=>exact q2
    | ok a s'=>exact ⟨F,q2.1,i.go q.1 hbp q2.2 (hpg a s' rfl).2,fun b hb=>Or.inl hb⟩)
   (fun W F acc s i=>I1.skip hbp 0 (by decide) W F acc s i) f (qj ts s) V [P] ⟨p,hq,rfl,b⟩ rl el)
  cases rl with
  | bad x =>
   injection hr with hr
   subst hr;clear h hok hk hq b0 el hB hone hBd0;generalize qj ts s=st at *;generalize hdT ts s=y at *;obtain ⟨⟨tk,tt,tn⟩,tp⟩:=y;dsimp only at *
   go_enter Tryz.func177,Tryz.ntmps177
   have hfd:=fun W=>js (.int .i64 tk) (.string (ba tt)) (.int .i64 tn) (.int .i64 tp) W
   go_wp2_with (first
    | (go_at_call 80; refine (HT.out _ S0.out.pr).mono ?_; rintro e w1 ⟨rfl,p1,f1⟩; have S1:=qd (S0.out.go f1 p1); have B1:Hid (Box w1 w.heap.size (.pointer (some ⟨P,0,none⟩)) 62):=qd ((HB0.out.bl (Bl.alloc _ _)).fr f1 (by simpa using fun e=>hbp e.symm)); have b1:=B1.out.cell; clear p1 f1)
    | (go_at_call 86; refine (HL.out _ S1.out.pr B1.out).mono ?_; rintro e w2 ⟨f2,rfl⟩; have F2:=qd (qu S1.out.fr f2); clear f2))
   exact ⟨rfl,zl F2.out⟩
  | ok ps s1 =>
   obtain ⟨pp1,pp2⟩:=params_pg f hq;have hq1:=(pp1 ps s1 el).2;have hp8:=toks_getD (pp2 ps s1 el) 8;have HPs:Hid (ps.length≤4097):=qd (by
    have h1:=zX (there:=fun s=>qN ts 13 s) (one:=fun (_:Ts) s=>some (qS ts 1 s)) (btw:=0) (by decide) (fun s hs=>⟨zD ts 13 s,hs.skip (by decide)⟩) hone f [] _ ps s1 hq (Nat.zero_le _) el
    have:=hq1.lt; have:=hq1.len;omega)
   have HPl:Hid (s1.place≤8192):=qd (by have:=hq1.ok.place; omega)
   have hr3:(match (if 0 < ps.length∧qi ts 11 (if 8 < ps.length then qR 73 (ps.getD 8 zj).2 s1 else s1)=false then qS ts 12 (if 8 < ps.length then qR 73 (ps.getD 8 zj).2 s1 else s1) else .ok zj (if 8 < ps.length then qR 73 (ps.getD 8 zj).2 s1 else s1)) with
    | .bad x=>some (.bad x)
    | .ok _ s3=>qF (qv ts f s3) fun tm s4=>qF (zg ts f 11 s4) fun l s5 =>
     some (.ok (Nd.mk 12 [] ps.length (hdT ts s).2 ((ps++tm).map (·.1.text)) ((ps++tm).map (·.2)) l) s5))=some r:=hr
   clear h hok hk hq b0 el hB hone hr pp1 pp2;generalize qj ts s=st at *;generalize hdT ts s=y at *;obtain ⟨⟨tk,tt,tn⟩,tp⟩:=y;dsimp only at *
   by_cases h8:8 < ps.length
   ·rw [if_pos h8] at hr3
    obtain ⟨p8,hp8e⟩:∃ p,(ps.getD 8 zj).2=p:=⟨_,rfl⟩;have HP8:=qd hp8e;rw [hp8e] at hr3 hp8;clear hp8e;have hq2:=hq1.pass (c:=73) hp8;have HK:=qd (fun V p=>je P g c ts (qR 73 p8 s1) 11 V p hq2.ok hq2.lt)
    have HD0:=qd (fun V p=>need_ok P g c ts (qR 73 p8 s1) 12 V p hq2.ok hq2.lt)
    have k8:(8:Int) < ps.length:=by omega
    have hr4:=hr3;clear hr3 hq1;have k0:(0:Int) < ps.length:=by omega
    cases hst:qi ts 11 (qR 73 p8 s1) with
    | true =>
     rw [hst] at HK;rw [if_neg (by rintro ⟨_,h⟩; rw [hst] at h; cases h)] at hr4
     have hr5:(qF (qv ts f (qR 73 p8 s1)) fun tm s4=>qF (zg ts f 11 s4) fun l s5=>some (.ok (Nd.mk 12 [] ps.length tp ((ps++tm).map (·.1.text)) ((ps++tm).map (·.2)) l) s5))=some r:=hr4
     have hq5:=hq2;clear HD0 hst
     go_enter Tryz.func177,Tryz.ntmps177
     have hfd:=fun W=>js (.int .i64 tk) (.string (ba tt)) (.int .i64 tn) (.int .i64 tp) W
     go_wp2_with (first
      | (go_at_call 80; refine (HT.out _ S0.out.pr).mono ?_; rintro e w1 ⟨rfl,p1,f1⟩; have S1:=qd (S0.out.go f1 p1); have B1:Hid (Box w1 w.heap.size (.pointer (some ⟨P,0,none⟩)) 62):=qd ((HB0.out.bl (Bl.alloc _ _)).fr f1 (by simpa using fun e=>hbp e.symm)); have b1:=B1.out.cell; clear p1 f1)
      | (
       go_at_call 86; refine (HL.out _ S1.out.pr B1.out).mono ?_; rintro e w2 ⟨f2,v,F',rfl,l2⟩
       have S2:=qd (S1.out.go f2 l2.inv.1);have B2:=qd l2.inv.2.2.2;have b2:=B2.out.cell;obtain ⟨z2,d2⟩:=l2.ex;rw [List.map_id'] at z2;obtain ⟨pv,cv,rfl⟩:=qz z2.1;have Z2:Hid (RowZ w2 54 4 (wa.heap.size+1) (.slice pv ps.length cv) ps.length (tcs ps)):=qd ⟨zM z2.1 S1.out.size,z2.2⟩;clear f2 l2 z2 d2))
     obtain ⟨gk,egk,hg1,hg2,hg3,hg4⟩:=row_at Z2.out.1 (by omega)
     subst egk;have hcell:=hg4 35 (.int .i64 (ps.getD 8 zj).2) (by
      have h9:=tcs_get ps 8 3 (by omega) (by decide)
      rw [show 8 * 4+3=35 by rfl] at h9
      rw [h9]; rfl)
     rw [HP8.out] at hcell;have S3':=qd S2.out.drew;have B3':Hid (Box w2.drew w.heap.size (.pointer (some ⟨P,0,none⟩)) 62):=qd B2.out;have C3':Hid (w2.drew.cell? ⟨gk,35,none⟩=some (.int .i64 p8)):=qd hcell;have Z3':Hid (RowZ w2.drew 54 4 (wa.heap.size+1) (.slice (some ⟨gk,0,none⟩) ps.length cv) ps.length (tcs ps)):=qd Z2.out;have hgc:(8:Int) < cv:=by omega
     have hne:gk≠P:=by have:=S1.out.lp; have:=S1.out.size; omega
     clear hcell hg4;refine wp_region_held_drew (S:=fun V=>V.cell? ⟨w.heap.size,0,none⟩=some (.pointer (some ⟨P,0,none⟩))∧V.cell? ⟨gk,35,none⟩=some (.int .i64 p8)) (by kernel_rfl) (⟨B3'.out.cell,C3'.out⟩) (fun hHeld=>?_)
     refine tq (i:=0) ?_
     try simp only [Act.put,qq]
     refine tq (i:=1) ?_
     try simp only [Act.put,qq]
     refine wpAnyH_take (i:=2) (v:=.pointer (some ⟨gk,32,none⟩)) rfl (by kernel_rfl) (by kernel_rfl) (by kernel_rfl) (fun _ _ _ h=>h) (Or.inl ⟨by rfl,?_⟩) (by assumption) ?_
     ·(intro w hSw; obtain ⟨hS1,hS2⟩:=hSw; go_simp; all_goals omega)
     try simp only [Act.put,qq]
     refine tq (i:=3) ?_
     try simp only [Act.put,qq]
     refine tq (i:=4) ?_
     try simp only [Act.put,qq]
     refine qU (i:=5) (by kernel_rfl) rfl (fun K hK=>?_)
     refine qO (by rfl) 116 Tryz.f116 Tryz.func116 (by kernel_rfl) (by kernel_rfl) _ _ rfl _ (by first | (simp [Act.eval]; done) | (simp [Act.eval]; rfl)) _ (pass_ok P g c ts s1 73 _ _ S3'.out.pr HPl.out) ?_
     rintro _ w3 ⟨rfl,p3,f3⟩;have S3:=qd (S3'.out.go f3 p3);have B3:=qd (B3'.out.fr f3 (by simpa using fun e=>hbp e.symm))
     have C3:Hid (w3.cell? ⟨gk,35,none⟩=some (.int .i64 p8)):=qd ((World.cell?_of_block (w:=w2.drew) (f3.block gk hg2 (by simpa using hne))).trans C3'.out)
     have Z3:Hid (RowZ w3 54 4 (wa.heap.size+1) (.slice (some ⟨gk,0,none⟩) ps.length cv) ps.length (tcs ps)):=qd ⟨qC Z3'.out.1 (fun k hk=>f3.block k (qB Z3'.out.1 k hk).2 (by have:=(qB Z3'.out.1 k hk).1; have:=S1.out.lp; simp; omega)),Z3'.out.2⟩
     clear p3 f3;refine hK.out _ _ (⟨B3.out.cell,C3.out⟩) (fun hHeld=>?_)
     clear hK K
     try simp only [Act.put,qq]
     refine wpAnyH_done (by kernel_rfl) ?_ _
     clear hHeld;have b3:=B3.out.cell
     go_upto_region 7 with (first
      | (
       go_at_call 83; refine (HK.out _ S3.out.pr).mono ?_; rintro e w4 ⟨rfl,b4'⟩
       have S4:=qd (S3.out.bl b4');have B4:=qd (B3.out.bl b4');have b4:=B4.out.cell;have Z4:Hid (RowZ w4 54 4 (wa.heap.size+1) (.slice (some ⟨gk,0,none⟩) ps.length cv) ps.length (tcs ps)):=qd ⟨qC Z3.out.1 (fun k hk=>b4'.block k (qB Z3.out.1 k hk).2),Z3.out.2⟩
       clear b4'))
     have S5:=S4;have B5:=B4;have Z5:=Z4
     cases e1:qv ts f (qR 73 p8 s1) with
     | none=>rw [e1] at hr5; cases hr5
     | some r1 =>
      rw [e1] at hr5;have HTm:=qd (fun V p=>jm ts f P g c (qR 73 p8 s1) V r1 p hq5 e1)
      have b5:=B5.out.cell
      cases r1 with
      | bad x =>
       injection hr5 with hr5
       subst hr5;clear e1 hq5 hBd0
       go_wp2_with (go_at_call 59; refine (HTm.out _ S5.out.pr).mono ?_; rintro e w6 ⟨f6,rfl⟩; have F6:=qd (qu S5.out.fr f6); clear f6)
       exact ⟨rfl,zl F6.out⟩
      | ok tm s4 =>
       have hq6:=(qZ f hq5 tm s4 e1).2;have HTl:=qd (temps_len hq5 e1);obtain ⟨nn,hnn⟩:∃ nn,(ps++tm).length=nn:=⟨_,rfl⟩;have HNN:=qd hnn;clear hnn;have hr6:(qF (zg ts f 11 s4) fun l s5=>some (.ok (Nd.mk 12 [] ps.length tp ((ps++tm).map (·.1.text)) ((ps++tm).map (·.2)) l) s5))=some r:=hr5
       cases e2:zg ts f 11 s4 with
       | none=>rw [e2] at hr6; cases hr6
       | some r2 =>
        rw [e2] at hr6;have HBd:=qd (fun V p=>hBd0.out P g c s4 V r2 p hq6 e2)
        cases r2 with
        | bad x =>
         injection hr6 with hr6
         subst hr6;clear e1 hq5 hBd0 e2 hq6 hr5
         go_wp2_with (first
          | (
           go_at_call 59; refine (HTm.out _ S5.out.pr).mono ?_; rintro e w6 ⟨f6,vt,rfl,z6,p6⟩
           have S6:=qd (S5.out.go f6 p6);have B6:=qd (B5.out.fr f6 (by simpa using fun e=>hbp e.symm))
           have b6:=B6.out.cell;have V6:w6.ownsRow (wa.heap.size+1) 54 4 (.slice (some ⟨gk,0,none⟩) ps.length cv) ps.length (tcs ps):=qC Z5.out.1 (fun k hk=>f6.block k (qB Z5.out.1 k hk).2 (by have:=(qB Z5.out.1 k hk).1; have:=S5.out.lp; simp; omega))
           have HTo:=qd (told_n (.slice (some ⟨gk,0,none⟩) ps.length cv) vt ps tm nn w6 (RdT.own V6) (RdT.own z6.1) (fun h=>Z5.out.2 h) z6.2 HPs.out HTl.out HNN.out)
           clear f6 z6 p6 V6)
          | (
           go_at_call 58; refine HTo.out.mono ?_; rintro e w7 ⟨b7',vn,vp,rfl,n7,q7⟩
           obtain ⟨pn,cn,rfl⟩:=qz n7.1;obtain ⟨pq,cq,rfl⟩:=qz q7.1;have S7:=qd (S6.out.bl b7');have N7:=qd n7;have Q7:=qd q7;have B7:=qd (B6.out.bl b7');have b7:=B7.out.cell;have L7:=qd b7'.size;clear b7' n7 q7)
          | (go_at_call 60; refine (HBd.out _ S7.out.pr).mono ?_; rintro e w8 ⟨f8,rfl⟩; have F8:=qd (qu S7.out.fr f8); clear f8))
         exact ⟨rfl,zl F8.out⟩
        | ok l s5 =>
         injection hr6 with hr6
         subst hr6;clear e1 hq5 hBd0 e2 hq6 hr5
         go_wp2_with (first
          | (
           go_at_call 59; refine (HTm.out _ S5.out.pr).mono ?_; rintro e w6 ⟨f6,vt,rfl,z6,p6⟩
           have S6:=qd (S5.out.go f6 p6);have B6:=qd (B5.out.fr f6 (by simpa using fun e=>hbp e.symm))
           have b6:=B6.out.cell;have V6:w6.ownsRow (wa.heap.size+1) 54 4 (.slice (some ⟨gk,0,none⟩) ps.length cv) ps.length (tcs ps):=qC Z5.out.1 (fun k hk=>f6.block k (qB Z5.out.1 k hk).2 (by have:=(qB Z5.out.1 k hk).1; have:=S5.out.lp; simp; omega))
           have HTo:=qd (told_n (.slice (some ⟨gk,0,none⟩) ps.length cv) vt ps tm nn w6 (RdT.own V6) (RdT.own z6.1) (fun h=>Z5.out.2 h) z6.2 HPs.out HTl.out HNN.out)
           clear f6 z6 p6 V6)
          | (
           go_at_call 58; refine HTo.out.mono ?_; rintro e w7 ⟨b7',vn,vp,rfl,n7,q7⟩
           obtain ⟨pn,cn,rfl⟩:=qz n7.1;obtain ⟨pq,cq,rfl⟩:=qz q7.1;have S7:=qd (S6.out.bl b7');have N7:=qd n7;have Q7:=qd q7;have B7:=qd (B6.out.bl b7');have b7:=B7.out.cell;have L7:=qd b7'.size;clear b7' n7 q7)
          | (
           go_at_call 60; refine (HBd.out _ S7.out.pr).mono ?_; rintro e w8 ⟨f8,vb,xs,fl,rfl,z8,k8,a8,p8'⟩
           obtain ⟨pb,cb,rfl⟩:=qz z8.1;have S8:=qd (S7.out.go f8 p8');obtain ⟨m1,m2,m3,m4,m5⟩:=npb N7.out Q7.out z8 k8 a8 f8 (by have:=S6.out.pr.lt; exact this) L7.out
           have N8:Hid (NdM w8 (.mk 12 [] ps.length tp ((ps++tm).map (·.1.text)) ((ps++tm).map (·.2)) l) (.agg #[.int .i64 12,.string ⟨#[]⟩,.int .i64 ps.length,.int .i64 tp,.slice pn nn cn,.slice pq nn cq,.slice pb l.length cb]) _):=qd (NdM.mk (k:=12) (t:=[]) (n:=(ps.length:Int)) (a:=tp) (by rw [List.length_map,HNN.out,List.map_map]; exact m1) (by rw [List.length_map,HNN.out,List.map_map]; exact m2) m3 m4)
           have A8:=qd (m5.mono S6.out.size);clear f8 z8 k8 a8 p8' m1 m2 m3 m4 m5)
          | (refine wpList_store_row rfl 34 _ _ rfl wa.heap.size #[.int .i64 12,.string ⟨#[]⟩,.int .i64 ps.length,.int .i64 tp,.slice pn nn cn,.slice pq nn cq,.slice pb l.length cb] rfl rfl 34 _ S8.out.res (by kernel_rfl) rfl (qL N8.out) ?_))
         exact S8.out.endN Tryz.results177 rfl N8.out A8.out
    | false =>
     rw [hst] at HK;rw [if_pos ⟨by omega,hst⟩] at hr4
     have HD:=HD0
     cases en:qS ts 12 (qR 73 p8 s1) with
     | bad y =>
      rw [en] at hr4 HD;injection hr4 with hr4
      subst hr4;clear hst en
      go_enter Tryz.func177,Tryz.ntmps177
      have hfd:=fun W=>js (.int .i64 tk) (.string (ba tt)) (.int .i64 tn) (.int .i64 tp) W
      go_wp2_with (first
       | (go_at_call 80; refine (HT.out _ S0.out.pr).mono ?_; rintro e w1 ⟨rfl,p1,f1⟩; have S1:=qd (S0.out.go f1 p1); have B1:Hid (Box w1 w.heap.size (.pointer (some ⟨P,0,none⟩)) 62):=qd ((HB0.out.bl (Bl.alloc _ _)).fr f1 (by simpa using fun e=>hbp e.symm)); have b1:=B1.out.cell; clear p1 f1)
       | (
        go_at_call 86; refine (HL.out _ S1.out.pr B1.out).mono ?_; rintro e w2 ⟨f2,v,F',rfl,l2⟩
        have S2:=qd (S1.out.go f2 l2.inv.1);have B2:=qd l2.inv.2.2.2;have b2:=B2.out.cell;obtain ⟨z2,d2⟩:=l2.ex;rw [List.map_id'] at z2;obtain ⟨pv,cv,rfl⟩:=qz z2.1;have Z2:Hid (RowZ w2 54 4 (wa.heap.size+1) (.slice pv ps.length cv) ps.length (tcs ps)):=qd ⟨zM z2.1 S1.out.size,z2.2⟩;clear f2 l2 z2 d2))
      obtain ⟨gk,egk,hg1,hg2,hg3,hg4⟩:=row_at Z2.out.1 (by omega)
      subst egk;have hcell:=hg4 35 (.int .i64 (ps.getD 8 zj).2) (by
       have h9:=tcs_get ps 8 3 (by omega) (by decide)
       rw [show 8 * 4+3=35 by rfl] at h9
       rw [h9]; rfl)
      rw [HP8.out] at hcell;have S3':=qd S2.out.drew;have B3':Hid (Box w2.drew w.heap.size (.pointer (some ⟨P,0,none⟩)) 62):=qd B2.out;have C3':Hid (w2.drew.cell? ⟨gk,35,none⟩=some (.int .i64 p8)):=qd hcell;have Z3':Hid (RowZ w2.drew 54 4 (wa.heap.size+1) (.slice (some ⟨gk,0,none⟩) ps.length cv) ps.length (tcs ps)):=qd Z2.out;have hgc:(8:Int) < cv:=by omega
      have hne:gk≠P:=by have:=S1.out.lp; have:=S1.out.size; omega
      clear hcell hg4;refine wp_region_held_drew (S:=fun V=>V.cell? ⟨w.heap.size,0,none⟩=some (.pointer (some ⟨P,0,none⟩))∧V.cell? ⟨gk,35,none⟩=some (.int .i64 p8)) (by kernel_rfl) (⟨B3'.out.cell,C3'.out⟩) (fun hHeld=>?_)
      refine tq (i:=0) ?_
      try simp only [Act.put,qq]
      refine tq (i:=1) ?_
      try simp only [Act.put,qq]
      refine wpAnyH_take (i:=2) (v:=.pointer (some ⟨gk,32,none⟩)) rfl (by kernel_rfl) (by kernel_rfl) (by kernel_rfl) (fun _ _ _ h=>h) (Or.inl ⟨by rfl,?_⟩) (by assumption) ?_
      ·(intro w hSw; obtain ⟨hS1,hS2⟩:=hSw; go_simp; all_goals omega)
      try simp only [Act.put,qq]
      refine tq (i:=3) ?_
      try simp only [Act.put,qq]
      refine tq (i:=4) ?_
      try simp only [Act.put,qq]
      refine qU (i:=5) (by kernel_rfl) rfl (fun K hK=>?_)
      refine qO (by rfl) 116 Tryz.f116 Tryz.func116 (by kernel_rfl) (by kernel_rfl) _ _ rfl _ (by first | (simp [Act.eval]; done) | (simp [Act.eval]; rfl)) _ (pass_ok P g c ts s1 73 _ _ S3'.out.pr HPl.out) ?_
      rintro _ w3 ⟨rfl,p3,f3⟩;have S3:=qd (S3'.out.go f3 p3);have B3:=qd (B3'.out.fr f3 (by simpa using fun e=>hbp e.symm))
      have C3:Hid (w3.cell? ⟨gk,35,none⟩=some (.int .i64 p8)):=qd ((World.cell?_of_block (w:=w2.drew) (f3.block gk hg2 (by simpa using hne))).trans C3'.out)
      have Z3:Hid (RowZ w3 54 4 (wa.heap.size+1) (.slice (some ⟨gk,0,none⟩) ps.length cv) ps.length (tcs ps)):=qd ⟨qC Z3'.out.1 (fun k hk=>f3.block k (qB Z3'.out.1 k hk).2 (by have:=(qB Z3'.out.1 k hk).1; have:=S1.out.lp; simp; omega)),Z3'.out.2⟩
      clear p3 f3;refine hK.out _ _ (⟨B3.out.cell,C3.out⟩) (fun hHeld=>?_)
      clear hK K
      try simp only [Act.put,qq]
      refine wpAnyH_done (by kernel_rfl) ?_ _
      clear hHeld;have b3:=B3.out.cell
      go_wp2_with (first
       | (
        go_at_call 83; refine (HK.out _ S3.out.pr).mono ?_; rintro e w4 ⟨rfl,b4'⟩
        have S4:=qd (S3.out.bl b4');have B4:=qd (B3.out.bl b4');have b4:=B4.out.cell;have Z4:Hid (RowZ w4 54 4 (wa.heap.size+1) (.slice (some ⟨gk,0,none⟩) ps.length cv) ps.length (tcs ps)):=qd ⟨qC Z3.out.1 (fun k hk=>b4'.block k (qB Z3.out.1 k hk).2),Z3.out.2⟩
        clear b4')
       | (go_at_call 57; refine (HD.out _ S4.out.pr).mono ?_; rintro e w5 ⟨f5,rfl⟩; have F5:=qd (qu S4.out.fr f5); clear f5))
      exact ⟨rfl,zl F5.out⟩
     | ok y s3 =>
      have hq5:=(Pg.need hq2 (k:=12) (by decide) y s3 (by rw [en])).2
      rw [en] at hr4 HD;have hr5:(qF (qv ts f s3) fun tm s4=>qF (zg ts f 11 s4) fun l s5=>some (.ok (Nd.mk 12 [] ps.length tp ((ps++tm).map (·.1.text)) ((ps++tm).map (·.2)) l) s5))=some r:=hr4
      clear hst en
      go_enter Tryz.func177,Tryz.ntmps177
      have hfd:=fun W=>js (.int .i64 tk) (.string (ba tt)) (.int .i64 tn) (.int .i64 tp) W
      go_wp2_with (first
       | (go_at_call 80; refine (HT.out _ S0.out.pr).mono ?_; rintro e w1 ⟨rfl,p1,f1⟩; have S1:=qd (S0.out.go f1 p1); have B1:Hid (Box w1 w.heap.size (.pointer (some ⟨P,0,none⟩)) 62):=qd ((HB0.out.bl (Bl.alloc _ _)).fr f1 (by simpa using fun e=>hbp e.symm)); have b1:=B1.out.cell; clear p1 f1)
       | (
        go_at_call 86; refine (HL.out _ S1.out.pr B1.out).mono ?_; rintro e w2 ⟨f2,v,F',rfl,l2⟩
        have S2:=qd (S1.out.go f2 l2.inv.1);have B2:=qd l2.inv.2.2.2;have b2:=B2.out.cell;obtain ⟨z2,d2⟩:=l2.ex;rw [List.map_id'] at z2;obtain ⟨pv,cv,rfl⟩:=qz z2.1;have Z2:Hid (RowZ w2 54 4 (wa.heap.size+1) (.slice pv ps.length cv) ps.length (tcs ps)):=qd ⟨zM z2.1 S1.out.size,z2.2⟩;clear f2 l2 z2 d2))
      obtain ⟨gk,egk,hg1,hg2,hg3,hg4⟩:=row_at Z2.out.1 (by omega)
      subst egk;have hcell:=hg4 35 (.int .i64 (ps.getD 8 zj).2) (by
       have h9:=tcs_get ps 8 3 (by omega) (by decide)
       rw [show 8 * 4+3=35 by rfl] at h9
       rw [h9]; rfl)
      rw [HP8.out] at hcell;have S3':=qd S2.out.drew;have B3':Hid (Box w2.drew w.heap.size (.pointer (some ⟨P,0,none⟩)) 62):=qd B2.out;have C3':Hid (w2.drew.cell? ⟨gk,35,none⟩=some (.int .i64 p8)):=qd hcell;have Z3':Hid (RowZ w2.drew 54 4 (wa.heap.size+1) (.slice (some ⟨gk,0,none⟩) ps.length cv) ps.length (tcs ps)):=qd Z2.out;have hgc:(8:Int) < cv:=by omega
      have hne:gk≠P:=by have:=S1.out.lp; have:=S1.out.size; omega
      clear hcell hg4;refine wp_region_held_drew (S:=fun V=>V.cell? ⟨w.heap.size,0,none⟩=some (.pointer (some ⟨P,0,none⟩))∧V.cell? ⟨gk,35,none⟩=some (.int .i64 p8)) (by kernel_rfl) (⟨B3'.out.cell,C3'.out⟩) (fun hHeld=>?_)
      refine tq (i:=0) ?_
      try simp only [Act.put,qq]
      refine tq (i:=1) ?_
      try simp only [Act.put,qq]
      refine wpAnyH_take (i:=2) (v:=.pointer (some ⟨gk,32,none⟩)) rfl (by kernel_rfl) (by kernel_rfl) (by kernel_rfl) (fun _ _ _ h=>h) (Or.inl ⟨by rfl,?_⟩) (by assumption) ?_
      ·(intro w hSw; obtain ⟨hS1,hS2⟩:=hSw; go_simp; all_goals omega)
      try simp only [Act.put,qq]
      refine tq (i:=3) ?_
      try simp only [Act.put,qq]
      refine tq (i:=4) ?_
      try simp only [Act.put,qq]
      refine qU (i:=5) (by kernel_rfl) rfl (fun K hK=>?_)
      refine qO (by rfl) 116 Tryz.f116 Tryz.func116 (by kernel_rfl) (by kernel_rfl) _ _ rfl _ (by first | (simp [Act.eval]; done) | (simp [Act.eval]; rfl)) _ (pass_ok P g c ts s1 73 _ _ S3'.out.pr HPl.out) ?_
      rintro _ w3 ⟨rfl,p3,f3⟩;have S3:=qd (S3'.out.go f3 p3);have B3:=qd (B3'.out.fr f3 (by simpa using fun e=>hbp e.symm))
      have C3:Hid (w3.cell? ⟨gk,35,none⟩=some (.int .i64 p8)):=qd ((World.cell?_of_block (w:=w2.drew) (f3.block gk hg2 (by simpa using hne))).trans C3'.out)
      have Z3:Hid (RowZ w3 54 4 (wa.heap.size+1) (.slice (some ⟨gk,0,none⟩) ps.length cv) ps.length (tcs ps)):=qd ⟨qC Z3'.out.1 (fun k hk=>f3.block k (qB Z3'.out.1 k hk).2 (by have:=(qB Z3'.out.1 k hk).1; have:=S1.out.lp; simp; omega)),Z3'.out.2⟩
      clear p3 f3;refine hK.out _ _ (⟨B3.out.cell,C3.out⟩) (fun hHeld=>?_)
      clear hK K
      try simp only [Act.put,qq]
      refine wpAnyH_done (by kernel_rfl) ?_ _
      clear hHeld;have b3:=B3.out.cell
      go_upto_region 7 with (first
       | (
        go_at_call 83; refine (HK.out _ S3.out.pr).mono ?_; rintro e w4 ⟨rfl,b4'⟩
        have S4:=qd (S3.out.bl b4');have B4:=qd (B3.out.bl b4');have b4:=B4.out.cell;have Z4:Hid (RowZ w4 54 4 (wa.heap.size+1) (.slice (some ⟨gk,0,none⟩) ps.length cv) ps.length (tcs ps)):=qd ⟨qC Z3.out.1 (fun k hk=>b4'.block k (qB Z3.out.1 k hk).2),Z3.out.2⟩
        clear b4')
       | (
        go_at_call 57; refine (HD.out _ S4.out.pr).mono ?_; rintro e w5 ⟨f5,rfl,p5⟩
        have S5:=qd (S4.out.go f5 p5);have B5:=qd (B4.out.fr f5 (by simpa using fun e=>hbp e.symm))
        have Z5:Hid (RowZ w5 54 4 (wa.heap.size+1) (.slice (some ⟨gk,0,none⟩) ps.length cv) ps.length (tcs ps)):=qd ⟨qC Z4.out.1 (fun k hk=>f5.block k (qB Z4.out.1 k hk).2 (by have:=(qB Z4.out.1 k hk).1; have:=S4.out.lp; simp; omega)),Z4.out.2⟩
        clear f5 p5))
      cases e1:qv ts f s3 with
      | none=>rw [e1] at hr5; cases hr5
      | some r1 =>
       rw [e1] at hr5;have HTm:=qd (fun V p=>jm ts f P g c s3 V r1 p hq5 e1)
       have b5:=B5.out.cell
       cases r1 with
       | bad x =>
        injection hr5 with hr5
        subst hr5;clear e1 hq5 hBd0
        go_wp2_with (go_at_call 59; refine (HTm.out _ S5.out.pr).mono ?_; rintro e w6 ⟨f6,rfl⟩; have F6:=qd (qu S5.out.fr f6); clear f6)
        exact ⟨rfl,zl F6.out⟩
       | ok tm s4 =>
        have hq6:=(qZ f hq5 tm s4 e1).2;have HTl:=qd (temps_len hq5 e1);obtain ⟨nn,hnn⟩:∃ nn,(ps++tm).length=nn:=⟨_,rfl⟩;have HNN:=qd hnn;clear hnn;have hr6:(qF (zg ts f 11 s4) fun l s5=>some (.ok (Nd.mk 12 [] ps.length tp ((ps++tm).map (·.1.text)) ((ps++tm).map (·.2)) l) s5))=some r:=hr5
        cases e2:zg ts f 11 s4 with
        | none=>rw [e2] at hr6; cases hr6
        | some r2 =>
         rw [e2] at hr6;have HBd:=qd (fun V p=>hBd0.out P g c s4 V r2 p hq6 e2)
         cases r2 with
         | bad x =>
          injection hr6 with hr6
          subst hr6;clear e1 hq5 hBd0 e2 hq6 hr5
          go_wp2_with (first
           | (
            go_at_call 59; refine (HTm.out _ S5.out.pr).mono ?_; rintro e w6 ⟨f6,vt,rfl,z6,p6⟩
            have S6:=qd (S5.out.go f6 p6);have B6:=qd (B5.out.fr f6 (by simpa using fun e=>hbp e.symm))
            have b6:=B6.out.cell;have V6:w6.ownsRow (wa.heap.size+1) 54 4 (.slice (some ⟨gk,0,none⟩) ps.length cv) ps.length (tcs ps):=qC Z5.out.1 (fun k hk=>f6.block k (qB Z5.out.1 k hk).2 (by have:=(qB Z5.out.1 k hk).1; have:=S5.out.lp; simp; omega))
            have HTo:=qd (told_n (.slice (some ⟨gk,0,none⟩) ps.length cv) vt ps tm nn w6 (RdT.own V6) (RdT.own z6.1) (fun h=>Z5.out.2 h) z6.2 HPs.out HTl.out HNN.out)
            clear f6 z6 p6 V6)
           | (
            go_at_call 58; refine HTo.out.mono ?_; rintro e w7 ⟨b7',vn,vp,rfl,n7,q7⟩
            obtain ⟨pn,cn,rfl⟩:=qz n7.1;obtain ⟨pq,cq,rfl⟩:=qz q7.1;have S7:=qd (S6.out.bl b7');have N7:=qd n7;have Q7:=qd q7;have B7:=qd (B6.out.bl b7');have b7:=B7.out.cell;have L7:=qd b7'.size;clear b7' n7 q7)
           | (go_at_call 60; refine (HBd.out _ S7.out.pr).mono ?_; rintro e w8 ⟨f8,rfl⟩; have F8:=qd (qu S7.out.fr f8); clear f8))
          exact ⟨rfl,zl F8.out⟩
         | ok l s5 =>
          injection hr6 with hr6
          subst hr6;clear e1 hq5 hBd0 e2 hq6 hr5
          go_wp2_with (first
           | (
            go_at_call 59; refine (HTm.out _ S5.out.pr).mono ?_; rintro e w6 ⟨f6,vt,rfl,z6,p6⟩
            have S6:=qd (S5.out.go f6 p6);have B6:=qd (B5.out.fr f6 (by simpa using fun e=>hbp e.symm))
            have b6:=B6.out.cell;have V6:w6.ownsRow (wa.heap.size+1) 54 4 (.slice (some ⟨gk,0,none⟩) ps.length cv) ps.length (tcs ps):=qC Z5.out.1 (fun k hk=>f6.block k (qB Z5.out.1 k hk).2 (by have:=(qB Z5.out.1 k hk).1; have:=S5.out.lp; simp; omega))
            have HTo:=qd (told_n (.slice (some ⟨gk,0,none⟩) ps.length cv) vt ps tm nn w6 (RdT.own V6) (RdT.own z6.1) (fun h=>Z5.out.2 h) z6.2 HPs.out HTl.out HNN.out)
            clear f6 z6 p6 V6)
           | (
            go_at_call 58; refine HTo.out.mono ?_; rintro e w7 ⟨b7',vn,vp,rfl,n7,q7⟩
            obtain ⟨pn,cn,rfl⟩:=qz n7.1;obtain ⟨pq,cq,rfl⟩:=qz q7.1;have S7:=qd (S6.out.bl b7');have N7:=qd n7;have Q7:=qd q7;have B7:=qd (B6.out.bl b7');have b7:=B7.out.cell;have L7:=qd b7'.size;clear b7' n7 q7)
           | (
            go_at_call 60; refine (HBd.out _ S7.out.pr).mono ?_; rintro e w8 ⟨f8,vb,xs,fl,rfl,z8,k8,a8,p8'⟩
            obtain ⟨pb,cb,rfl⟩:=qz z8.1;have S8:=qd (S7.out.go f8 p8');obtain ⟨m1,m2,m3,m4,m5⟩:=npb N7.out Q7.out z8 k8 a8 f8 (by have:=S6.out.pr.lt; exact this) L7.out
            have N8:Hid (NdM w8 (.mk 12 [] ps.length tp ((ps++tm).map (·.1.text)) ((ps++tm).map (·.2)) l) (.agg #[.int .i64 12,.string ⟨#[]⟩,.int .i64 ps.length,.int .i64 tp,.slice pn nn cn,.slice pq nn cq,.slice pb l.length cb]) _):=qd (NdM.mk (k:=12) (t:=[]) (n:=(ps.length:Int)) (a:=tp) (by rw [List.length_map,HNN.out,List.map_map]; exact m1) (by rw [List.length_map,HNN.out,List.map_map]; exact m2) m3 m4)
            have A8:=qd (m5.mono S6.out.size);clear f8 z8 k8 a8 p8' m1 m2 m3 m4 m5)
           | (refine wpList_store_row rfl 34 _ _ rfl wa.heap.size #[.int .i64 12,.string ⟨#[]⟩,.int .i64 ps.length,.int .i64 tp,.slice pn nn cn,.slice pq nn cq,.slice pb l.length cb] rfl rfl 34 _ S8.out.res (by kernel_rfl) rfl (qL N8.out) ?_))
          exact S8.out.endN Tryz.results177 rfl N8.out A8.out
   ·rw [if_neg h8] at hr3
    have HK:=qd (fun V p=>je P g c ts s1 11 V p hq1.ok hq1.lt)
    have HD0:=qd (fun V p=>need_ok P g c ts s1 12 V p hq1.ok hq1.lt)
    have k8:¬ (8:Int) < ps.length:=by omega
    have hr4:=hr3;clear hr3 h8
    by_cases h0:0 < ps.length
    ·have k0:(0:Int) < ps.length:=by omega
     cases hst:qi ts 11 (s1) with
     | true =>
      rw [hst] at HK;rw [if_neg (by rintro ⟨_,h⟩; rw [hst] at h; cases h)] at hr4
      have hr5:(qF (qv ts f (s1)) fun tm s4=>qF (zg ts f 11 s4) fun l s5=>some (.ok (Nd.mk 12 [] ps.length tp ((ps++tm).map (·.1.text)) ((ps++tm).map (·.2)) l) s5))=some r:=hr4
      have hq5:=hq1;clear HD0 hst
      go_enter Tryz.func177,Tryz.ntmps177
      have hfd:=fun W=>js (.int .i64 tk) (.string (ba tt)) (.int .i64 tn) (.int .i64 tp) W
      go_upto_region 7 with (first
       | (go_at_call 80; refine (HT.out _ S0.out.pr).mono ?_; rintro e w1 ⟨rfl,p1,f1⟩; have S1:=qd (S0.out.go f1 p1); have B1:Hid (Box w1 w.heap.size (.pointer (some ⟨P,0,none⟩)) 62):=qd ((HB0.out.bl (Bl.alloc _ _)).fr f1 (by simpa using fun e=>hbp e.symm)); have b1:=B1.out.cell; clear p1 f1)
       | (
        go_at_call 86; refine (HL.out _ S1.out.pr B1.out).mono ?_; rintro e w2 ⟨f2,v,F',rfl,l2⟩
        have S2:=qd (S1.out.go f2 l2.inv.1);have B2:=qd l2.inv.2.2.2;have b2:=B2.out.cell;obtain ⟨z2,d2⟩:=l2.ex;rw [List.map_id'] at z2;obtain ⟨pv,cv,rfl⟩:=qz z2.1;have Z2:Hid (RowZ w2 54 4 (wa.heap.size+1) (.slice pv ps.length cv) ps.length (tcs ps)):=qd ⟨zM z2.1 S1.out.size,z2.2⟩;clear f2 l2 z2 d2)
       | (
        go_at_call 83; refine (HK.out _ S2.out.pr).mono ?_; rintro e w4 ⟨rfl,b4'⟩
        have S4:=qd (S2.out.bl b4');have B4:=qd (B2.out.bl b4');have b4:=B4.out.cell;have Z4:Hid (RowZ w4 54 4 (wa.heap.size+1) (.slice pv ps.length cv) ps.length (tcs ps)):=qd ⟨qC Z2.out.1 (fun k hk=>b4'.block k (qB Z2.out.1 k hk).2),Z2.out.2⟩
        clear b4'))
      have S5:=S4;have B5:=B4;have Z5:=Z4
      cases e1:qv ts f (s1) with
      | none=>rw [e1] at hr5; cases hr5
      | some r1 =>
       rw [e1] at hr5;have HTm:=qd (fun V p=>jm ts f P g c (s1) V r1 p hq5 e1)
       have b5:=B5.out.cell
       cases r1 with
       | bad x =>
        injection hr5 with hr5
        subst hr5;clear e1 hq5 hBd0
        go_wp2_with (go_at_call 59; refine (HTm.out _ S5.out.pr).mono ?_; rintro e w6 ⟨f6,rfl⟩; have F6:=qd (qu S5.out.fr f6); clear f6)
        exact ⟨rfl,zl F6.out⟩
       | ok tm s4 =>
        have hq6:=(qZ f hq5 tm s4 e1).2;have HTl:=qd (temps_len hq5 e1);obtain ⟨nn,hnn⟩:∃ nn,(ps++tm).length=nn:=⟨_,rfl⟩;have HNN:=qd hnn;clear hnn;have hr6:(qF (zg ts f 11 s4) fun l s5=>some (.ok (Nd.mk 12 [] ps.length tp ((ps++tm).map (·.1.text)) ((ps++tm).map (·.2)) l) s5))=some r:=hr5
        cases e2:zg ts f 11 s4 with
        | none=>rw [e2] at hr6; cases hr6
        | some r2 =>
         rw [e2] at hr6;have HBd:=qd (fun V p=>hBd0.out P g c s4 V r2 p hq6 e2)
         cases r2 with
         | bad x =>
          injection hr6 with hr6
          subst hr6;clear e1 hq5 hBd0 e2 hq6 hr5
          go_wp2_with (first
           | (
            go_at_call 59; refine (HTm.out _ S5.out.pr).mono ?_; rintro e w6 ⟨f6,vt,rfl,z6,p6⟩
            have S6:=qd (S5.out.go f6 p6);have B6:=qd (B5.out.fr f6 (by simpa using fun e=>hbp e.symm))
            have b6:=B6.out.cell;have V6:w6.ownsRow (wa.heap.size+1) 54 4 (.slice pv ps.length cv) ps.length (tcs ps):=qC Z5.out.1 (fun k hk=>f6.block k (qB Z5.out.1 k hk).2 (by have:=(qB Z5.out.1 k hk).1; have:=S5.out.lp; simp; omega))
            have HTo:=qd (told_n (.slice pv ps.length cv) vt ps tm nn w6 (RdT.own V6) (RdT.own z6.1) (fun h=>Z5.out.2 h) z6.2 HPs.out HTl.out HNN.out)
            clear f6 z6 p6 V6)
           | (
            go_at_call 58; refine HTo.out.mono ?_; rintro e w7 ⟨b7',vn,vp,rfl,n7,q7⟩
            obtain ⟨pn,cn,rfl⟩:=qz n7.1;obtain ⟨pq,cq,rfl⟩:=qz q7.1;have S7:=qd (S6.out.bl b7');have N7:=qd n7;have Q7:=qd q7;have B7:=qd (B6.out.bl b7');have b7:=B7.out.cell;have L7:=qd b7'.size;clear b7' n7 q7)
           | (go_at_call 60; refine (HBd.out _ S7.out.pr).mono ?_; rintro e w8 ⟨f8,rfl⟩; have F8:=qd (qu S7.out.fr f8); clear f8))
          exact ⟨rfl,zl F8.out⟩
         | ok l s5 =>
          injection hr6 with hr6
          subst hr6;clear e1 hq5 hBd0 e2 hq6 hr5
          go_wp2_with (first
           | (
            go_at_call 59; refine (HTm.out _ S5.out.pr).mono ?_; rintro e w6 ⟨f6,vt,rfl,z6,p6⟩
            have S6:=qd (S5.out.go f6 p6);have B6:=qd (B5.out.fr f6 (by simpa using fun e=>hbp e.symm))
            have b6:=B6.out.cell;have V6:w6.ownsRow (wa.heap.size+1) 54 4 (.slice pv ps.length cv) ps.length (tcs ps):=qC Z5.out.1 (fun k hk=>f6.block k (qB Z5.out.1 k hk).2 (by have:=(qB Z5.out.1 k hk).1; have:=S5.out.lp; simp; omega))
            have HTo:=qd (told_n (.slice pv ps.length cv) vt ps tm nn w6 (RdT.own V6) (RdT.own z6.1) (fun h=>Z5.out.2 h) z6.2 HPs.out HTl.out HNN.out)
            clear f6 z6 p6 V6)
           | (
            go_at_call 58; refine HTo.out.mono ?_; rintro e w7 ⟨b7',vn,vp,rfl,n7,q7⟩
            obtain ⟨pn,cn,rfl⟩:=qz n7.1;obtain ⟨pq,cq,rfl⟩:=qz q7.1;have S7:=qd (S6.out.bl b7');have N7:=qd n7;have Q7:=qd q7;have B7:=qd (B6.out.bl b7');have b7:=B7.out.cell;have L7:=qd b7'.size;clear b7' n7 q7)
           | (
            go_at_call 60; refine (HBd.out _ S7.out.pr).mono ?_; rintro e w8 ⟨f8,vb,xs,fl,rfl,z8,k8,a8,p8'⟩
            obtain ⟨pb,cb,rfl⟩:=qz z8.1;have S8:=qd (S7.out.go f8 p8');obtain ⟨m1,m2,m3,m4,m5⟩:=npb N7.out Q7.out z8 k8 a8 f8 (by have:=S6.out.pr.lt; exact this) L7.out
            have N8:Hid (NdM w8 (.mk 12 [] ps.length tp ((ps++tm).map (·.1.text)) ((ps++tm).map (·.2)) l) (.agg #[.int .i64 12,.string ⟨#[]⟩,.int .i64 ps.length,.int .i64 tp,.slice pn nn cn,.slice pq nn cq,.slice pb l.length cb]) _):=qd (NdM.mk (k:=12) (t:=[]) (n:=(ps.length:Int)) (a:=tp) (by rw [List.length_map,HNN.out,List.map_map]; exact m1) (by rw [List.length_map,HNN.out,List.map_map]; exact m2) m3 m4)
            have A8:=qd (m5.mono S6.out.size);clear f8 z8 k8 a8 p8' m1 m2 m3 m4 m5)
           | (refine wpList_store_row rfl 34 _ _ rfl wa.heap.size #[.int .i64 12,.string ⟨#[]⟩,.int .i64 ps.length,.int .i64 tp,.slice pn nn cn,.slice pq nn cq,.slice pb l.length cb] rfl rfl 34 _ S8.out.res (by kernel_rfl) rfl (qL N8.out) ?_))
          exact S8.out.endN Tryz.results177 rfl N8.out A8.out
     | false =>
      rw [hst] at HK;rw [if_pos ⟨h0,hst⟩] at hr4;have HD:=HD0
      cases en:qS ts 12 (s1) with
      | bad y =>
       rw [en] at hr4 HD;injection hr4 with hr4
       subst hr4;clear hst en
       go_enter Tryz.func177,Tryz.ntmps177
       have hfd:=fun W=>js (.int .i64 tk) (.string (ba tt)) (.int .i64 tn) (.int .i64 tp) W
       go_wp2_with (first
        | (go_at_call 80; refine (HT.out _ S0.out.pr).mono ?_; rintro e w1 ⟨rfl,p1,f1⟩; have S1:=qd (S0.out.go f1 p1); have B1:Hid (Box w1 w.heap.size (.pointer (some ⟨P,0,none⟩)) 62):=qd ((HB0.out.bl (Bl.alloc _ _)).fr f1 (by simpa using fun e=>hbp e.symm)); have b1:=B1.out.cell; clear p1 f1)
        | (
         go_at_call 86; refine (HL.out _ S1.out.pr B1.out).mono ?_; rintro e w2 ⟨f2,v,F',rfl,l2⟩
         have S2:=qd (S1.out.go f2 l2.inv.1);have B2:=qd l2.inv.2.2.2;have b2:=B2.out.cell;obtain ⟨z2,d2⟩:=l2.ex;rw [List.map_id'] at z2;obtain ⟨pv,cv,rfl⟩:=qz z2.1;have Z2:Hid (RowZ w2 54 4 (wa.heap.size+1) (.slice pv ps.length cv) ps.length (tcs ps)):=qd ⟨zM z2.1 S1.out.size,z2.2⟩;clear f2 l2 z2 d2)
        | (
         go_at_call 83; refine (HK.out _ S2.out.pr).mono ?_; rintro e w4 ⟨rfl,b4'⟩
         have S4:=qd (S2.out.bl b4');have B4:=qd (B2.out.bl b4');have b4:=B4.out.cell;have Z4:Hid (RowZ w4 54 4 (wa.heap.size+1) (.slice pv ps.length cv) ps.length (tcs ps)):=qd ⟨qC Z2.out.1 (fun k hk=>b4'.block k (qB Z2.out.1 k hk).2),Z2.out.2⟩
         clear b4')
        | (go_at_call 57; refine (HD.out _ S4.out.pr).mono ?_; rintro e w5 ⟨f5,rfl⟩; have F5:=qd (qu S4.out.fr f5); clear f5))
       exact ⟨rfl,zl F5.out⟩
      | ok y s3 =>
       have hq5:=(Pg.need hq1 (k:=12) (by decide) y s3 (by rw [en])).2
       rw [en] at hr4 HD;have hr5:(qF (qv ts f s3) fun tm s4=>qF (zg ts f 11 s4) fun l s5=>some (.ok (Nd.mk 12 [] ps.length tp ((ps++tm).map (·.1.text)) ((ps++tm).map (·.2)) l) s5))=some r:=hr4
       clear hst en
       go_enter Tryz.func177,Tryz.ntmps177
       have hfd:=fun W=>js (.int .i64 tk) (.string (ba tt)) (.int .i64 tn) (.int .i64 tp) W
       go_upto_region 7 with (first
        | (go_at_call 80; refine (HT.out _ S0.out.pr).mono ?_; rintro e w1 ⟨rfl,p1,f1⟩; have S1:=qd (S0.out.go f1 p1); have B1:Hid (Box w1 w.heap.size (.pointer (some ⟨P,0,none⟩)) 62):=qd ((HB0.out.bl (Bl.alloc _ _)).fr f1 (by simpa using fun e=>hbp e.symm)); have b1:=B1.out.cell; clear p1 f1)
        | (
         go_at_call 86; refine (HL.out _ S1.out.pr B1.out).mono ?_; rintro e w2 ⟨f2,v,F',rfl,l2⟩
         have S2:=qd (S1.out.go f2 l2.inv.1);have B2:=qd l2.inv.2.2.2;have b2:=B2.out.cell;obtain ⟨z2,d2⟩:=l2.ex;rw [List.map_id'] at z2;obtain ⟨pv,cv,rfl⟩:=qz z2.1;have Z2:Hid (RowZ w2 54 4 (wa.heap.size+1) (.slice pv ps.length cv) ps.length (tcs ps)):=qd ⟨zM z2.1 S1.out.size,z2.2⟩;clear f2 l2 z2 d2)
        | (
         go_at_call 83; refine (HK.out _ S2.out.pr).mono ?_; rintro e w4 ⟨rfl,b4'⟩
         have S4:=qd (S2.out.bl b4');have B4:=qd (B2.out.bl b4');have b4:=B4.out.cell;have Z4:Hid (RowZ w4 54 4 (wa.heap.size+1) (.slice pv ps.length cv) ps.length (tcs ps)):=qd ⟨qC Z2.out.1 (fun k hk=>b4'.block k (qB Z2.out.1 k hk).2),Z2.out.2⟩
         clear b4')
        | (
         go_at_call 57; refine (HD.out _ S4.out.pr).mono ?_; rintro e w5 ⟨f5,rfl,p5⟩
         have S5:=qd (S4.out.go f5 p5);have B5:=qd (B4.out.fr f5 (by simpa using fun e=>hbp e.symm))
         have Z5:Hid (RowZ w5 54 4 (wa.heap.size+1) (.slice pv ps.length cv) ps.length (tcs ps)):=qd ⟨qC Z4.out.1 (fun k hk=>f5.block k (qB Z4.out.1 k hk).2 (by have:=(qB Z4.out.1 k hk).1; have:=S4.out.lp; simp; omega)),Z4.out.2⟩
         clear f5 p5))
       cases e1:qv ts f s3 with
       | none=>rw [e1] at hr5; cases hr5
       | some r1 =>
        rw [e1] at hr5;have HTm:=qd (fun V p=>jm ts f P g c s3 V r1 p hq5 e1)
        have b5:=B5.out.cell
        cases r1 with
        | bad x =>
         injection hr5 with hr5
         subst hr5;clear e1 hq5 hBd0
         go_wp2_with (go_at_call 59; refine (HTm.out _ S5.out.pr).mono ?_; rintro e w6 ⟨f6,rfl⟩; have F6:=qd (qu S5.out.fr f6); clear f6)
         exact ⟨rfl,zl F6.out⟩
        | ok tm s4 =>
         have hq6:=(qZ f hq5 tm s4 e1).2;have HTl:=qd (temps_len hq5 e1);obtain ⟨nn,hnn⟩:∃ nn,(ps++tm).length=nn:=⟨_,rfl⟩;have HNN:=qd hnn;clear hnn;have hr6:(qF (zg ts f 11 s4) fun l s5=>some (.ok (Nd.mk 12 [] ps.length tp ((ps++tm).map (·.1.text)) ((ps++tm).map (·.2)) l) s5))=some r:=hr5
         cases e2:zg ts f 11 s4 with
         | none=>rw [e2] at hr6; cases hr6
         | some r2 =>
          rw [e2] at hr6;have HBd:=qd (fun V p=>hBd0.out P g c s4 V r2 p hq6 e2)
          cases r2 with
          | bad x =>
           injection hr6 with hr6
           subst hr6;clear e1 hq5 hBd0 e2 hq6 hr5
           go_wp2_with (first
            | (
             go_at_call 59; refine (HTm.out _ S5.out.pr).mono ?_; rintro e w6 ⟨f6,vt,rfl,z6,p6⟩
             have S6:=qd (S5.out.go f6 p6);have B6:=qd (B5.out.fr f6 (by simpa using fun e=>hbp e.symm))
             have b6:=B6.out.cell;have V6:w6.ownsRow (wa.heap.size+1) 54 4 (.slice pv ps.length cv) ps.length (tcs ps):=qC Z5.out.1 (fun k hk=>f6.block k (qB Z5.out.1 k hk).2 (by have:=(qB Z5.out.1 k hk).1; have:=S5.out.lp; simp; omega))
             have HTo:=qd (told_n (.slice pv ps.length cv) vt ps tm nn w6 (RdT.own V6) (RdT.own z6.1) (fun h=>Z5.out.2 h) z6.2 HPs.out HTl.out HNN.out)
             clear f6 z6 p6 V6)
            | (
             go_at_call 58; refine HTo.out.mono ?_; rintro e w7 ⟨b7',vn,vp,rfl,n7,q7⟩
             obtain ⟨pn,cn,rfl⟩:=qz n7.1;obtain ⟨pq,cq,rfl⟩:=qz q7.1;have S7:=qd (S6.out.bl b7');have N7:=qd n7;have Q7:=qd q7;have B7:=qd (B6.out.bl b7');have b7:=B7.out.cell;have L7:=qd b7'.size;clear b7' n7 q7)
            | (go_at_call 60; refine (HBd.out _ S7.out.pr).mono ?_; rintro e w8 ⟨f8,rfl⟩; have F8:=qd (qu S7.out.fr f8); clear f8))
           exact ⟨rfl,zl F8.out⟩
          | ok l s5 =>
           injection hr6 with hr6
           subst hr6;clear e1 hq5 hBd0 e2 hq6 hr5
           go_wp2_with (first
            | (
             go_at_call 59; refine (HTm.out _ S5.out.pr).mono ?_; rintro e w6 ⟨f6,vt,rfl,z6,p6⟩
             have S6:=qd (S5.out.go f6 p6);have B6:=qd (B5.out.fr f6 (by simpa using fun e=>hbp e.symm))
             have b6:=B6.out.cell;have V6:w6.ownsRow (wa.heap.size+1) 54 4 (.slice pv ps.length cv) ps.length (tcs ps):=qC Z5.out.1 (fun k hk=>f6.block k (qB Z5.out.1 k hk).2 (by have:=(qB Z5.out.1 k hk).1; have:=S5.out.lp; simp; omega))
             have HTo:=qd (told_n (.slice pv ps.length cv) vt ps tm nn w6 (RdT.own V6) (RdT.own z6.1) (fun h=>Z5.out.2 h) z6.2 HPs.out HTl.out HNN.out)
             clear f6 z6 p6 V6)
            | (
             go_at_call 58; refine HTo.out.mono ?_; rintro e w7 ⟨b7',vn,vp,rfl,n7,q7⟩
             obtain ⟨pn,cn,rfl⟩:=qz n7.1;obtain ⟨pq,cq,rfl⟩:=qz q7.1;have S7:=qd (S6.out.bl b7');have N7:=qd n7;have Q7:=qd q7;have B7:=qd (B6.out.bl b7');have b7:=B7.out.cell;have L7:=qd b7'.size;clear b7' n7 q7)
            | (
             go_at_call 60; refine (HBd.out _ S7.out.pr).mono ?_; rintro e w8 ⟨f8,vb,xs,fl,rfl,z8,k8,a8,p8'⟩
             obtain ⟨pb,cb,rfl⟩:=qz z8.1;have S8:=qd (S7.out.go f8 p8');obtain ⟨m1,m2,m3,m4,m5⟩:=npb N7.out Q7.out z8 k8 a8 f8 (by have:=S6.out.pr.lt; exact this) L7.out
             have N8:Hid (NdM w8 (.mk 12 [] ps.length tp ((ps++tm).map (·.1.text)) ((ps++tm).map (·.2)) l) (.agg #[.int .i64 12,.string ⟨#[]⟩,.int .i64 ps.length,.int .i64 tp,.slice pn nn cn,.slice pq nn cq,.slice pb l.length cb]) _):=qd (NdM.mk (k:=12) (t:=[]) (n:=(ps.length:Int)) (a:=tp) (by rw [List.length_map,HNN.out,List.map_map]; exact m1) (by rw [List.length_map,HNN.out,List.map_map]; exact m2) m3 m4)
             have A8:=qd (m5.mono S6.out.size);clear f8 z8 k8 a8 p8' m1 m2 m3 m4 m5)
            | (refine wpList_store_row rfl 34 _ _ rfl wa.heap.size #[.int .i64 12,.string ⟨#[]⟩,.int .i64 ps.length,.int .i64 tp,.slice pn nn cn,.slice pq nn cq,.slice pb l.length cb] rfl rfl 34 _ S8.out.res (by kernel_rfl) rfl (qL N8.out) ?_))
           exact S8.out.endN Tryz.results177 rfl N8.out A8.out
    ·have k0:¬ (0:Int) < ps.length:=by omega
     rw [if_neg (by rintro ⟨h,_⟩; exact h0 h)] at hr4
     have hr5:(qF (qv ts f s1) fun tm s4=>qF (zg ts f 11 s4) fun l s5=>some (.ok (Nd.mk 12 [] ps.length tp ((ps++tm).map (·.1.text)) ((ps++tm).map (·.2)) l) s5))=some r:=hr4
     obtain ⟨s3,hs3⟩:∃ s3,s1=s3:=⟨_,rfl⟩;subst hs3;have hq5:=hq1;clear HK HD0 h0
     go_enter Tryz.func177,Tryz.ntmps177
     have hfd:=fun W=>js (.int .i64 tk) (.string (ba tt)) (.int .i64 tn) (.int .i64 tp) W
     go_upto_region 7 with (first
      | (go_at_call 80; refine (HT.out _ S0.out.pr).mono ?_; rintro e w1 ⟨rfl,p1,f1⟩; have S1:=qd (S0.out.go f1 p1); have B1:Hid (Box w1 w.heap.size (.pointer (some ⟨P,0,none⟩)) 62):=qd ((HB0.out.bl (Bl.alloc _ _)).fr f1 (by simpa using fun e=>hbp e.symm)); have b1:=B1.out.cell; clear p1 f1)
      | (
       go_at_call 86; refine (HL.out _ S1.out.pr B1.out).mono ?_; rintro e w2 ⟨f2,v,F',rfl,l2⟩
       have S2:=qd (S1.out.go f2 l2.inv.1);have B2:=qd l2.inv.2.2.2;have b2:=B2.out.cell;obtain ⟨z2,d2⟩:=l2.ex;rw [List.map_id'] at z2;obtain ⟨pv,cv,rfl⟩:=qz z2.1;have Z2:Hid (RowZ w2 54 4 (wa.heap.size+1) (.slice pv ps.length cv) ps.length (tcs ps)):=qd ⟨zM z2.1 S1.out.size,z2.2⟩;clear f2 l2 z2 d2))
     have S5:=S2;have B5:=B2;have Z5:=Z2
     cases e1:qv ts f s1 with
     | none=>rw [e1] at hr5; cases hr5
     | some r1 =>
      rw [e1] at hr5;have HTm:=qd (fun V p=>jm ts f P g c s1 V r1 p hq5 e1)
      have b5:=B5.out.cell
      cases r1 with
      | bad x =>
       injection hr5 with hr5
       subst hr5;clear e1 hq5 hBd0
       go_wp2_with (go_at_call 59; refine (HTm.out _ S5.out.pr).mono ?_; rintro e w6 ⟨f6,rfl⟩; have F6:=qd (qu S5.out.fr f6); clear f6)
       exact ⟨rfl,zl F6.out⟩
      | ok tm s4 =>
       have hq6:=(qZ f hq5 tm s4 e1).2;have HTl:=qd (temps_len hq5 e1);obtain ⟨nn,hnn⟩:∃ nn,(ps++tm).length=nn:=⟨_,rfl⟩;have HNN:=qd hnn;clear hnn;have hr6:(qF (zg ts f 11 s4) fun l s5=>some (.ok (Nd.mk 12 [] ps.length tp ((ps++tm).map (·.1.text)) ((ps++tm).map (·.2)) l) s5))=some r:=hr5
       cases e2:zg ts f 11 s4 with
       | none=>rw [e2] at hr6; cases hr6
       | some r2 =>
        rw [e2] at hr6;have HBd:=qd (fun V p=>hBd0.out P g c s4 V r2 p hq6 e2)
        cases r2 with
        | bad x =>
         injection hr6 with hr6
         subst hr6;clear e1 hq5 hBd0 e2 hq6 hr5
         go_wp2_with (first
          | (
           go_at_call 59; refine (HTm.out _ S5.out.pr).mono ?_; rintro e w6 ⟨f6,vt,rfl,z6,p6⟩
           have S6:=qd (S5.out.go f6 p6);have B6:=qd (B5.out.fr f6 (by simpa using fun e=>hbp e.symm))
           have b6:=B6.out.cell;have V6:w6.ownsRow (wa.heap.size+1) 54 4 (.slice pv ps.length cv) ps.length (tcs ps):=qC Z5.out.1 (fun k hk=>f6.block k (qB Z5.out.1 k hk).2 (by have:=(qB Z5.out.1 k hk).1; have:=S5.out.lp; simp; omega))
           have HTo:=qd (told_n (.slice pv ps.length cv) vt ps tm nn w6 (RdT.own V6) (RdT.own z6.1) (fun h=>Z5.out.2 h) z6.2 HPs.out HTl.out HNN.out)
           clear f6 z6 p6 V6)
          | (
           go_at_call 58; refine HTo.out.mono ?_; rintro e w7 ⟨b7',vn,vp,rfl,n7,q7⟩
           obtain ⟨pn,cn,rfl⟩:=qz n7.1;obtain ⟨pq,cq,rfl⟩:=qz q7.1;have S7:=qd (S6.out.bl b7');have N7:=qd n7;have Q7:=qd q7;have B7:=qd (B6.out.bl b7');have b7:=B7.out.cell;have L7:=qd b7'.size;clear b7' n7 q7)
          | (go_at_call 60; refine (HBd.out _ S7.out.pr).mono ?_; rintro e w8 ⟨f8,rfl⟩; have F8:=qd (qu S7.out.fr f8); clear f8))
         exact ⟨rfl,zl F8.out⟩
        | ok l s5 =>
         injection hr6 with hr6
         subst hr6;clear e1 hq5 hBd0 e2 hq6 hr5
         go_wp2_with (first
          | (
           go_at_call 59; refine (HTm.out _ S5.out.pr).mono ?_; rintro e w6 ⟨f6,vt,rfl,z6,p6⟩
           have S6:=qd (S5.out.go f6 p6);have B6:=qd (B5.out.fr f6 (by simpa using fun e=>hbp e.symm))
           have b6:=B6.out.cell;have V6:w6.ownsRow (wa.heap.size+1) 54 4 (.slice pv ps.length cv) ps.length (tcs ps):=qC Z5.out.1 (fun k hk=>f6.block k (qB Z5.out.1 k hk).2 (by have:=(qB Z5.out.1 k hk).1; have:=S5.out.lp; simp; omega))
           have HTo:=qd (told_n (.slice pv ps.length cv) vt ps tm nn w6 (RdT.own V6) (RdT.own z6.1) (fun h=>Z5.out.2 h) z6.2 HPs.out HTl.out HNN.out)
           clear f6 z6 p6 V6)
          | (
           go_at_call 58; refine HTo.out.mono ?_; rintro e w7 ⟨b7',vn,vp,rfl,n7,q7⟩
           obtain ⟨pn,cn,rfl⟩:=qz n7.1;obtain ⟨pq,cq,rfl⟩:=qz q7.1;have S7:=qd (S6.out.bl b7');have N7:=qd n7;have Q7:=qd q7;have B7:=qd (B6.out.bl b7');have b7:=B7.out.cell;have L7:=qd b7'.size;clear b7' n7 q7)
          | (
           go_at_call 60; refine (HBd.out _ S7.out.pr).mono ?_; rintro e w8 ⟨f8,vb,xs,fl,rfl,z8,k8,a8,p8'⟩
           obtain ⟨pb,cb,rfl⟩:=qz z8.1;have S8:=qd (S7.out.go f8 p8');obtain ⟨m1,m2,m3,m4,m5⟩:=npb N7.out Q7.out z8 k8 a8 f8 (by have:=S6.out.pr.lt; exact this) L7.out
           have N8:Hid (NdM w8 (.mk 12 [] ps.length tp ((ps++tm).map (·.1.text)) ((ps++tm).map (·.2)) l) (.agg #[.int .i64 12,.string ⟨#[]⟩,.int .i64 ps.length,.int .i64 tp,.slice pn nn cn,.slice pq nn cq,.slice pb l.length cb]) _):=qd (NdM.mk (k:=12) (t:=[]) (n:=(ps.length:Int)) (a:=tp) (by rw [List.length_map,HNN.out,List.map_map]; exact m1) (by rw [List.length_map,HNN.out,List.map_map]; exact m2) m3 m4)
           have A8:=qd (m5.mono S6.out.size);clear f8 z8 k8 a8 p8' m1 m2 m3 m4 m5)
          | (refine wpList_store_row rfl 34 _ _ rfl wa.heap.size #[.int .i64 12,.string ⟨#[]⟩,.int .i64 ps.length,.int .i64 tp,.slice pn nn cn,.slice pq nn cq,.slice pb l.length cb] rfl rfl 34 _ S8.out.res (by kernel_rfl) rfl (qL N8.out) ?_))
         exact S8.out.endN Tryz.results177 rfl N8.out A8.out
end Go.Proofs.YtfhkhmgodkheaaaGreatDoor
