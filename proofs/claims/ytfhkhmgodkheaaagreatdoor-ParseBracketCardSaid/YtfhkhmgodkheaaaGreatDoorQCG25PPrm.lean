import Derived.Test.YtfhkhmgodkheaaaGreatDoorQCG12PArr0
import Derived.Test.YtfhkhmgodkheaaaGreatDoorQCG10PReg
set_option linter.unusedSimpArgs false
set_option linter.unusedVariables false
set_option maxRecDepth 1000000
set_option maxHeartbeats 16000000
namespace Go.Proofs.YtfhkhmgodkheaaaGreatDoor
open Go.RowKit Go.Maps
theorem array_ok (ts:Ts) (f:Nat) (hEl:CN 196 ts (qX ts f)):∀ P g c s w r,Pr w P g c ts s→Okq ts s→(hdT ts s).1.kind=7→zb ts (f+1) s=some r→Calls Tryz.prog 190 #[.pointer (some ⟨P,0,none⟩)] w (PostN P g c ts w r):=by
 intro P g c s w r h hok hk hr
 have hbp:P≠w.heap.size:=by have:=h.lt; omega
 obtain ⟨w0,hW0⟩:∃ W,w.alloc (.cells #[.pointer (some ⟨P,0,none⟩)] 62)=W:=⟨_,rfl⟩
 have b0:Bl w w0:=hW0▸Bl.alloc _ _
 have HB0:Hid (Box w0 w.heap.size (.pointer (some ⟨P,0,none⟩)) 62):=qd (hW0▸heap_alloc_new w _)
 have hs0:w0.heap.size=w.heap.size+1:=by rw [← hW0]; simp
 have hb0:=(HB0.out.bl (Bl.alloc w0 (.cells #[.int .i64 0,.string ⟨#[]⟩,.int .i64 0,.int .i64 0,.slice none 0 0,.slice none 0 0,.slice none 0 0] 34))).cell
 clear hs0
 have hq:=hok.take (by rw [hk]; decide)
 have S0:=qd (Sw.start (h.keep b0) hok)
 have HT:=qd (fun V p=>zY P g c ts s V p hok.ok hok.lt)
 unfold tkv at HT
 refine Calls.mono (R:=PostN P g c ts w0 r) ?_ (fun e w' q=>PostN.back b0 q)
 unfold zb at hr
 rw [if_neg (by omega),if_neg (by omega),if_neg (by omega),if_pos hk] at hr
 have HQ:=qd hq
 cases e1:qY ts 0 (fun s=>(!qi ts 9 s,s)) (fun _=>qX ts f) f [] (qj ts s) with
 | none=>rw [e1] at hr; cases hr
 | some rl =>
  rw [e1] at hr;have HL:=qd (fun V i=>listN_ok (fun n:Nd=>n) P [g,w.heap.size] ts 0 (fun s=>(!qi ts 9 s,s)) (fun _=>qX ts f) (by decide) (fun s hs=>⟨Nat.le_refl _,hs⟩) (fun acc s hs _=>(zS ts f).elem s hs) (I1 P g c ts w.heap.size) I1.ok 195 196 #[] #[.pointer (some ⟨w.heap.size,0,none⟩)] #[.pointer (some ⟨P,0,none⟩)] #[] (ent 195 _ _ Tryz.func195 (by kernel_rfl) rfl) (ent 196 _ _ Tryz.func196 (by kernel_rfl) rfl)
   (fun W F acc s i=>by rw [show (#[]:Array Value)++#[.pointer (some ⟨w.heap.size,0,none⟩)]=#[.pointer (some ⟨w.heap.size,0,none⟩)] by simp]; exact clo195_ok W F acc s i)
   (fun W F acc s r i _ _ _ e=>by rw [show #[.pointer (some ⟨P,0,none⟩)]++(#[]:Array Value)=#[.pointer (some ⟨P,0,none⟩)] by simp]; exact (hEl P g c s W r i.1 i.2.1 e).mono (fun e' w' q=>PostN.one hbp i (by cases r <;> rfl) (fun a s' er=>((zS ts f).elem s i.2.1 a s' (by rw [e,er])).2) q))
   (fun W F acc s i=>I1.skip hbp 0 (by decide) W F acc s i) f (qj ts s) V [P] i rl e1)
  cases rl with
  | bad x =>
   injection hr with hr
   subst hr;clear h hok hk hq b0 e1 hEl;generalize qj ts s=st at *;generalize hdT ts s=x at *;obtain ⟨⟨tk,tt,tn⟩,tp⟩:=x;dsimp only at *
   go_enter Tryz.func190,Tryz.ntmps190
   have hfd:=fun W=>js (.int .i64 tk) (.string (ba tt)) (.int .i64 tn) (.int .i64 tp) W
   go_wp2_with (first
    | (go_at_call 80; refine (HT.out _ S0.out.pr).mono ?_; rintro e w1 ⟨rfl,p1,f1⟩; have S1:=qd (S0.out.go f1 p1); have B1:Hid (Box w1 w.heap.size (.pointer (some ⟨P,0,none⟩)) 62):=qd ((HB0.out.bl (Bl.alloc _ _)).fr f1 (by simpa using fun e=>hbp e.symm)); have b1:=B1.out.cell; clear p1 f1)
    | (go_at_call 88; refine (HL.out _ ⟨S1.out.pr,HQ.out,rfl,B1.out⟩).mono ?_; rintro e w2 ⟨f2,rfl⟩; have F2:=qd (qu S1.out.fr f2); clear f2))
   exact ⟨rfl,zl F2.out⟩
  | ok l s1 =>
   have hq1:=((zh (btw:=0) (by decide) (fun s hs=>⟨Nat.le_refl _,hs⟩) (fun acc s hs _=>(zS ts f).elem s hs) f [] _ hq).1 l s1 e1).2
   have hpl:=places_getD (elems_place (zS ts f).elem hq e1) 32;have HPl:Hid (s1.place≤8192):=qd (by have:=hq1.ok.place; omega)
   have hr2:(match qS ts 9 (if 32 < l.length then qR 73 ((l.map Nd.place).getD 32 0) s1 else s1) with | .bad x=>some (.bad x) | .ok _ s2=>some (.ok (Nd.mk 4 [] 0 (hdT ts s).2 [] [] l) s2))=some r:=hr
   by_cases hc:32 < l.length
   ·rw [if_pos hc] at hr2
    obtain ⟨p32,hp32⟩:∃ p,(l.map Nd.place).getD 32 0=p:=⟨_,rfl⟩;rw [hp32] at hr2 hpl;have HP32:=qd hp32;clear hp32;have hq2:=hq1.pass (c:=73) hpl;have HD:=qd (fun V p=>need_ok P g c ts _ 9 V p hq2.ok hq2.lt)
    have hci:(32:Int) < l.length:=by omega
    cases en:qS ts 9 (qR 73 p32 s1) with
    | bad y =>
     rw [en] at hr2 HD;injection hr2 with hr2
     subst hr2;clear h hok hk hq b0 e1 hEl hr hq1 hq2 en hpl;generalize qj ts s=st at *;generalize hdT ts s=x at *;obtain ⟨⟨tk,tt,tn⟩,tp⟩:=x;dsimp only at *
     go_enter Tryz.func190,Tryz.ntmps190
     have hfd:=fun W=>js (.int .i64 tk) (.string (ba tt)) (.int .i64 tn) (.int .i64 tp) W
     go_wp2_with (first
      | (go_at_call 80; refine (HT.out _ S0.out.pr).mono ?_; rintro e w1 ⟨rfl,p1,f1⟩; have S1:=qd (S0.out.go f1 p1); have B1:Hid (Box w1 w.heap.size (.pointer (some ⟨P,0,none⟩)) 62):=qd ((HB0.out.bl (Bl.alloc _ _)).fr f1 (by simpa using fun e=>hbp e.symm)); have b1:=B1.out.cell; clear p1 f1)
      | (
       go_at_call 88; refine (HL.out _ ⟨S1.out.pr,HQ.out,rfl,B1.out⟩).mono ?_; rintro e w2 ⟨f2,v,F',rfl,l2⟩
       have S2:=qd (S1.out.go f2 l2.inv.1);have B2:=qd l2.inv.2.2.2;have b2:=B2.out.cell;obtain ⟨pv,cv,xs,ft,rfl,z2,n2,a2,k2⟩:=l2.node;have N2:Hid (NdM w2 (.mk 4 [] 0 tp [] [] l) _ _):=qd (by have:=k2 4 [] 0 tp; rw [List.map_id'] at this; exact this)
       have A2:Hid (Apt (w0.heap.size+1) ((Value.slice pv l.length cv).ownBlock.toList++ft)):=qd (a2.mono S1.out.size);have Z2:=qd z2;have X2:=qd n2;clear f2 l2 z2 n2 a2 k2))
     obtain ⟨gk,rfl,hg1,hg2,hg3,hg4⟩:=row_at Z2.out.1 (by omega)
     have hcell:=hg4 227 _ (X2.out.place 32 (by rw [List.length_map]; omega))
     rw [List.map_id',HP32.out] at hcell;have S3:=qd S2.out.drew;have B3:Hid (Box w2.drew w.heap.size (.pointer (some ⟨P,0,none⟩)) 62):=qd B2.out;have C3:Hid (w2.drew.cell? ⟨gk,227,none⟩=some (.int .i64 p32)):=qd hcell;have N3:Hid (NdM w2.drew _ _ _):=qd (N2.out.fr (Fr.drew [] w2) (by simp))
     have hgc:(32:Int) < cv:=by omega
     have hne:gk≠P:=by have:=S1.out.lp; have:=S1.out.size; omega
     clear hcell hg4;refine wp_region_held_drew (S:=fun V=>V.cell? ⟨w.heap.size,0,none⟩=some (.pointer (some ⟨P,0,none⟩))∧V.cell? ⟨gk,227,none⟩=some (.int .i64 p32)) (by kernel_rfl) (⟨B3.out.cell,C3.out⟩) (fun hHeld=>?_)
     refine tq (i:=0) ?_
     try simp only [Act.put,qq]
     refine tq (i:=1) ?_
     try simp only [Act.put,qq]
     refine wpAnyH_take (i:=2) (v:=.pointer (some ⟨gk,224,none⟩)) rfl (by kernel_rfl) (by kernel_rfl) (by kernel_rfl) (fun _ _ _ h=>h) (Or.inl ⟨by rfl,?_⟩) (by assumption) ?_
     ·(intro w hSw; obtain ⟨hS1,hS2⟩:=hSw; go_simp; all_goals omega)
     try simp only [Act.put,qq]
     refine tq (i:=3) ?_
     try simp only [Act.put,qq]
     refine tq (i:=4) ?_
     try simp only [Act.put,qq]
     refine qU (i:=5) (by kernel_rfl) rfl (fun K hK=>?_)
     refine qO (by rfl) 116 Tryz.f116 Tryz.func116 (by kernel_rfl) (by kernel_rfl) _ _ rfl _ (by first | (simp [Act.eval]; done) | (simp [Act.eval]; rfl)) _ (pass_ok P g c ts s1 73 _ _ S3.out.pr HPl.out) ?_
     rintro _ w3 ⟨rfl,p3,f3⟩;have S5:=qd (S3.out.go f3 p3);have B5:=qd (B3.out.fr f3 (by simpa using fun e=>hbp e.symm))
     have C5:Hid (w3.cell? ⟨gk,227,none⟩=some (.int .i64 p32)):=qd ((World.cell?_of_block (w:=w2.drew) (f3.block gk hg2 (by simpa using hne))).trans C3.out)
     have N5:=qd (N3.out.fr f3 (fun b hb=>by have:=A2.out.lo b hb; have:=S1.out.lp; simp; omega))
     clear p3 f3;refine hK.out _ _ (⟨B5.out.cell,C5.out⟩) (fun hHeld=>?_)
     clear hK K
     try simp only [Act.put,qq]
     refine wpAnyH_done (by kernel_rfl) ?_ _
     clear hHeld;have b5:=B5.out.cell
     go_wp2_with (first
      | (go_at_call 57; refine (HD.out _ S5.out.pr).mono ?_; rintro e w4 ⟨f4,rfl⟩; have F4:=qd (qu S5.out.fr f4); clear f4))
     exact ⟨rfl,zl F4.out⟩
    | ok y s2 =>
     rw [en] at hr2 HD;injection hr2 with hr2
     subst hr2;clear h hok hk hq b0 e1 hEl hr hq1 hq2 en hpl;generalize qj ts s=st at *;generalize hdT ts s=x at *;obtain ⟨⟨tk,tt,tn⟩,tp⟩:=x;dsimp only at *
     go_enter Tryz.func190,Tryz.ntmps190
     have hfd:=fun W=>js (.int .i64 tk) (.string (ba tt)) (.int .i64 tn) (.int .i64 tp) W
     go_wp2_with (first
      | (go_at_call 80; refine (HT.out _ S0.out.pr).mono ?_; rintro e w1 ⟨rfl,p1,f1⟩; have S1:=qd (S0.out.go f1 p1); have B1:Hid (Box w1 w.heap.size (.pointer (some ⟨P,0,none⟩)) 62):=qd ((HB0.out.bl (Bl.alloc _ _)).fr f1 (by simpa using fun e=>hbp e.symm)); have b1:=B1.out.cell; clear p1 f1)
      | (
       go_at_call 88; refine (HL.out _ ⟨S1.out.pr,HQ.out,rfl,B1.out⟩).mono ?_; rintro e w2 ⟨f2,v,F',rfl,l2⟩
       have S2:=qd (S1.out.go f2 l2.inv.1);have B2:=qd l2.inv.2.2.2;have b2:=B2.out.cell;obtain ⟨pv,cv,xs,ft,rfl,z2,n2,a2,k2⟩:=l2.node;have N2:Hid (NdM w2 (.mk 4 [] 0 tp [] [] l) _ _):=qd (by have:=k2 4 [] 0 tp; rw [List.map_id'] at this; exact this)
       have A2:Hid (Apt (w0.heap.size+1) ((Value.slice pv l.length cv).ownBlock.toList++ft)):=qd (a2.mono S1.out.size);have Z2:=qd z2;have X2:=qd n2;clear f2 l2 z2 n2 a2 k2))
     obtain ⟨gk,rfl,hg1,hg2,hg3,hg4⟩:=row_at Z2.out.1 (by omega)
     have hcell:=hg4 227 _ (X2.out.place 32 (by rw [List.length_map]; omega))
     rw [List.map_id',HP32.out] at hcell;have S3:=qd S2.out.drew;have B3:Hid (Box w2.drew w.heap.size (.pointer (some ⟨P,0,none⟩)) 62):=qd B2.out;have C3:Hid (w2.drew.cell? ⟨gk,227,none⟩=some (.int .i64 p32)):=qd hcell;have N3:Hid (NdM w2.drew _ _ _):=qd (N2.out.fr (Fr.drew [] w2) (by simp))
     have hgc:(32:Int) < cv:=by omega
     have hne:gk≠P:=by have:=S1.out.lp; have:=S1.out.size; omega
     clear hcell hg4;refine wp_region_held_drew (S:=fun V=>V.cell? ⟨w.heap.size,0,none⟩=some (.pointer (some ⟨P,0,none⟩))∧V.cell? ⟨gk,227,none⟩=some (.int .i64 p32)) (by kernel_rfl) (⟨B3.out.cell,C3.out⟩) (fun hHeld=>?_)
     refine tq (i:=0) ?_
     try simp only [Act.put,qq]
     refine tq (i:=1) ?_
     try simp only [Act.put,qq]
     refine wpAnyH_take (i:=2) (v:=.pointer (some ⟨gk,224,none⟩)) rfl (by kernel_rfl) (by kernel_rfl) (by kernel_rfl) (fun _ _ _ h=>h) (Or.inl ⟨by rfl,?_⟩) (by assumption) ?_
     ·(intro w hSw; obtain ⟨hS1,hS2⟩:=hSw; go_simp; all_goals omega)
     try simp only [Act.put,qq]
     refine tq (i:=3) ?_
     try simp only [Act.put,qq]
     refine tq (i:=4) ?_
     try simp only [Act.put,qq]
     refine qU (i:=5) (by kernel_rfl) rfl (fun K hK=>?_)
     refine qO (by rfl) 116 Tryz.f116 Tryz.func116 (by kernel_rfl) (by kernel_rfl) _ _ rfl _ (by first | (simp [Act.eval]; done) | (simp [Act.eval]; rfl)) _ (pass_ok P g c ts s1 73 _ _ S3.out.pr HPl.out) ?_
     rintro _ w3 ⟨rfl,p3,f3⟩;have S5:=qd (S3.out.go f3 p3);have B5:=qd (B3.out.fr f3 (by simpa using fun e=>hbp e.symm))
     have C5:Hid (w3.cell? ⟨gk,227,none⟩=some (.int .i64 p32)):=qd ((World.cell?_of_block (w:=w2.drew) (f3.block gk hg2 (by simpa using hne))).trans C3.out)
     have N5:=qd (N3.out.fr f3 (fun b hb=>by have:=A2.out.lo b hb; have:=S1.out.lp; simp; omega))
     clear p3 f3;refine hK.out _ _ (⟨B5.out.cell,C5.out⟩) (fun hHeld=>?_)
     clear hK K
     try simp only [Act.put,qq]
     refine wpAnyH_done (by kernel_rfl) ?_ _
     clear hHeld;have b5:=B5.out.cell
     go_wp2_with (first
      | (
       go_at_call 57; refine (HD.out _ S5.out.pr).mono ?_; rintro e w4 ⟨f4,rfl,p4⟩
       have S4:=qd (S5.out.go f4 p4);have N4:=qd (N5.out.fr f4 (fun b hb=>by have:=A2.out.lo b hb; have:=S1.out.lp; simp; omega))
       clear f4 p4)
      | (refine wpList_store_row rfl 34 _ _ rfl w0.heap.size #[.int .i64 4,.string ⟨#[]⟩,.int .i64 0,.int .i64 tp,.slice none 0 0,.slice none 0 0,.slice (some ⟨gk,0,none⟩) l.length cv] rfl rfl 34 _ S4.out.res (by kernel_rfl) rfl (qL N4.out) ?_))
     exact S4.out.endN Tryz.results190 rfl N4.out A2.out
   ·rw [if_neg hc] at hr2
    have HD:=qd (fun V p=>need_ok P g c ts s1 9 V p hq1.ok hq1.lt)
    have hci:¬ (32:Int) < l.length:=by omega
    cases en:qS ts 9 s1 with
    | bad y =>
     rw [en] at hr2 HD;injection hr2 with hr2
     subst hr2;clear h hok hk hq b0 e1 hEl hr hq1 en hpl hc;generalize qj ts s=st at *;generalize hdT ts s=x at *;obtain ⟨⟨tk,tt,tn⟩,tp⟩:=x;dsimp only at *
     go_enter Tryz.func190,Tryz.ntmps190
     have hfd:=fun W=>js (.int .i64 tk) (.string (ba tt)) (.int .i64 tn) (.int .i64 tp) W
     go_wp2_with (first
      | (go_at_call 80; refine (HT.out _ S0.out.pr).mono ?_; rintro e w1 ⟨rfl,p1,f1⟩; have S1:=qd (S0.out.go f1 p1); have B1:Hid (Box w1 w.heap.size (.pointer (some ⟨P,0,none⟩)) 62):=qd ((HB0.out.bl (Bl.alloc _ _)).fr f1 (by simpa using fun e=>hbp e.symm)); have b1:=B1.out.cell; clear p1 f1)
      | (
       go_at_call 88; refine (HL.out _ ⟨S1.out.pr,HQ.out,rfl,B1.out⟩).mono ?_; rintro e w2 ⟨f2,v,F',rfl,l2⟩
       have S2:=qd (S1.out.go f2 l2.inv.1);have B2:=qd l2.inv.2.2.2;have b2:=B2.out.cell;obtain ⟨pv,cv,xs,ft,rfl,z2,n2,a2,k2⟩:=l2.node;have N2:Hid (NdM w2 (.mk 4 [] 0 tp [] [] l) _ _):=qd (by have:=k2 4 [] 0 tp; rw [List.map_id'] at this; exact this)
       have A2:Hid (Apt (w0.heap.size+1) ((Value.slice pv l.length cv).ownBlock.toList++ft)):=qd (a2.mono S1.out.size);have Z2:=qd z2;have X2:=qd n2;clear f2 l2 z2 n2 a2 k2)
      | (go_at_call 57; refine (HD.out _ S2.out.pr).mono ?_; rintro e w4 ⟨f4,rfl⟩; have F4:=qd (qu S2.out.fr f4); clear f4))
     exact ⟨rfl,zl F4.out⟩
    | ok y s2 =>
     rw [en] at hr2 HD;injection hr2 with hr2
     subst hr2;clear h hok hk hq b0 e1 hEl hr hq1 en hpl hc;generalize qj ts s=st at *;generalize hdT ts s=x at *;obtain ⟨⟨tk,tt,tn⟩,tp⟩:=x;dsimp only at *
     go_enter Tryz.func190,Tryz.ntmps190
     have hfd:=fun W=>js (.int .i64 tk) (.string (ba tt)) (.int .i64 tn) (.int .i64 tp) W
     go_wp2_with (first
      | (go_at_call 80; refine (HT.out _ S0.out.pr).mono ?_; rintro e w1 ⟨rfl,p1,f1⟩; have S1:=qd (S0.out.go f1 p1); have B1:Hid (Box w1 w.heap.size (.pointer (some ⟨P,0,none⟩)) 62):=qd ((HB0.out.bl (Bl.alloc _ _)).fr f1 (by simpa using fun e=>hbp e.symm)); have b1:=B1.out.cell; clear p1 f1)
      | (
       go_at_call 88; refine (HL.out _ ⟨S1.out.pr,HQ.out,rfl,B1.out⟩).mono ?_; rintro e w2 ⟨f2,v,F',rfl,l2⟩
       have S2:=qd (S1.out.go f2 l2.inv.1);have B2:=qd l2.inv.2.2.2;have b2:=B2.out.cell;obtain ⟨pv,cv,xs,ft,rfl,z2,n2,a2,k2⟩:=l2.node;have N2:Hid (NdM w2 (.mk 4 [] 0 tp [] [] l) _ _):=qd (by have:=k2 4 [] 0 tp; rw [List.map_id'] at this; exact this)
       have A2:Hid (Apt (w0.heap.size+1) ((Value.slice pv l.length cv).ownBlock.toList++ft)):=qd (a2.mono S1.out.size);have Z2:=qd z2;have X2:=qd n2;clear f2 l2 z2 n2 a2 k2)
      | (
       go_at_call 57; refine (HD.out _ S2.out.pr).mono ?_; rintro e w4 ⟨f4,rfl,p4⟩
       have S4:=qd (S2.out.go f4 p4);have N4:=qd (N2.out.fr f4 (fun b hb=>by have:=A2.out.lo b hb; have:=S1.out.lp; simp; omega))
       clear f4 p4)
      | (refine wpList_store_row rfl 34 _ _ rfl w0.heap.size #[.int .i64 4,.string ⟨#[]⟩,.int .i64 0,.int .i64 tp,.slice none 0 0,.slice none 0 0,.slice pv l.length cv] rfl rfl 34 _ S4.out.res (by kernel_rfl) rfl (qL N4.out) ?_))
     exact S4.out.endN Tryz.results190 rfl N4.out A2.out
theorem statement_ok (ts:Ts) (f:Nat) (hE:CN 118 ts (qD ts f)):CN 91 ts (qA ts (f+1)):=by
 intro P g c s w r h hok hr
 have HA:=qd (fun V p=>zI P g c ts s V p hok.lt (by have:=hok.len; omega))
 have HS:=qd (fun V p=>skip_ok P g c ts s 15 V p hok.ok hok.lt)
 have S0:=qd (Sw.start h hok)
 unfold tkv at HA
 unfold qA at hr
 by_cases hst:qi ts 15 s=true
 ·rw [if_pos hst] at hr
  have hsk:qN ts 15 s=(true,qj ts s):=by unfold qN; rw [if_pos hst]
  rw [hsk] at HS;have hq:=hok.take (by rw [qk hst]; decide)
  cases e1:qD ts f (qj ts s) with
  | none=>rw [e1] at hr; cases hr
  | some r1 =>
   rw [e1] at hr;have HE:=qd (fun V p=>hE P g c (qj ts s) V r1 p hq e1)
   clear hE hsk hst hq e1 h hok;generalize qj ts s=st at *;generalize hdT ts s=x at *;obtain ⟨⟨tk,tt,tn⟩,tp⟩:=x
   cases r1 with
   | bad x =>
    injection hr with hr
    subst hr
    go_enter Tryz.func91,Tryz.ntmps91
    have hfd:=fun W=>js (.int .i64 tk) (.string (ba tt)) (.int .i64 tn) (.int .i64 tp) W
    go_wp2_with (first
     | (go_at_call 54; refine (HA.out _ S0.out.pr).mono ?_; rintro e w1 ⟨rfl,b1⟩; have S1:=qd (S0.out.bl b1); clear b1)
     | (go_at_call 85; refine (HS.out _ S1.out.pr).mono ?_; rintro e w2 ⟨rfl,p2,f2⟩; have S2:=qd (S1.out.go f2 p2); clear p2 f2)
     | (go_at_call 118; refine (HE.out _ S2.out.pr).mono ?_; intro e w3 q3; obtain ⟨rfl,f3⟩:=zy q3; have F3:=qd (qu S2.out.fr f3); clear q3 f3))
    exact ⟨rfl,zl F3.out⟩
   | ok n s1 =>
    injection hr with hr
    subst hr
    go_enter Tryz.func91,Tryz.ntmps91
    have hfd:=fun W=>js (.int .i64 tk) (.string (ba tt)) (.int .i64 tn) (.int .i64 tp) W
    go_wp2_with (first
     | (go_at_call 54; refine (HA.out _ S0.out.pr).mono ?_; rintro e w1 ⟨rfl,b1⟩; have S1:=qd (S0.out.bl b1); clear b1)
     | (go_at_call 85; refine (HS.out _ S1.out.pr).mono ?_; rintro e w2 ⟨rfl,p2,f2⟩; have S2:=qd (S1.out.go f2 p2); clear p2 f2)
     | (
      go_at_call 118; refine (HE.out _ S2.out.pr).mono ?_; intro e w3 q3; obtain ⟨c0,c1,c2,c3,c4,c5,c6,ft,rfl,n3,a3,p3,f3⟩:=zK q3
      have S3:=qd ((S2.out.go f3 p3).bl (Bl.alloc w3 (.cells #[c0,c1,c2,c3,c4,c5,c6] 34)));have N3:=qd (NdM.kid 13 [] tp (n3.fr (Fr.alloc [] w3 (.cells #[c0,c1,c2,c3,c4,c5,c6] 34)) (by simp)) (heap_alloc_new w3 _))
      have A3:Hid (Apt (w.heap.size+1) (w3.heap.size :: ft)):=qd ((a3.mono S2.out.size).cons (by have:=S2.out.size; have:=f3.size; omega) (fun hm=>by have:=n3.lt _ hm; omega))
      clear q3 n3 a3 p3 f3)
     | (refine wpList_store_row rfl 34 _ _ rfl w.heap.size #[.int .i64 13,.string ⟨#[]⟩,.int .i64 0,.int .i64 tp,.slice none 0 0,.slice none 0 0,.slice (some ⟨w3.heap.size,0,none⟩) 1 1] rfl rfl 34 _ S3.out.res (by kernel_rfl) rfl (by kernel_rfl) ?_))
    exact S3.out.endN Tryz.results91 rfl N3.out A3.out
 ·rw [if_neg hst] at hr
  have hsk:qN ts 15 s=(false,s):=by unfold qN; rw [if_neg hst]
  rw [hsk] at HS;have HE:=qd (fun V p=>hE P g c s V r p hok hr)
  clear hE hsk hst h hok hr;generalize hdT ts s=x at *;obtain ⟨⟨tk,tt,tn⟩,tp⟩:=x
  cases r with
  | bad x =>
   go_enter Tryz.func91,Tryz.ntmps91
   have hfd:=fun W=>js (.int .i64 tk) (.string (ba tt)) (.int .i64 tn) (.int .i64 tp) W
   go_wp2_with (first
    | (go_at_call 54; refine (HA.out _ S0.out.pr).mono ?_; rintro e w1 ⟨rfl,b1⟩; have S1:=qd (S0.out.bl b1); clear b1)
    | (go_at_call 85; refine (HS.out _ S1.out.pr).mono ?_; rintro e w2 ⟨rfl,p2,f2⟩; have S2:=qd (S1.out.go f2 p2); clear p2 f2)
    | (go_at_call 118; refine (HE.out _ S2.out.pr).mono ?_; intro e w3 q3; obtain ⟨rfl,f3⟩:=zy q3; have F3:=qd (qu S2.out.fr f3); clear q3 f3))
   exact ⟨rfl,zl F3.out⟩
  | ok n s1 =>
   go_enter Tryz.func91,Tryz.ntmps91
   have hfd:=fun W=>js (.int .i64 tk) (.string (ba tt)) (.int .i64 tn) (.int .i64 tp) W
   go_wp2_with (first
    | (go_at_call 54; refine (HA.out _ S0.out.pr).mono ?_; rintro e w1 ⟨rfl,b1⟩; have S1:=qd (S0.out.bl b1); clear b1)
    | (go_at_call 85; refine (HS.out _ S1.out.pr).mono ?_; rintro e w2 ⟨rfl,p2,f2⟩; have S2:=qd (S1.out.go f2 p2); clear p2 f2)
    | (
     go_at_call 118; refine (HE.out _ S2.out.pr).mono ?_; intro e w3 q3; obtain ⟨c0,c1,c2,c3,c4,c5,c6,ft,rfl,n3,a3,p3,f3⟩:=zK q3
     have S3:=qd (S2.out.go f3 p3);have N3:=qd n3;have A3:Hid (Apt (w.heap.size+1) ft):=qd (a3.mono S2.out.size);clear q3 n3 a3 p3 f3)
    | (refine wpList_store_row rfl 34 _ _ rfl w.heap.size #[c0,c1,c2,c3,c4,c5,c6] rfl rfl 34 _ S3.out.res (by kernel_rfl) rfl (qL N3.out) ?_))
   exact S3.out.endN Tryz.results91 rfl N3.out A3.out
theorem element_ok (ts:Ts) (f:Nat) (hL:CN 178 ts (zb ts f)):CN 196 ts (qX ts (f+1)):=by
 intro P g c s w r h hok hr
 have HA:=qd (fun V p=>zI P g c ts s V p hok.lt (by have:=hok.len; omega))
 have HC:=qd (fun V=>isConst_ok (ba (hdT ts s).1.text) V)
 rw [qJ] at HC
 have S0:=qd (Sw.start h hok)
 have HL:=qd (fun V p e=>hL P g c s V r p hok e)
 have HN:=qd (fun V p hk=>named_post (P:=P) (g:=g) (c:=c) (ts:=ts) (s:=s) 0 V p hok hk)
 unfold tkv at HA
 unfold qX at hr
 clear h hok hL
 by_cases hk:(hdT ts s).1.kind=1
 ·have HN2:=qd (fun V p=>HN.out V p hk)
  cases hc:constB (hdT ts s).1.text with
  | true =>
   rw [if_pos ⟨hk,hc⟩] at hr;injection hr with hr
   rw [hr] at HN2;rw [hc] at HC;have k1:(((hdT ts s).1.kind:Int) == 1)=true:=by rw [hk]; rfl
   clear HN HL hk hc hr;generalize hdT ts s=x at *;obtain ⟨⟨tk,tt,tn⟩,tp⟩:=x;dsimp only at *
   cases r with
   | bad x =>
    go_enter Tryz.func196,Tryz.ntmps196
    go_wp2_with (first
     | (go_at_call 54; refine (HA.out _ S0.out.pr).mono ?_; rintro e w1 ⟨rfl,b1⟩; have S1:=qd ((S0.out.bl b1).bl (Bl.alloc w1 (.cells #[.int .i64 tk,.string (ba tt),.int .i64 tn,.int .i64 tp] 54))); clear b1)
     | (go_at_call 127; refine (HC.out _).mono ?_; rintro e w3 ⟨rfl,h3⟩; have h4:=h3.symm; subst h4)
     | (go_at_call 176; refine (HN2.out _ S1.out.pr).mono ?_; intro e w9 q9; obtain ⟨rfl,f9⟩:=zy q9; have F9:=qd (qu S1.out.fr f9); clear q9 f9))
    exact ⟨rfl,zl F9.out⟩
   | ok n s1 =>
    go_enter Tryz.func196,Tryz.ntmps196
    go_wp2_with (first
     | (go_at_call 54; refine (HA.out _ S0.out.pr).mono ?_; rintro e w1 ⟨rfl,b1⟩; have S1:=qd ((S0.out.bl b1).bl (Bl.alloc w1 (.cells #[.int .i64 tk,.string (ba tt),.int .i64 tn,.int .i64 tp] 54))); clear b1)
     | (go_at_call 127; refine (HC.out _).mono ?_; rintro e w3 ⟨rfl,h3⟩; have h4:=h3.symm; subst h4)
     | (
      go_at_call 176; refine (HN2.out _ S1.out.pr).mono ?_; intro e w9 q9; obtain ⟨c0,c1,c2,c3,c4,c5,c6,ft,rfl,n9,a9,p9,f9⟩:=zK q9
      have S9:=qd (S1.out.go f9 p9);have N9:=qd n9;have A9:Hid (Apt (w.heap.size+1) ft):=qd (a9.mono S1.out.size);clear q9 n9 a9 p9 f9)
     | (refine wpList_store_row rfl 34 _ _ rfl w.heap.size #[c0,c1,c2,c3,c4,c5,c6] rfl rfl 34 _ S9.out.res (by kernel_rfl) rfl (qL N9.out) ?_))
    exact S9.out.endN Tryz.results196 rfl N9.out A9.out
  | false =>
   rw [if_neg (by rintro ⟨_,h⟩; rw [hc] at h; cases h)] at hr
   have HL2:=qd (fun V p=>HL.out V p hr)
   rw [hc] at HC;have k1:(((hdT ts s).1.kind:Int) == 1)=true:=by rw [hk]; rfl
   clear HN HL HN2 hk hc hr;generalize hdT ts s=x at *;obtain ⟨⟨tk,tt,tn⟩,tp⟩:=x;dsimp only at *
   cases r with
   | bad x =>
    go_enter Tryz.func196,Tryz.ntmps196
    go_wp2_with (first
     | (go_at_call 54; refine (HA.out _ S0.out.pr).mono ?_; rintro e w1 ⟨rfl,b1⟩; have S1:=qd ((S0.out.bl b1).bl (Bl.alloc w1 (.cells #[.int .i64 tk,.string (ba tt),.int .i64 tn,.int .i64 tp] 54))); clear b1)
     | (go_at_call 127; refine (HC.out _).mono ?_; rintro e w3 ⟨rfl,h3⟩; have h4:=h3.symm; subst h4)
     | (go_at_call 178; refine (HL2.out _ S1.out.pr).mono ?_; intro e w9 q9; obtain ⟨rfl,f9⟩:=zy q9; have F9:=qd (qu S1.out.fr f9); clear q9 f9))
    exact ⟨rfl,zl F9.out⟩
   | ok n s1 =>
    go_enter Tryz.func196,Tryz.ntmps196
    go_wp2_with (first
     | (go_at_call 54; refine (HA.out _ S0.out.pr).mono ?_; rintro e w1 ⟨rfl,b1⟩; have S1:=qd ((S0.out.bl b1).bl (Bl.alloc w1 (.cells #[.int .i64 tk,.string (ba tt),.int .i64 tn,.int .i64 tp] 54))); clear b1)
     | (go_at_call 127; refine (HC.out _).mono ?_; rintro e w3 ⟨rfl,h3⟩; have h4:=h3.symm; subst h4)
     | (
      go_at_call 178; refine (HL2.out _ S1.out.pr).mono ?_; intro e w9 q9; obtain ⟨c0,c1,c2,c3,c4,c5,c6,ft,rfl,n9,a9,p9,f9⟩:=zK q9
      have S9:=qd (S1.out.go f9 p9);have N9:=qd n9;have A9:Hid (Apt (w.heap.size+1) ft):=qd (a9.mono S1.out.size);clear q9 n9 a9 p9 f9)
     | (refine wpList_store_row rfl 34 _ _ rfl w.heap.size #[c0,c1,c2,c3,c4,c5,c6] rfl rfl 34 _ S9.out.res (by kernel_rfl) rfl (qL N9.out) ?_))
    exact S9.out.endN Tryz.results196 rfl N9.out A9.out
 ·rw [if_neg (by rintro ⟨h,_⟩; exact hk h)] at hr
  have HL2:=qd (fun V p=>HL.out V p hr)
  have k1:(((hdT ts s).1.kind:Int) == 1)=false:=beq_eq_false_iff_ne.2 (by omega)
  clear HN HL hk hr;generalize hdT ts s=x at *;obtain ⟨⟨tk,tt,tn⟩,tp⟩:=x;dsimp only at *
  cases r with
  | bad x =>
   go_enter Tryz.func196,Tryz.ntmps196
   go_wp2_with (first
    | (go_at_call 54; refine (HA.out _ S0.out.pr).mono ?_; rintro e w1 ⟨rfl,b1⟩; have S1:=qd ((S0.out.bl b1).bl (Bl.alloc w1 (.cells #[.int .i64 tk,.string (ba tt),.int .i64 tn,.int .i64 tp] 54))); clear b1)
    | (go_at_call 127; refine (HC.out _).mono ?_; rintro e w3 ⟨rfl,h3⟩; have h4:=h3.symm; subst h4)
    | (go_at_call 178; refine (HL2.out _ S1.out.pr).mono ?_; intro e w9 q9; obtain ⟨rfl,f9⟩:=zy q9; have F9:=qd (qu S1.out.fr f9); clear q9 f9))
   exact ⟨rfl,zl F9.out⟩
  | ok n s1 =>
   go_enter Tryz.func196,Tryz.ntmps196
   go_wp2_with (first
    | (go_at_call 54; refine (HA.out _ S0.out.pr).mono ?_; rintro e w1 ⟨rfl,b1⟩; have S1:=qd ((S0.out.bl b1).bl (Bl.alloc w1 (.cells #[.int .i64 tk,.string (ba tt),.int .i64 tn,.int .i64 tp] 54))); clear b1)
    | (go_at_call 127; refine (HC.out _).mono ?_; rintro e w3 ⟨rfl,h3⟩; have h4:=h3.symm; subst h4)
    | (
     go_at_call 178; refine (HL2.out _ S1.out.pr).mono ?_; intro e w9 q9; obtain ⟨c0,c1,c2,c3,c4,c5,c6,ft,rfl,n9,a9,p9,f9⟩:=zK q9
     have S9:=qd (S1.out.go f9 p9);have N9:=qd n9;have A9:Hid (Apt (w.heap.size+1) ft):=qd (a9.mono S1.out.size);clear q9 n9 a9 p9 f9)
    | (refine wpList_store_row rfl 34 _ _ rfl w.heap.size #[c0,c1,c2,c3,c4,c5,c6] rfl rfl 34 _ S9.out.res (by kernel_rfl) rfl (qL N9.out) ?_))
   exact S9.out.endN Tryz.results196 rfl N9.out A9.out
theorem primary_ok (ts:Ts) (f most:Nat) (hE:CN 118 ts (qD ts f)) (hB:∀ P g c s w r,Pr w P g c ts s→Okq ts s→(hdT ts s).1.kind=10→zO ts f s=some r→Calls Tryz.prog 177 #[.pointer (some ⟨P,0,none⟩)] w (PostN P g c ts w r)) (hL:CN 178 ts (zb ts f)) :
  ∀ P g c s w r,Pr w P g c ts s→Okq ts s→ze ts (f+1) most s=some r→Calls Tryz.prog 163 #[.pointer (some ⟨P,0,none⟩),.int .i64 most] w (PostN P g c ts w r):=by
 intro P g c s w r h hok hr
 have HA:=qd (fun V p=>zI P g c ts s V p hok.lt (by have:=hok.len; omega))
 have S0:=qd (Sw.start h hok)
 have HL:=qd (fun V p e=>hL P g c s V r p hok e)
 have HN:=qd (fun V p hk=>named_post (P:=P) (g:=g) (c:=c) (ts:=ts) (s:=s) most V p hok hk)
 have HB:=qd (fun V p hk e=>hB P g c s V r p hok hk e)
 have HT:=qd (fun V p=>zY P g c ts s V p hok.ok hok.lt)
 unfold tkv at HA HT
 unfold ze at hr
 clear h hL hB
 by_cases hk:(hdT ts s).1.kind=1
 ·rw [if_pos hk] at hr
  have HN2:=qd (fun V p=>HN.out V p hk)
  injection hr with hr
  rw [hr] at HN2;have k1:(((hdT ts s).1.kind:Int) == 1)=true:=by rw [hk]; rfl
  clear HN HL HB HT hk hr hok hE;generalize hdT ts s=x at *;obtain ⟨⟨tk,tt,tn⟩,tp⟩:=x;dsimp only at *
  cases r with
  | bad x =>
   go_enter Tryz.func163,Tryz.ntmps163
   go_wp2_with (first
    | (go_at_call 54; refine (HA.out _ S0.out.pr).mono ?_; rintro e w1 ⟨rfl,b1⟩; have S1:=qd ((S0.out.bl b1).bl (Bl.alloc w1 (.cells #[.int .i64 tk,.string (ba tt),.int .i64 tn,.int .i64 tp] 54))); clear b1)
    | (go_at_call 176; refine (HN2.out _ S1.out.pr).mono ?_; intro e w9 q9; obtain ⟨rfl,f9⟩:=zy q9; have F9:=qd (qu S1.out.fr f9); clear q9 f9))
   exact ⟨rfl,zl F9.out⟩
  | ok n s1 =>
   go_enter Tryz.func163,Tryz.ntmps163
   go_wp2_with (first
    | (go_at_call 54; refine (HA.out _ S0.out.pr).mono ?_; rintro e w1 ⟨rfl,b1⟩; have S1:=qd ((S0.out.bl b1).bl (Bl.alloc w1 (.cells #[.int .i64 tk,.string (ba tt),.int .i64 tn,.int .i64 tp] 54))); clear b1)
    | (
     go_at_call 176; refine (HN2.out _ S1.out.pr).mono ?_; intro e w9 q9; obtain ⟨c0,c1,c2,c3,c4,c5,c6,ft,rfl,n9,a9,p9,f9⟩:=zK q9
     have S9:=qd (S1.out.go f9 p9);have N9:=qd n9;have A9:Hid (Apt (w.heap.size+1) ft):=qd (a9.mono S1.out.size);clear q9 n9 a9 p9 f9)
    | (refine wpList_store_row rfl 34 _ _ rfl w.heap.size #[c0,c1,c2,c3,c4,c5,c6] rfl rfl 34 _ S9.out.res (by kernel_rfl) rfl (qL N9.out) ?_))
   exact S9.out.endN Tryz.results163 rfl N9.out A9.out
 rw [if_neg hk] at hr
 have k1:(((hdT ts s).1.kind:Int) == 1)=false:=beq_eq_false_iff_ne.2 (by omega)
 by_cases h8:(hdT ts s).1.kind=8
 ·rw [if_pos h8] at hr
  have k8:(((hdT ts s).1.kind:Int) == 8)=true:=by rw [h8]; rfl
  have hq:=hok.take (by rw [h8]; decide)
  cases e1:qD ts f (qj ts s) with
  | none=>rw [e1] at hr; cases hr
  | some r1 =>
   rw [e1] at hr;have HE:=qd (fun V p=>hE P g c (qj ts s) V r1 p hq e1)
   have hpg:=(zS ts f).expr (qj ts s) hq;clear HN HL HB hk h8 hE hok;generalize qj ts s=st at *;generalize hdT ts s=x at *;obtain ⟨⟨tk,tt,tn⟩,tp⟩:=x;dsimp only at *
   cases r1 with
   | bad y =>
    injection hr with hr
    subst hr;clear hpg e1 hq
    go_enter Tryz.func163,Tryz.ntmps163
    go_wp2_with (first
     | (go_at_call 54; refine (HA.out _ S0.out.pr).mono ?_; rintro e w1 ⟨rfl,b1⟩; have S1:=qd ((S0.out.bl b1).bl (Bl.alloc w1 (.cells #[.int .i64 tk,.string (ba tt),.int .i64 tn,.int .i64 tp] 54))); clear b1)
     | (go_at_call 80; refine (HT.out _ S1.out.pr).mono ?_; rintro e w2 ⟨rfl,p2,f2⟩; have S2:=qd (S1.out.go f2 p2); clear p2 f2)
     | (go_at_call 118; refine (HE.out _ S2.out.pr).mono ?_; intro e w9 q9; obtain ⟨rfl,f9⟩:=zy q9; have F9:=qd (qu S2.out.fr f9); clear q9 f9))
    exact ⟨rfl,zl F9.out⟩
   | ok n s1 =>
    obtain ⟨_,hq1⟩:=hpg n s1 e1;have HD:=qd (fun V p=>need_ok P g c ts s1 9 V p hq1.ok hq1.lt)
    replace hr:(match qS ts 9 s1 with | .bad x=>some (.bad x) | .ok _ s2=>some (.ok n s2))=some r:=hr
    clear hpg e1 hq hq1
    cases en:qS ts 9 s1 with
    | bad y =>
     rw [en] at hr HD;injection hr with hr
     subst hr
     go_enter Tryz.func163,Tryz.ntmps163
     go_wp2_with (first
      | (go_at_call 54; refine (HA.out _ S0.out.pr).mono ?_; rintro e w1 ⟨rfl,b1⟩; have S1:=qd ((S0.out.bl b1).bl (Bl.alloc w1 (.cells #[.int .i64 tk,.string (ba tt),.int .i64 tn,.int .i64 tp] 54))); clear b1)
      | (go_at_call 80; refine (HT.out _ S1.out.pr).mono ?_; rintro e w2 ⟨rfl,p2,f2⟩; have S2:=qd (S1.out.go f2 p2); clear p2 f2)
      | (
       go_at_call 118; refine (HE.out _ S2.out.pr).mono ?_; intro e w3 q3; obtain ⟨c0,c1,c2,c3,c4,c5,c6,ft,rfl,n3,a3,p3,f3⟩:=zK q3
       have S3:=qd ((S2.out.go f3 p3).bl (Bl.alloc w3 (.cells #[.int .i64 0,.string ⟨#[]⟩,.int .i64 0,.int .i64 0,.slice none 0 0,.slice none 0 0,.slice none 0 0] 34)));have S4:Hid (Sw w ((w3.alloc (.cells #[.int .i64 0,.string ⟨#[]⟩,.int .i64 0,.int .i64 0,.slice none 0 0,.slice none 0 0,.slice none 0 0] 34)).setRow w3.heap.size #[c0,c1,c2,c3,c4,c5,c6]) P g c ts s1):=qd (S3.out.row w3.heap.size #[c0,c1,c2,c3,c4,c5,c6] (by have:=S2.out.size; have:=f3.size; omega))
       have N3:=qd n3;have R3:=qd (heap_alloc_new w3 (.cells #[.int .i64 0,.string ⟨#[]⟩,.int .i64 0,.int .i64 0,.slice none 0 0,.slice none 0 0,.slice none 0 0] 34));clear q3 n3 a3 p3 f3)
      | (refine wpList_store_row rfl 34 _ _ rfl w3.heap.size #[c0,c1,c2,c3,c4,c5,c6] rfl rfl 34 _ R3.out (by kernel_rfl) rfl (qL N3.out) ?_)
      | (go_at_call 57; refine (HD.out _ S4.out.pr).mono ?_; rintro e w5 ⟨f5,rfl⟩; have F5:=qd (qu S4.out.fr f5); clear f5))
     exact ⟨rfl,zl F5.out⟩
    | ok y s2 =>
     rw [en] at hr HD;injection hr with hr
     subst hr
     go_enter Tryz.func163,Tryz.ntmps163
     go_wp2_with (first
      | (go_at_call 54; refine (HA.out _ S0.out.pr).mono ?_; rintro e w1 ⟨rfl,b1⟩; have S1:=qd ((S0.out.bl b1).bl (Bl.alloc w1 (.cells #[.int .i64 tk,.string (ba tt),.int .i64 tn,.int .i64 tp] 54))); clear b1)
      | (go_at_call 80; refine (HT.out _ S1.out.pr).mono ?_; rintro e w2 ⟨rfl,p2,f2⟩; have S2:=qd (S1.out.go f2 p2); clear p2 f2)
      | (
       go_at_call 118; refine (HE.out _ S2.out.pr).mono ?_; intro e w3 q3; obtain ⟨c0,c1,c2,c3,c4,c5,c6,ft,rfl,n3,a3,p3,f3⟩:=zK q3
       have hsz:w.heap.size < w3.heap.size:=by have:=S2.out.size; have:=f3.size; omega
       have S3:=qd ((S2.out.go f3 p3).bl (Bl.alloc w3 (.cells #[.int .i64 0,.string ⟨#[]⟩,.int .i64 0,.int .i64 0,.slice none 0 0,.slice none 0 0,.slice none 0 0] 34)));have R3:=qd (heap_alloc_new w3 (.cells #[.int .i64 0,.string ⟨#[]⟩,.int .i64 0,.int .i64 0,.slice none 0 0,.slice none 0 0,.slice none 0 0] 34));obtain ⟨W4,hW4⟩:∃ W,(w3.alloc (.cells #[.int .i64 0,.string ⟨#[]⟩,.int .i64 0,.int .i64 0,.slice none 0 0,.slice none 0 0,.slice none 0 0] 34)).setRow w3.heap.size #[c0,c1,c2,c3,c4,c5,c6]=W:=⟨_,rfl⟩;have S4:Hid (Sw w W4 P g c ts s1):=qd (hW4▸S3.out.row w3.heap.size #[c0,c1,c2,c3,c4,c5,c6] hsz);have R4:Hid (W4.heap[w3.heap.size]?=some (.cells #[c0,c1,c2,c3,c4,c5,c6] 34 (0,0))):=qd (hW4▸setRow_heap _ _ _ _ 34 (0,0) R3.out);have N4:Hid (NdM W4 n (.agg #[c0,c1,c2,c3,c4,c5,c6]) ft):=qd (hW4▸(n3.fr (Fr.alloc [] w3 _) (by simp)).fr (qG _ _ _) (fun b hb=>by have:=n3.lt b hb; simp; omega))
       have A4:Hid (Apt (w.heap.size+1) ft):=qd (a3.mono S2.out.size);have L4:Hid (∀ b∈ft,b < w3.heap.size):=qd n3.lt;clear q3 n3 a3 p3 f3)
      | (refine wpList_store_row rfl 34 _ _ rfl w3.heap.size #[c0,c1,c2,c3,c4,c5,c6] rfl rfl 34 _ R3.out (by kernel_rfl) rfl (qL N4.out) ?_; rw [hW4])
      | (
       go_at_call 57; refine (HD.out _ S4.out.pr).mono ?_; rintro e w5 ⟨f5,rfl,p5⟩
       have S5:=qd (S4.out.go f5 p5);have hne:w3.heap.size≠P:=by have:=S4.out.lp; omega
       have R5:Hid (w5.heap[w3.heap.size]?=some (.cells #[c0,c1,c2,c3,c4,c5,c6] 34 (0,0))):=qd ((f5.block _ (qf R4.out) (by simpa using hne)).trans R4.out)
       have N5:Hid (NdM w5 n (.agg #[c0,c1,c2,c3,c4,c5,c6]) ft):=qd (N4.out.fr f5 (fun b hb=>by have:=A4.out.lo b hb; have:=S4.out.lp; simp; omega))
       obtain ⟨x0,x1,x2,x3,x4,x5,x6⟩:=zp R5.out;clear f5 p5)
      | (refine wpList_store_row rfl 34 _ _ rfl w.heap.size #[c0,c1,c2,c3,c4,c5,c6] rfl rfl 34 _ S5.out.res (by kernel_rfl) rfl (qL N5.out) ?_))
     exact S5.out.endN Tryz.results163 rfl N5.out A4.out
 rw [if_neg h8] at hr
 have k8:(((hdT ts s).1.kind:Int) == 8)=false:=beq_eq_false_iff_ne.2 (by omega)
 by_cases h10:(hdT ts s).1.kind=10
 ·rw [if_pos h10] at hr
  have HB2:=qd (fun V p=>HB.out V p h10 hr)
  have k10:(((hdT ts s).1.kind:Int) == 10)=true:=by rw [h10]; rfl
  clear HN HL HB HT hk h8 h10 hr hok hE;generalize hdT ts s=x at *;obtain ⟨⟨tk,tt,tn⟩,tp⟩:=x;dsimp only at *
  cases r with
  | bad x =>
   go_enter Tryz.func163,Tryz.ntmps163
   go_wp2_with (first
    | (go_at_call 54; refine (HA.out _ S0.out.pr).mono ?_; rintro e w1 ⟨rfl,b1⟩; have S1:=qd ((S0.out.bl b1).bl (Bl.alloc w1 (.cells #[.int .i64 tk,.string (ba tt),.int .i64 tn,.int .i64 tp] 54))); clear b1)
    | (go_at_call 177; refine (HB2.out _ S1.out.pr).mono ?_; intro e w9 q9; obtain ⟨rfl,f9⟩:=zy q9; have F9:=qd (qu S1.out.fr f9); clear q9 f9))
   exact ⟨rfl,zl F9.out⟩
  | ok n s1 =>
   go_enter Tryz.func163,Tryz.ntmps163
   go_wp2_with (first
    | (go_at_call 54; refine (HA.out _ S0.out.pr).mono ?_; rintro e w1 ⟨rfl,b1⟩; have S1:=qd ((S0.out.bl b1).bl (Bl.alloc w1 (.cells #[.int .i64 tk,.string (ba tt),.int .i64 tn,.int .i64 tp] 54))); clear b1)
    | (
     go_at_call 177; refine (HB2.out _ S1.out.pr).mono ?_; intro e w9 q9; obtain ⟨c0,c1,c2,c3,c4,c5,c6,ft,rfl,n9,a9,p9,f9⟩:=zK q9
     have S9:=qd (S1.out.go f9 p9);have N9:=qd n9;have A9:Hid (Apt (w.heap.size+1) ft):=qd (a9.mono S1.out.size);clear q9 n9 a9 p9 f9)
    | (refine wpList_store_row rfl 34 _ _ rfl w.heap.size #[c0,c1,c2,c3,c4,c5,c6] rfl rfl 34 _ S9.out.res (by kernel_rfl) rfl (qL N9.out) ?_))
   exact S9.out.endN Tryz.results163 rfl N9.out A9.out
 ·rw [if_neg h10] at hr
  have HL2:=qd (fun V p=>HL.out V p hr)
  have k10:(((hdT ts s).1.kind:Int) == 10)=false:=beq_eq_false_iff_ne.2 (by omega)
  clear HN HL HB HT hk h8 h10 hr hok hE;generalize hdT ts s=x at *;obtain ⟨⟨tk,tt,tn⟩,tp⟩:=x;dsimp only at *
  cases r with
  | bad x =>
   go_enter Tryz.func163,Tryz.ntmps163
   go_wp2_with (first
    | (go_at_call 54; refine (HA.out _ S0.out.pr).mono ?_; rintro e w1 ⟨rfl,b1⟩; have S1:=qd ((S0.out.bl b1).bl (Bl.alloc w1 (.cells #[.int .i64 tk,.string (ba tt),.int .i64 tn,.int .i64 tp] 54))); clear b1)
    | (go_at_call 178; refine (HL2.out _ S1.out.pr).mono ?_; intro e w9 q9; obtain ⟨rfl,f9⟩:=zy q9; have F9:=qd (qu S1.out.fr f9); clear q9 f9))
   exact ⟨rfl,zl F9.out⟩
  | ok n s1 =>
   go_enter Tryz.func163,Tryz.ntmps163
   go_wp2_with (first
    | (go_at_call 54; refine (HA.out _ S0.out.pr).mono ?_; rintro e w1 ⟨rfl,b1⟩; have S1:=qd ((S0.out.bl b1).bl (Bl.alloc w1 (.cells #[.int .i64 tk,.string (ba tt),.int .i64 tn,.int .i64 tp] 54))); clear b1)
    | (
     go_at_call 178; refine (HL2.out _ S1.out.pr).mono ?_; intro e w9 q9; obtain ⟨c0,c1,c2,c3,c4,c5,c6,ft,rfl,n9,a9,p9,f9⟩:=zK q9
     have S9:=qd (S1.out.go f9 p9);have N9:=qd n9;have A9:Hid (Apt (w.heap.size+1) ft):=qd (a9.mono S1.out.size);clear q9 n9 a9 p9 f9)
    | (refine wpList_store_row rfl 34 _ _ rfl w.heap.size #[c0,c1,c2,c3,c4,c5,c6] rfl rfl 34 _ S9.out.res (by kernel_rfl) rfl (qL N9.out) ?_))
   exact S9.out.endN Tryz.results163 rfl N9.out A9.out
end Go.Proofs.YtfhkhmgodkheaaaGreatDoor
