import Derived.Test.YtfhkhmgodkheaaaGreatDoorQCG34TN1
set_option linter.unusedSimpArgs false
set_option linter.unusedVariables false
set_option maxRecDepth 1000000
set_option maxHeartbeats 16000000
namespace Go.Proofs.YtfhkhmgodkheaaaGreatDoor
open Go.RowKit Go.Maps
theorem listPc_one (n:Nt) (s:Bs):zJ [n] s true=qP n:=by simp [zJ]
theorem nd4 (n:Nt) (hk:n.kind=4) (hX:∀ i,i < n.kids.length→CW (n.kids.getD i qE)):CW n:=by
 intro w0 b l w kb ko hb hE hnt h
 obtain ⟨sn,sk,hn⟩:=hnt.nod
 have k:=hn.keep hb
 have c0:=k.c0
 have e:Hid (qH l (qP n)=zU (qH (zU l [35,40]) (zJ n.kids [32] true)) [41]):=qd (by rw [zW,hk]; simp [qP,zw,jh,jR])
 rw [hk] at c0
 have HN:=qd (fun V (hV:Bl w0 V)=>(hn.keep hV).c6)
 have HA1:=qd (jz w0 b l [35,40] w hb h (by decide))
 have HL:=qd (fun (l':Bs) V (hV:Bl w0 V) (hw:Wt w0.heap.size b l' V)=>list_ok w0 b l' [32] sk n.kids V hV hE hw (by decide) hn.rn hX)
 have HA2:=qd (fun (l':Bs) V (hV:Bl w0 V) (hw:Wt w0.heap.size b l' V)=>jz w0 b l' [41] V hV hw (by decide))
 have HB:=qd hb
 generalize qP n=P at *
 clear h hn k hnt hE hk hX hb
 go_enter Tryz.func109,Tryz.ntmps109
 go_wp2_with (first
  | (go_at_call 68; refine HA1.out.mono ?_; clear HA1; rintro e w1 ⟨rfl,k1⟩; have c6:=HN.out _ (k1.bl HB.out))
  | (go_at_call 70; refine (HL.out _ _ (k1.bl HB.out) k1.wt).mono ?_; rintro e w2 ⟨rfl,k2'⟩; have k2:=k1.trans k2')
  | (go_at_call 68; refine (HA2.out _ _ (k2.bl HB.out) k2.wt).mono ?_; rintro e w3 ⟨rfl,k3⟩))
 go_end0
 exact ⟨rfl,by rw [e.out]; exact k2.trans k3⟩
theorem nd8 (n:Nt) (hk:n.kind=8) (h1:n.kids.length=1) (hX:CW (n.kids.getD 0 qE)):CW n:=by
 intro w0 b l w kb ko hb hE hnt h
 obtain ⟨sn,sk,hn⟩:=hnt.nod
 have k:=hn.keep hb
 have c0:=k.c0
 have c1:=k.c1
 have e:Hid (qH l (qP n)=qH (zU l (n.text++[32,58,61,32])) (qP (n.kids.getD 0 qE))):=qd (by
  obtain ⟨a,ha⟩:=List.length_eq_one_iff.1 h1;rw [zW,hk,ha]; simp [qP,jh,listPc_one])
 rw [hk] at c0
 have ht:=hn.t
 obtain ⟨p,c,ek,_,_⟩:=hn.rn.slc
 subst ek
 obtain ⟨xb,xo,hp,hnd⟩:=hn.rn.at_ 0 (by omega)
 subst hp
 rw [show xo+0 * 7=xo by omega] at hnd
 have HN:=qd (fun V (hV:Bl w0 V)=>(hn.keep hV).c6)
 have HA1:=qd (jz w0 b l (n.text++[32,58,61,32]) w hb h (by rw [List.length_append]; show _+4≤_; omega))
 have HX:=qd (fun (l':Bs) V (hV:Bl w0 V) (hw:Wt w0.heap.size b l' V)=>hX w0 b l' V xb xo hV hE hnd hw)
 have HB:=qd hb
 have hcat:ba n.text++(⟨#[32,58,61,32]⟩:ByteArray)=ba (n.text++[32,58,61,32]):=ba_app n.text [32,58,61,32]
 have hsz:(ba n.text).size=n.text.length:=by rw [← qo,qJ]
 generalize qP n=P at *
 generalize qP (n.kids.getD 0 qE)=Q at *
 have i0:(0:Int) < (n.kids.length:Int):=by omega
 generalize n.kids.length=kl at *
 subst h1
 clear h hn k hnt hE hk hX hb hnd
 go_enter Tryz.func109,Tryz.ntmps109
 go_wp2_with (first
  | (go_at_call 68; refine HA1.out.mono ?_; clear HA1; rintro e w1 ⟨rfl,k1⟩; have c6:=HN.out _ (k1.bl HB.out))
  | (go_at_call 109; refine (HX.out _ _ (k1.bl HB.out) k1.wt).mono ?_; rintro e w2 ⟨rfl,k2⟩))
 go_end0
 exact ⟨rfl,by rw [e.out]; exact k1.trans k2⟩
theorem nd13 (n:Nt) (hk:n.kind=13) (h1:n.kids.length=1) (hX:CW (n.kids.getD 0 qE)):CW n:=by
 intro w0 b l w kb ko hb hE hnt h
 obtain ⟨sn,sk,hn⟩:=hnt.nod
 have k:=hn.keep hb
 have c0:=k.c0
 have e:Hid (qH l (qP n)=qH (zU l [94]) (qP (n.kids.getD 0 qE))):=qd (by
  obtain ⟨a,ha⟩:=List.length_eq_one_iff.1 h1;rw [zW,hk,ha]; simp [qP,jh,listPc_one])
 rw [hk] at c0
 obtain ⟨p,c,ek,_,_⟩:=hn.rn.slc
 subst ek
 obtain ⟨xb,xo,hp,hnd⟩:=hn.rn.at_ 0 (by omega)
 subst hp
 rw [show xo+0 * 7=xo by omega] at hnd
 have HN:=qd (fun V (hV:Bl w0 V)=>(hn.keep hV).c6)
 have HA1:=qd (jz w0 b l [94] w hb h (by decide))
 have HX:=qd (fun (l':Bs) V (hV:Bl w0 V) (hw:Wt w0.heap.size b l' V)=>hX w0 b l' V xb xo hV hE hnd hw)
 have HB:=qd hb
 generalize qP n=P at *
 generalize qP (n.kids.getD 0 qE)=Q at *
 have i0:(0:Int) < (n.kids.length:Int):=by omega
 generalize n.kids.length=kl at *
 subst h1
 clear h hn k hnt hE hk hX hb hnd
 go_enter Tryz.func109,Tryz.ntmps109
 go_wp2_with (first
  | (go_at_call 68; refine HA1.out.mono ?_; clear HA1; rintro e w1 ⟨rfl,k1⟩; have c6:=HN.out _ (k1.bl HB.out))
  | (go_at_call 109; refine (HX.out _ _ (k1.bl HB.out) k1.wt).mono ?_; rintro e w2 ⟨rfl,k2⟩))
 go_end0
 exact ⟨rfl,by rw [e.out]; exact k1.trans k2⟩
theorem node12 (n:Nt) (hk:n.kind=12) (m:Nat) (hm:n.num=m):qP n=blockPc m n.names n.kids:=by
 rw [zW,hk,hm]
 have e1:((0:Int) < (m:Int))=(0 < m):=by simp
 unfold blockPc jt blkPc
 simp only [qP]
 have e2:(decide (0 < m) || decide (n.names.drop m≠[]))=true ↔ (0 < m∨m < n.names.length):=by simp
 simp [e1]
theorem nd12 (n:Nt) (hk:n.kind=12) (h0:0≤n.num∧n.num≤8∧n.num≤n.names.length) (hN:nmsB n.names=true) (hX:∀ i,i < n.kids.length→CW (n.kids.getD i qE)):CW n:=by
 intro w0 b l w kb ko hb hE hnt h
 obtain ⟨sn,sk,hn⟩:=hnt.nod
 have hN':∀ y∈n.names,y.length≤268435456:=fun y hy=>by
  have:=List.all_eq_true.1 hN y hy;unfold nmB at this;simp at this;omega
 obtain ⟨m,hm⟩:∃ m:Nat,n.num=m:=⟨n.num.toNat,by omega⟩
 have hml:m≤n.names.length:=by omega
 have hm8:m≤8:=by omega
 have k:=hn.keep hb
 have c0:=k.c0
 obtain ⟨pn,cn,en,hcn,hpn⟩:=hn.rs
 have HBk:Calls Tryz.prog 135 #[.pointer (some ⟨b,0,none⟩),.pointer (some ⟨kb,ko,none⟩)] w (RW w0 b (qH l (qP n)) w):=by
  rw [node12 n hk m hm]
  by_cases hm0:m=0
  ·subst hm0
   exact wblock0 w0 b kb ko 0 cn pn sk sn l n.names n.kids n w hb hE h hn (by rw [hm]; rfl) rfl rfl en hN' hX
  ·have hm1:0 < m:=Nat.pos_of_ne_zero hm0
   obtain ⟨g,off,hp,hg,hcs⟩:=hpn (by omega)
   subst hp;obtain ⟨nx,hnx⟩:∃ nx,(cn=m∧nx=off)∨(cn≠m∧nx=off+m):=by
    by_cases hc:cn=m
    ·exact ⟨off,Or.inl ⟨hc,rfl⟩⟩
    ·exact ⟨off+m,Or.inr ⟨hc,rfl⟩⟩
   exact wblock1 w0 b kb ko 0 cn sk sn l n.names n.kids n w g off m nx hm1 hml hm8 hnx hb hE h hn hm rfl rfl en hN' hX
 have HB:=qd HBk
 rw [hk] at c0
 generalize qP n=P at *
 clear h hn k hnt hE hk hX hb hN hN' HBk hcn hpn
 go_enter Tryz.func109,Tryz.ntmps109
 go_wp2_with (go_at_call 135; refine HB.out.mono ?_; rintro e w2 ⟨rfl,k2⟩)
 go_end0
 exact ⟨rfl,k2⟩
structure Fits (t:Bs) (n:Nat):Prop where
 lo:1≤qI t
 hi:qI t≤3
 two:qI t=2→0 < n
 three:qI t=3→(zo (jq t)).length=n
theorem nd11 (n:Nt) (hk:n.kind=11) (hF:Fits n.text n.kids.length) (hX:∀ i,i < n.kids.length→CW (n.kids.getD i qE)):CW n:=by
 intro w0 b l w kb ko hb hE hnt h
 obtain ⟨sn,sk,hn⟩:=hnt.nod
 have k:=hn.keep hb
 have c0:=k.c0
 have e:Hid (qH l (qP n)=qH l (zk n.text (ji n.kids (qI n.text - 1)))):=qd (by rw [zW,hk]; simp [qP])
 rw [hk] at c0
 have HS:Hid (∀ V,Hid (Bl w0 V)→V.cell? ⟨kb,ko+1,none⟩=some (.string (ba n.text))∧V.cell? ⟨kb,ko+6,none⟩=some sk):=qd (fun V hV=>⟨(hn.keep hV.out).c1,(hn.keep hV.out).c6⟩)
 have HMs:=qd (fun (l':Bs) V (hV:Bl w0 V) (hw:Wt w0.heap.size b l' V)=>wmessage_ok w0 b l' n.text sk n.kids V hV hE hw hn.rn hX hn.t ⟨hF.lo,hF.hi⟩ hF.two hF.three)
 have hR:Hid (Bl w0 w):=qd hb
 have D1:=qd (Wk.ofBl h hb (qV w))
 generalize qP n=P at *
 generalize zk n.text (ji n.kids (qI n.text - 1))=Q at *
 generalize n.text=tx at *
 clear h hn k hnt hE hk hX hb hF
 go_enter Tryz.func109,Tryz.ntmps109
 go_wp2_with fail
 refine wp_region_held_drew (S:=fun V=>V.cell? ⟨kb,ko+1,none⟩=some (.string (ba tx))∧V.cell? ⟨kb,ko+6,none⟩=some sk) (by kernel_rfl) (HS.out _ (hbd hR)) (fun hHeld=>?_)
 refine tq (i:=0) ?_
 try simp only [Act.put,qq]
 refine tq (i:=1) ?_
 try simp only [Act.put,qq]
 refine tq (i:=2) ?_
 try simp only [Act.put,qq]
 refine tq (i:=3) ?_
 try simp only [Act.put,qq]
 refine tq (i:=4) ?_
 try simp only [Act.put,qq]
 refine tq (i:=5) ?_
 try simp only [Act.put,qq]
 refine tq (i:=6) ?_
 try simp only [Act.put,qq]
 refine tq (i:=7) ?_
 try simp only [Act.put,qq]
 refine tq (i:=8) ?_
 try simp only [Act.put,qq]
 refine qU (i:=9) (by kernel_rfl) rfl (fun K hK=>?_)
 refine qO (by rfl) 134 Tryz.f134 Tryz.func134 (by kernel_rfl) (by kernel_rfl) _ _ rfl _ (by first | (simp [Act.eval]; done) | (simp [Act.eval]; rfl)) _ (HMs.out _ _ (hbd hR).out D1.out.wt) ?_
 rintro _ w1 ⟨rfl,k1⟩
 refine hK.out _ _ (HS.out _ (qd (k1.bl (hbd hR).out))) (fun hHeld=>?_)
 clear hK K
 try simp only [Act.put,qq]
 refine wpAnyH_done (by kernel_rfl) ?_ _
 go_wp2_with fail
 go_end0
 exact ⟨rfl,by rw [e.out]; exact D1.out.trans k1⟩
theorem nd9 (n:Nt) (hk:n.kind=9) (h0:0 < n.kids.length) (hF:Fits n.text (n.kids.length - 1)) (hX:∀ i,i < n.kids.length→CW (n.kids.getD i qE)):CW n:=by
 intro w0 b l w kb ko hb hE hnt h
 obtain ⟨sn,sk,hn⟩:=hnt.nod
 have k:=hn.keep hb
 have c0:=k.c0
 have e:Hid (qH l (qP n)=qH (qH l (oprPc (n.kids.getD 0 qE) (min (qI n.text) 2) (qP (n.kids.getD 0 qE))++[[32]])) (zk n.text (ji n.kids.tail (qI n.text - 1)))):=qd (by
  rw [zW,hk,← zw]
  cases hks:n.kids with
  | nil=>rw [hks] at h0; simp at h0
  | cons a r=>simp [qP,sendPc])
 rw [hk] at c0
 obtain ⟨p,ck,ek,hck,_⟩:=hn.rn.slc
 subst ek
 obtain ⟨xb,xo,hp,hnd⟩:=hn.rn.at_ 0 h0
 subst hp
 rw [show xo+0 * 7=xo by omega] at hnd
 obtain ⟨kx,hkx'⟩:∃ kx,(ck=1∧kx=xo)∨(ck≠1∧kx=xo+7):=by
  by_cases hc:ck=1
  ·exact ⟨xo,Or.inl ⟨hc,rfl⟩⟩
  ·exact ⟨xo+7,Or.inr ⟨hc,rfl⟩⟩
 have hkx:=qd hkx'
 have HS:Hid (∀ V,Hid (Bl w0 V)→V.cell? ⟨kb,ko+1,none⟩=some (.string (ba n.text))∧V.cell? ⟨kb,ko+6,none⟩=some (.slice (some ⟨xb,xo,none⟩) n.kids.length ck)):=qd (fun V hV=>⟨(hn.keep hV.out).c1,(hn.keep hV.out).c6⟩)
 have HRc:=qd (fun (l':Bs) V (hV:Bl w0 V) (hw:Wt w0.heap.size b l' V)=>receiver_ok (n.kids.getD 0 qE) (hX 0 h0) w0 b l' n.text V xb xo hV hE hnd hw hn.t)
 have htl:n.kids.tail.length=n.kids.length - 1:=List.length_tail
 have HMs:=qd (fun (l':Bs) V (hV:Bl w0 V) (hw:Wt w0.heap.size b l' V)=>wmessage_ok w0 b l' n.text _ n.kids.tail V hV hE hw (hn.rn.tail2 h0 hkx') (fun i hi=>by rw [getD_tail]; exact hX (i+1) (by omega)) hn.t ⟨hF.lo,hF.hi⟩ (by rw [htl]; exact hF.two) (by rw [htl]; exact hF.three))
 have hR:Hid (Bl w0 w):=qd hb
 have D1:=qd (Wk.ofBl h hb (qV w))
 generalize qP n=P at *
 generalize zk n.text (ji n.kids.tail (qI n.text - 1))=Q at *
 generalize (oprPc (n.kids.getD 0 qE) (min (qI n.text) 2) (qP (n.kids.getD 0 qE))++[[32]])=O at *
 generalize n.text=tx at *
 obtain ⟨lm,hlm⟩:∃ lm,n.kids.length=lm+1:=⟨n.kids.length - 1,by omega⟩
 rw [hlm] at HS HMs hck
 rw [show lm+1 - 1=lm from rfl] at HMs
 have i0:(0:Int) < (lm:Int)+1:=by omega
 have i1:(1:Int)≤(lm:Int)+1:=by omega
 clear h hn k hnt hE hk hX hb hF hkx' hnd htl h0 hlm
 go_enter Tryz.func109,Tryz.ntmps109
 go_wp2_with fail
 refine wp_region_held_drew (S:=fun V=>V.cell? ⟨kb,ko+1,none⟩=some (.string (ba tx))∧V.cell? ⟨kb,ko+6,none⟩=some (.slice (some ⟨xb,xo,none⟩) (lm+1) ck)) (by kernel_rfl) (HS.out _ (hbd hR)) (fun hHeld=>?_)
 refine tq (i:=0) ?_
 try simp only [Act.put,qq]
 refine tq (i:=1) ?_
 try simp only [Act.put,qq]
 refine tq (i:=2) ?_
 try simp only [Act.put,qq]
 refine tq (i:=3) ?_
 try simp only [Act.put,qq]
 refine tq (i:=4) ?_
 try simp only [Act.put,qq]
 refine tq (i:=5) ?_
 try simp only [Act.put,qq]
 refine tq (i:=6) ?_
 try simp only [Act.put,qq]
 refine tq (i:=7) ?_
 try simp only [Act.put,qq]
 refine tq (i:=8) ?_
 try simp only [Act.put,qq]
 refine tq (i:=9) ?_
 try simp only [Act.put,qq]
 refine qU (i:=10) (by kernel_rfl) rfl (fun K hK=>?_)
 refine qO (by rfl) 133 Tryz.f133 Tryz.func133 (by kernel_rfl) (by kernel_rfl) _ _ rfl _ (by first | (simp [Act.eval]; done) | (simp [Act.eval]; rfl)) _ (HRc.out _ _ (hbd hR).out D1.out.wt) ?_
 rintro _ w1 ⟨rfl,k1⟩
 refine hK.out _ _ (HS.out _ (qd (k1.bl (hbd hR).out))) (fun hHeld=>?_)
 clear hK K
 try simp only [Act.put,qq]
 refine wpAnyH_done (by kernel_rfl) ?_ _
 go_wp2_with fail
 have hR2:Hid (Bl w0 w1):=qd (k1.bl (hbd hR).out)
 have D2:=qd (Wk.ofBl k1.wt hR2.out (qV w1))
 refine wp_region_held_drew (S:=fun V=>V.cell? ⟨kb,ko+1,none⟩=some (.string (ba tx))∧V.cell? ⟨kb,ko+6,none⟩=some (.slice (some ⟨xb,xo,none⟩) (lm+1) ck)) (by kernel_rfl) (HS.out _ (hbd hR2)) (fun hHeld=>?_)
 refine tq (i:=0) ?_
 try simp only [Act.put,qq]
 refine tq (i:=1) ?_
 try simp only [Act.put,qq]
 refine tq (i:=2) ?_
 try simp only [Act.put,qq]
 refine tq (i:=3) ?_
 try simp only [Act.put,qq]
 refine tq (i:=4) ?_
 try simp only [Act.put,qq]
 refine tq (i:=5) ?_
 try simp only [Act.put,qq]
 refine tq (i:=6) ?_
 try simp only [Act.put,qq]
 refine tq (i:=7) ?_
 try simp only [Act.put,qq]
 refine tq (i:=8) ?_
 try simp only [Act.put,qq]
 refine wpAnyH_take (i:=9) (v:=.slice (some ⟨xb,kx,none⟩) lm (ck - 1)) rfl (by kernel_rfl) (by kernel_rfl) (by kernel_rfl) (fun _ _ _ h=>h) (Or.inl ⟨by rfl,?_⟩) (by assumption) ?_
 ·(intro w hSw; (try dsimp only at hSw); (try go_split_ands); (rcases hkx.out with ⟨hx1,hx2⟩ | ⟨hx1,hx2⟩ <;> (rw [hx2]; go_simp; try first | omega | rfl | (simp [hx1]; done))))
 try simp only [Act.put,qq]
 refine qU (i:=10) (by kernel_rfl) rfl (fun K hK=>?_)
 refine qO (by rfl) 134 Tryz.f134 Tryz.func134 (by kernel_rfl) (by kernel_rfl) _ _ rfl _ (by first | (simp [Act.eval]; done) | (simp [Act.eval]; rfl)) _ (HMs.out _ _ (hbd hR2).out D2.out.wt) ?_
 rintro _ w2 ⟨rfl,k2⟩
 refine hK.out _ _ (HS.out _ (qd (k2.bl (hbd hR2).out))) (fun hHeld=>?_)
 clear hK K
 try simp only [Act.put,qq]
 refine wpAnyH_done (by kernel_rfl) ?_ _
 go_wp2_with fail
 go_end0
 exact ⟨rfl,by rw [e.out]; exact ((D1.out.trans k1).trans D2.out).trans k2⟩
theorem nd10 (n:Nt) (hk:n.kind=10) (h3:3≤n.kids.length) (hX:∀ i,i < n.kids.length→CW (n.kids.getD i qE)):CW n:=by
 intro w0 b l w kb ko hb hE hnt h
 obtain ⟨sn,sk,hn⟩:=hnt.nod
 have k:=hn.keep hb
 have c0:=k.c0
 have e:Hid (qH l (qP n)=qH (qH l (oprPc (n.kids.getD 0 qE) (min (qI (n.kids.getD 1 qE).text) 2) (qP (n.kids.getD 0 qE))++[[32]])) (zJ n.kids.tail [59,32] true)):=qd (by
  rw [zW,hk,← zw]
  cases hks:n.kids with
  | nil=>rw [hks] at h3; simp at h3
  | cons a r =>
   cases r with
   | nil=>rw [hks] at h3; simp at h3
   | cons m r=>simp [qP,cascPc])
 rw [hk] at c0
 obtain ⟨p,ck,ek,hck,_⟩:=hn.rn.slc
 subst ek
 obtain ⟨xb,xo,hp,hnd⟩:=hn.rn.at_ 0 (by omega)
 subst hp
 rw [show xo+0 * 7=xo by omega] at hnd
 obtain ⟨xb',xo',hp',hnd1⟩:=hn.rn.at_ 1 (by omega)
 injection hp' with hp'
 injection hp' with q1 q2
 subst q1; subst q2
 rw [show xo+1 * 7=xo+7 by omega] at hnd1
 obtain ⟨sn1,sk1,nd1⟩:=hnd1.nod
 have HS:Hid (∀ V,Hid (Bl w0 V)→V.cell? ⟨kb,ko+6,none⟩=some (.slice (some ⟨xb,xo,none⟩) n.kids.length ck)∧V.cell? ⟨xb,xo+7+1,none⟩=some (.string (ba (n.kids.getD 1 qE).text))):=qd (fun V hV=>⟨(hn.keep hV.out).c6,(nd1.keep hV.out).c1⟩)
 have HRc:=qd (fun (l':Bs) V (hV:Bl w0 V) (hw:Wt w0.heap.size b l' V)=>receiver_ok (n.kids.getD 0 qE) (hX 0 (by omega)) w0 b l' (n.kids.getD 1 qE).text V xb xo hV hE hnd hw nd1.t)
 have htl:n.kids.tail.length=n.kids.length - 1:=List.length_tail
 have HL:=qd (fun (l':Bs) V (hV:Bl w0 V) (hw:Wt w0.heap.size b l' V)=>list_ok w0 b l' [59,32] _ n.kids.tail V hV hE hw (by decide) (hn.rn.tail (by omega)) (fun i hi=>by rw [getD_tail]; exact hX (i+1) (by omega)))
 have hR:Hid (Bl w0 w):=qd hb
 have D1:=qd (Wk.ofBl h hb (qV w))
 generalize qP n=P at *
 generalize zJ n.kids.tail [59,32] true=Q at *
 generalize (oprPc (n.kids.getD 0 qE) (min (qI (n.kids.getD 1 qE).text) 2) (qP (n.kids.getD 0 qE))++[[32]])=O at *
 generalize (n.kids.getD 1 qE).text=tx at *
 obtain ⟨lm,hlm⟩:∃ lm,n.kids.length=lm+1:=⟨n.kids.length - 1,by omega⟩
 rw [hlm] at HS HL hck h3
 rw [show lm+1 - 1=lm from rfl] at HL
 have i0:(0:Int) < (lm:Int)+1:=by omega
 have i1:(1:Int) < (lm:Int)+1:=by omega
 have i2:(1:Int)≤(lm:Int)+1:=by omega
 have i3:ck≠1:=by omega
 have i4:0 < lm:=by omega
 clear h hn k hnt hE hk hX hb hnd hnd1 nd1 htl hlm
 go_enter Tryz.func109,Tryz.ntmps109
 go_wp2_with fail
 refine wp_region_held_drew (S:=fun V=>V.cell? ⟨kb,ko+6,none⟩=some (.slice (some ⟨xb,xo,none⟩) (lm+1) ck)∧V.cell? ⟨xb,xo+7+1,none⟩=some (.string (ba tx))) (by kernel_rfl) (HS.out _ (hbd hR)) (fun hHeld=>?_)
 refine tq (i:=0) ?_
 try simp only [Act.put,qq]
 refine tq (i:=1) ?_
 try simp only [Act.put,qq]
 refine tq (i:=2) ?_
 try simp only [Act.put,qq]
 refine tq (i:=3) ?_
 try simp only [Act.put,qq]
 refine tq (i:=4) ?_
 try simp only [Act.put,qq]
 refine tq (i:=5) ?_
 try simp only [Act.put,qq]
 refine tq (i:=6) ?_
 try simp only [Act.put,qq]
 refine tq (i:=7) ?_
 try simp only [Act.put,qq]
 refine tq (i:=8) ?_
 try simp only [Act.put,qq]
 refine tq (i:=9) ?_
 try simp only [Act.put,qq]
 refine wpAnyH_take (i:=10) (v:=.pointer (some ⟨xb,xo+7,none⟩)) rfl (by kernel_rfl) (by kernel_rfl) (by kernel_rfl) (fun _ _ _ h=>h) (Or.inl ⟨by rfl,?_⟩) (by assumption) ?_
 ·(intro w hSw; (try dsimp only at hSw); (try go_split_ands); go_simp; try first | omega | rfl | (simp; done) | (simp; omega))
 try simp only [Act.put,qq]
 refine tq (i:=11) ?_
 try simp only [Act.put,qq]
 refine tq (i:=12) ?_
 try simp only [Act.put,qq]
 refine qU (i:=13) (by kernel_rfl) rfl (fun K hK=>?_)
 refine qO (by rfl) 133 Tryz.f133 Tryz.func133 (by kernel_rfl) (by kernel_rfl) _ _ rfl _ (by first | (simp [Act.eval]; done) | (simp [Act.eval]; rfl)) _ (HRc.out _ _ (hbd hR).out D1.out.wt) ?_
 rintro _ w1 ⟨rfl,k1⟩
 refine hK.out _ _ (HS.out _ (qd (k1.bl (hbd hR).out))) (fun hHeld=>?_)
 clear hK K
 try simp only [Act.put,qq]
 refine wpAnyH_done (by kernel_rfl) ?_ _
 have hR2:Hid (Bl w0 w1):=qd (k1.bl (hbd hR).out)
 obtain ⟨y1,y2⟩:=HS.out w1 hR2
 go_wp2_with (go_at_call 70; refine (HL.out _ _ hR2.out k1.wt).mono ?_; rintro e w2 ⟨rfl,k2⟩)
 go_end0
 exact ⟨rfl,by rw [e.out]; exact (D1.out.trans k1).trans k2⟩
end Go.Proofs.YtfhkhmgodkheaaaGreatDoor
namespace Go.Proofs.YtfhkhmgodkheaaaGreatDoor
theorem parts_count:∀ (l:Bs),(zo l).length=l.count 58+1:=by
 intro l
 induction l with
 | nil=>rfl
 | cons c r ih =>
  rw [zo]
  by_cases hc:c=58
  ·rw [if_pos hc,List.length_cons,ih,hc,List.count_cons_self]
  ·rw [if_neg hc,List.count_cons_of_ne hc]
   cases hp:zo r with
   | nil=>rw [hp] at ih; simp at ih
   | cons p ps=>rw [hp] at ih; simpa using ih
theorem count_tw (p:UInt8→Bool) (hp:p 58=false):∀ (l:Bs),(l.takeWhile p).count 58=0:=by
 intro l
 rw [List.count_eq_zero]
 intro h
 have:=List.all_takeWhile (p:=p) (l:=l)
 rw [List.all_eq_true] at this
 have:=this _ h
 rw [hp] at this
 cases this
theorem kwsN_count:∀ (n:Nat) (l:Bs) (k:Nat),l.length≤n→kwsN l=some k→l.count 58=k:=by
 intro n
 induction n with
 | zero =>
  intro l k hl h;have:l=[]:=List.length_eq_zero_iff.1 (by omega)
  subst this;rw [kwsN_step,if_pos rfl] at h;injection h with h
 | succ n ih =>
  intro l k hl h;rw [kwsN_step] at h
  by_cases he:l=[]
  ·subst he
   rw [if_pos rfl] at h;injection h with h
  rw [if_neg he] at h
  by_cases h0:qT l=0∨isS (hd l)=false
  ·rw [if_pos h0] at h; cases h
  rw [if_neg h0] at h;have hk0:qT l≠0:=fun e=>h0 (Or.inl e)
  cases hr:kwsN (l.drop (qT l)) with
  | none=>rw [hr] at h; cases h
  | some j =>
   rw [hr] at h;injection h with h
   subst h;have hle:=kwLen_le l;have hj:=ih (l.drop (qT l)) j (by rw [List.length_drop]; omega) hr
   have hkl:qT l=qw l+1∧zL (l.drop (qw l))=true∧qw l≠0:=by
    unfold qT at hk0 ⊢
    split at hk0
    ·rename_i hh; rw [if_pos hh]; exact ⟨rfl,hh.2,hh.1⟩
    ·exact absurd rfl hk0
   obtain ⟨e1,e2,e3⟩:=hkl;have hnl:(l.take (qw l)).count 58=0:=by
    unfold qw at e3 ⊢
    split at e3
    ·rename_i hh
     rw [if_pos hh];have:l.take (l.takeWhile wN).length=l.takeWhile wN:=(List.prefix_iff_eq_take.1 (List.takeWhile_prefix _)).symm;rw [this];exact count_tw wN (by decide) l
    ·exact absurd rfl e3
   have hd58:∃ r,l.drop (qw l)=58 :: r:=by
    cases hdl:l.drop (qw l) with
    | nil=>rw [hdl] at e2; simp [zL,hd] at e2
    | cons c r =>
     rw [hdl] at e2;have:c.toNat=58:=by have:=e2; simp [zL,hd] at this; exact this.1
     exact ⟨r,by rw [show c=58 from UInt8.toNat_inj.1 (by rw [this]; rfl)]⟩
   obtain ⟨r,hr2⟩:=hd58;have hrest:l.drop (qT l)=r:=by rw [e1,← List.drop_drop,hr2]; rfl
   have hsplit:l.count 58=(l.take (qw l)).count 58+(l.drop (qw l)).count 58:=by rw [← List.count_append,List.take_append_drop]
   rw [hsplit,hnl,hr2,List.count_cons_self,← hrest,hj]
   show 0+(j+1)=j+1
   omega
theorem trim_count (t:Bs) (h:t.getLast?=some 58):(jq t).count 58+1=t.count 58:=by
 unfold jq
 rw [if_pos h]
 have hne:t≠[]:=by intro e; subst e; simp at h
 have hl:t.getLast hne=58:=by rw [List.getLast?_eq_some_getLast hne] at h; injection h
 have e:=List.dropLast_concat_getLast hne
 rw [hl] at e
 conv=>rhs; rw [← e]
 rw [List.count_append]
 rfl
theorem op_last (t:Bs) (h:opB t=true):t.getLast?≠some 58:=by
 intro hl
 unfold opB at h
 have h':=of_decide_eq_true h
 obtain ⟨h1,h2⟩:=h'
 unfold zE at h2
 cases t with
 | nil=>exact h1 rfl
 | cons c r =>
  split at h2
  ·rename_i hc
   split at h2
   ·rename_i hh
    cases r with
    | nil=>simp at h2
    | cons d r =>
     have:r=[]:=by simpa using h2.symm
     subst this;have:d=58:=by simpa using hl
     subst this;have:=hh.1;simp [hd,isO] at this
   ·have:r=[]:=by simpa using h2.symm
    subst this;have:c=58:=by simpa using hl
    subst this;simp [hd,isO] at hc
  ·simp at h2
theorem fits_of {t:Bs} {c:Nat} (h:jB t=some c):Fits t c:=by
 obtain ⟨k1,k2,k3⟩:=takes_rank h
 have hc:c=(sel t).1∧(sel t).2=0:=by
  unfold jB at h
  split at h
  ·cases h
  split at h
  ·cases h
  rename_i h1 h2
  split at h
  ·injection h with h
   exact ⟨h.symm,by omega⟩
  ·cases h
 obtain ⟨rfl,h0⟩:=hc
 refine ⟨k1,k2,fun h2=>?_,fun h3=>?_⟩
 ·unfold qI at h2
  rw [if_neg (by omega)] at h2
  split at h2
  ·omega
  ·omega
 ·have h3':=h3
  unfold qI at h3;rw [if_neg (by omega)] at h3
  split at h3
  ·omega
  rename_i hn0
  split at h3
  rotate_left
  ·omega
  rename_i hl
  have hs:kwsN t=some (sel t).1:=by
   unfold sel at hn0 h0 ⊢
   split at hn0
   ·exact absurd rfl hn0
   rename_i q1
   rw [if_neg q1] at h0;rw [if_neg q1]
   split at hn0
   ·rename_i q2; exact absurd hl (op_last t q2)
   rename_i q2
   rw [if_neg q2] at h0;rw [if_neg q2];unfold kwAns at h0 hn0 ⊢
   split at h0
   ·rename_i n hk; rw [hk]
   ·cases h0
  have hcnt:=kwsN_count t.length t _ (Nat.le_refl _) hs;have:=trim_count t hl;rw [parts_count];omega
def PN (n:Nt):Prop:=(∃ o,jJ n o=true)∨zd n 7=true∨(∃ o,zd n 11=true∧msgB n.text n.kids o=true)∨(∃ o,zd n 13=true∧oneB n.kids o=true)
theorem kind_of {n:Nt} {k:Nat} (h:zd n k=true):n.kind=k:=by
 unfold zd at h
 rw [Bool.and_eq_true] at h
 exact of_decide_eq_true h.1
theorem oper_pn {n:Nt} {m o:Nat} (h:operB n m o=true):PN n:=by
 unfold operB at h
 rw [Bool.and_eq_true] at h
 exact Or.inl ⟨_,h.2⟩
theorem recv_pn {n:Nt} {r o:Nat} (h:recvB n r o=true):PN n:=by
 unfold recvB at h
 rw [Bool.or_eq_true] at h
 rcases h with h | h
 ·exact Or.inr (Or.inl h)
 ·exact oper_pn h
theorem msg_parts {t:Bs} {ks:List Nt} {o:Nat} (h:msgB t ks o=true):Fits t ks.length∧∀ i,i < ks.length→PN (ks.getD i qE):=by
 unfold msgB at h
 rw [Bool.and_eq_true,opersB_all] at h
 exact ⟨fits_of (of_decide_eq_true h.1),fun i hi=>oper_pn ((all_getD qE _ ks).1 h.2 i hi)⟩
theorem lit_expr {n:Nt} {o:Nat} (h:litB n o=true):jJ n o=true:=by
 have h':=h
 rw [litB_is] at h'
 rw [exprB_is]
 have hk:n.kind=1∨n.kind=2∨n.kind=3∨n.kind=5∨n.kind=4:=by
  by_cases h1:n.kind=1
  ·exact Or.inl h1
  rw [if_neg h1] at h'
  by_cases h2:n.kind=2
  ·exact Or.inr (Or.inl h2)
  rw [if_neg h2] at h'
  by_cases h3:n.kind=3
  ·exact Or.inr (Or.inr (Or.inl h3))
  rw [if_neg h3] at h'
  by_cases h5:n.kind=5
  ·exact Or.inr (Or.inr (Or.inr (Or.inl h5)))
  rw [if_neg h5] at h'
  by_cases h4:n.kind=4
  ·exact Or.inr (Or.inr (Or.inr (Or.inr h4)))
  rw [if_neg h4] at h'
  cases h'
 rw [if_neg (by omega),if_neg (by omega),if_neg (by omega),if_neg (by omega),if_neg (by omega)]
 exact h
theorem cw_all:∀ (N:Nat) (n:Nt),sizN n≤N→PN n→CW n:=by
 intro N
 induction N with
 | zero=>intro n h; have:=sizN_pos n; omega
 | succ N ih =>
  intro n hs hp;have kid:∀ i,i < n.kids.length→PN (n.kids.getD i qE)→CW (n.kids.getD i qE):=fun i hi hpn=>ih _ (by have:=siz_kid n i hi; omega) hpn
  rcases hp with ⟨o,h⟩ | h | ⟨o,h1,h2⟩ | ⟨o,h1,h2⟩
  ·rw [exprB_is] at h
   by_cases h6:n.kind=6
   ·exact nd56 n (Or.inr h6)
   rw [if_neg h6] at h
   by_cases h8:n.kind=8
   ·rw [if_pos h8,Bool.and_eq_true,Bool.and_eq_true,oneB_is,Bool.and_eq_true] at h
    have hl:=of_decide_eq_true h.2.2.1;exact nd8 n h8 hl (kid 0 (by omega) (Or.inl ⟨o,h.2.2.2⟩))
   rw [if_neg h8] at h
   by_cases h9:n.kind=9
   ·rw [if_pos h9,Bool.and_eq_true,sendB_is,Bool.and_eq_true,Bool.and_eq_true] at h
    have hl:=of_decide_eq_true h.2.1;obtain ⟨hF,hX⟩:=msg_parts h.2.2.1;have htl:n.kids.tail.length=n.kids.length - 1:=List.length_tail;refine nd9 n h9 hl (by rw [← htl]; exact hF) (fun i hi=>kid i hi ?_)
    cases i with
    | zero=>exact recv_pn h.2.2.2
    | succ i =>
     have:=hX i (by omega)
     rwa [getD_tail] at this
   rw [if_neg h9] at h
   by_cases h10:n.kind=10
   ·rw [if_pos h10,Bool.and_eq_true,Bool.and_eq_true] at h
    have h3:=of_decide_eq_true h.2.1;have hc:=h.2.2;rw [cascB_is n.kids o h3,Bool.and_eq_true,msgsB_all] at hc;have htl:n.kids.tail.length=n.kids.length - 1:=List.length_tail;refine nd10 n h10 h3 (fun i hi=>kid i hi ?_)
    cases i with
    | zero=>exact recv_pn hc.2
    | succ i =>
     have:=(all_getD qE _ n.kids.tail).1 hc.1 i (by omega)
     rw [getD_tail,Bool.and_eq_true] at this;exact Or.inr (Or.inr (Or.inl ⟨o,this.1,this.2⟩))
   rw [if_neg h10] at h
   by_cases h12:n.kind=12
   ·rw [if_pos h12,Bool.and_eq_true,Bool.and_eq_true,Bool.and_eq_true,Bool.and_eq_true] at h
    have hb:=(bodyB_true n.kids (o+1)).1 h.2.2.2.2;refine nd12 n h12 (of_decide_eq_true h.2.2.1) h.2.2.2.1 (fun i hi=>kid i hi ?_)
    have:=hb i hi;unfold stmB at this
    split at this
    ·rw [Bool.and_eq_true] at this
     exact Or.inr (Or.inr (Or.inr ⟨o+1,this.1,this.2⟩))
    ·exact Or.inl ⟨o+1,this⟩
   rw [if_neg h12,litB_is] at h
   by_cases h1:n.kind=1
   ·rw [if_pos h1,Bool.and_eq_true,Bool.and_eq_true] at h
    have a:=of_decide_eq_true h.2.1;have c:=of_decide_eq_true h.2.2;exact nd1 n h1 a (by omega)
   rw [if_neg h1] at h
   by_cases h2:n.kind=2
   ·exact nd2 n h2
   rw [if_neg h2] at h
   by_cases h3:n.kind=3
   ·rw [if_pos h3,Bool.and_eq_true] at h
    have:=h.2;unfold symOk at this;rw [Bool.and_eq_true] at this;exact nd3 n h3 this.2
   rw [if_neg h3] at h
   by_cases h5:n.kind=5
   ·exact nd56 n (Or.inl h5)
   rw [if_neg h5] at h
   by_cases h4:n.kind=4
   ·rw [if_pos h4,Bool.and_eq_true,Bool.and_eq_true,Bool.and_eq_true,litsB_all] at h
    exact nd4 n h4 (fun i hi=>kid i hi (Or.inl ⟨o+1,lit_expr ((all_getD qE _ n.kids).1 h.2.2.2 i hi)⟩))
   rw [if_neg h4] at h
   cases h
  ·exact nd7 n (kind_of h)
  ·obtain ⟨hF,hX⟩:=msg_parts h2
   exact nd11 n (kind_of h1) hF (fun i hi=>kid i hi (hX i hi))
  ·rw [oneB_is,Bool.and_eq_true] at h2
   have hl:=of_decide_eq_true h2.1;exact nd13 n (kind_of h1) hl (kid 0 (by omega) (Or.inl ⟨o,h2.2⟩))
theorem stm_pn {l:List Nt} {o:Nat} (h:jF l o=true):∀ i,i < l.length→CW (l.getD i qE):=by
 intro i hi
 refine cw_all _ _ (Nat.le_refl _) ?_
 have:=(bodyB_true l o).1 h i hi
 unfold stmB at this
 split at this
 ·rw [Bool.and_eq_true] at this
  exact Or.inr (Or.inr (Or.inr ⟨o,this.1,this.2⟩))
 ·exact Or.inl ⟨o,this⟩
end Go.Proofs.YtfhkhmgodkheaaaGreatDoor
namespace Go.Proofs.YtfhkhmgodkheaaaGreatDoor
open Go.RowKit Go.Maps
theorem und114:Tryz.prog.underlying 114=some (.pointer 5):=by kernel_rfl
theorem bstr_ok (B b:Nat) (l:Bs) (w:World) (h:Wt B b l w):Calls Tryz.prog 40 #[.pointer (some ⟨b,0,none⟩)] w fun e w'=>e=.returned (.string (ba l))∧Below B w w':=by
 obtain ⟨p,v,hp,hB,hbk,hown,hne,hz⟩:=h
 cases l with
 | nil =>
  have hv:=hz rfl;subst hv;have hUS:∀ W,(Builtin.unsafeString_ #[114,3] 9 #[.pointer none,.int .i64 0]).run Tryz.prog W=.ok (.string ⟨#[]⟩) W:=fun W=>Any.unsafeString_none bl169 Tryz.Builder_Extra_155 W none
  have c1:w.drew.cell? ⟨b,1,none⟩=some (.slice none 0 0):=by rw [qh (w:=w.drew) hbk]; rfl
  have hSD:(Builtin.unsafeSliceData_ #[73] 114 #[.slice none 0 0]).run Tryz.prog w.drew=.ok (.pointer none) w.drew:=rfl;clear hp hB hbk hown hne hz
  go_enter Tryz.func40,Tryz.ntmps40
  go_wp2
  go_region
  all_goals (go_wp2; go_ret; exact ⟨rfl,Below.drew (Below.refl B w)⟩)
 | cons x r =>
  obtain ⟨g,cap,cur,fz,rfl,hbg,hg,hfz,hnc,hcm,hcs,htake⟩:∃ g cap cur fz,v=.slice (some ⟨g,0,none⟩) (x :: r).length cap∧B≤g∧w.heap[g]?=some (.cells cur 5 fz)∧fz.2≤(x :: r).length * 1∧(x :: r).length≤cap∧cap≤maxLen∧cur.size=cap * 1∧cur.toList.take ((x :: r).length * 1)=Lib.byteCells (x :: r):=by
   rcases hown.2 with ⟨_,h0⟩ | ⟨g,cap,cur,fz,hv,h1,h2,h3,h4,h5,h6,h7⟩
   ·simp at h0
   ·exact ⟨g,cap,cur,fz,hv,h1,h2,h3,h4,h5,h6,h7⟩
  have c1:w.drew.cell? ⟨b,1,none⟩=some (.slice (some ⟨g,0,none⟩) (x :: r).length cap):=by rw [qh (w:=w.drew) hbk]; rfl
  have hlp:0 < (x :: r).length:=by simp
  have hSD:(Builtin.unsafeSliceData_ #[73] 114 #[.slice (some ⟨g,0,none⟩) (x :: r).length cap]).run Tryz.prog w.drew=.ok (.pointer (some ⟨g,0,none⟩)) w.drew:=Lib.run_unsafeSliceData_row _ _ _ _ _ _ (by omega)
  have hUS:(Builtin.unsafeString_ #[114,3] 9 #[.pointer (some ⟨g,0,none⟩),.int .i64 ((x :: r).length:Nat)]).run Tryz.prog w.drew=.ok (.string ⟨(x :: r).toArray⟩) (w.drew.freeze ⟨g,0,none⟩ (x :: r).length):=by
   refine Lib.run_unsafeString_row w.drew 114 3 9 5 und114 Tryz.Builder_Extra_155.cellsByte g cur.size (by have hg':w.drew.heap[g]?=some (.cells cur 5 fz):=hg; simp [World.shape?,hg']) (x :: r) (by simp) (by omega) (by unfold maxLen at hcm; omega) ?_
   intro j y hy;exact hown.cells (g:=g) rfl j (.int .u8 y.toNat) (by rw [Lib.byteCells,List.getElem?_map,hy]; rfl)
  have hBl:=qd (Lib.below_freeze (Below.drew (Below.refl B w)) (p:=⟨g,0,none⟩) hbg (x :: r).length);have hba:Hid ((⟨(x :: r).toArray⟩:ByteArray)=ba (x :: r)):=qd rfl;generalize (x :: r).length=n at *;generalize hL:(x :: r)=L at *;clear hp hB hbk hown hne hz hg hfz hnc hcm hcs htake hbg
  go_enter Tryz.func40,Tryz.ntmps40
  go_wp2
  go_region
  all_goals (go_wp2; go_ret; exact ⟨by rw [← hba.out]; rfl,hBl.out⟩)
end Go.Proofs.YtfhkhmgodkheaaaGreatDoor
