import Derived.Test.YtfhkhmgodkheaaaGreatDoorQCG15PKwT
set_option linter.unusedSimpArgs false
set_option linter.unusedVariables false
set_option maxRecDepth 1000000
set_option maxHeartbeats 16000000
namespace Go.Proofs.YtfhkhmgodkheaaaGreatDoor
open Go.RowKit Go.Maps
theorem lt_of_some_heap {V w:World} {b:Nat} (h:V.heap[b]?=w.heap[b]?) (hb:b < w.heap.size):b < V.heap.size:=by
 rw [Array.getElem?_eq_getElem hb] at h
 exact (Array.getElem?_eq_some_iff.1 h).1
theorem clo180_ok {P g c:Nat} {ts:Ts} {fo bq:Nat} {w:World} (eo:Enters Tryz.prog fo) (pone:Nat→Ps→Option (Rs Nd)) (hO:∀ k V s r,(2≤k∧k≤3)→V.heap[bq]?=w.heap[bq]?→Pr V P g c ts s→Okq ts s→pone k s=some r→Calls Tryz.prog fo #[.int .i64 k,.pointer (some ⟨bq,0,none⟩)] V (PostN P g c ts V r)) (k B0 Br:Nat) (hk:2≤k∧k≤3) (V:World) (s:Ps) (r:Rs Nd) (hq:V.heap[bq]?=w.heap[bq]?) (b0:Box V B0 (.func (.func fo) #[] #[.pointer (some ⟨bq,0,none⟩)]) 173) (b1:Box V Br (.int .i64 k) 3) (h:Pr V P g c ts s) (hok:Okq ts s) (hr:pone k s=some r) (hbl:bq < V.heap.size) :
  Calls Tryz.prog 180 #[.pointer (some ⟨B0,0,none⟩),.pointer (some ⟨Br,0,none⟩)] V (PostN P g c ts V r):=by
 have hB:=Bl.alloc V (.cells #[.int .i64 0,.string ⟨#[]⟩,.int .i64 0,.int .i64 0,.slice none 0 0,.slice none 0 0,.slice none 0 0] 34)
 have c0:=(b0.bl hB).cell
 have c1:=(b1.bl hB).cell
 have HP:=qd (hO k (V.alloc (.cells #[.int .i64 0,.string ⟨#[]⟩,.int .i64 0,.int .i64 0,.slice none 0 0,.slice none 0 0,.slice none 0 0] 34)) s r hk ((hB.block bq hbl).trans hq) (h.keep hB) hok hr)
 have hlp:=h.lt
 unfold Enters at eo
 have S0:=qd (Sw.start h hok)
 clear h hB b0 b1 hO hr hq
 cases r with
 | bad x =>
  go_enter Tryz.func180,Tryz.ntmps180
  go_wp2_with (go_at_fn fo; refine HP.out.mono ?_; intro e w9 q9; obtain ⟨rfl,f9⟩:=zy q9; have F9:=qd (qu S0.out.fr f9); clear q9 f9)
  exact ⟨rfl,zl F9.out⟩
 | ok n s1 =>
  go_enter Tryz.func180,Tryz.ntmps180
  go_wp2_with (first
   | (
    go_at_fn fo; refine HP.out.mono ?_; intro e w9 q9; obtain ⟨c0,c1,c2,c3,c4,c5,c6,ft,rfl,n9,a9,p9,f9⟩:=zK q9
    have S9:=qd (S0.out.go f9 p9);have N9:=qd n9;have A9:Hid (Apt (V.heap.size+1) ft):=qd (a9.mono S0.out.size);clear q9 n9 a9 p9 f9)
   | (refine wpList_store_row rfl 34 _ _ rfl V.heap.size #[c0,c1,c2,c3,c4,c5,c6] rfl rfl 34 _ S9.out.res (by kernel_rfl) rfl (qL N9.out) ?_))
  exact S9.out.endN Tryz.results180 rfl N9.out A9.out
theorem wordedN_ok {ts:Ts} (f:Nat) (fo bq:Nat) (eo:Enters Tryz.prog fo) (pone:Nat→Ps→Option (Rs Nd)) (hpg:∀ k s,k≤3→Okq ts s→Pq ts s (pone k s)) (P g c:Nat) (s:Ps) (w:World) (r:Rs (Bs × List Nd)) (hbq:bq < w.heap.size) (hbP:bq≠P)
  (hO:∀ k V s r,(2≤k∧k≤3)→V.heap[bq]?=w.heap[bq]?→Pr V P g c ts s→Okq ts s→pone k s=some r→Calls Tryz.prog fo #[.int .i64 k,.pointer (some ⟨bq,0,none⟩)] V (PostN P g c ts V r)) (h:Pr w P g c ts s) (hok:Okq ts s) (hr:zt ts pone f s=some r) :
  Calls Tryz.prog 166 #[.pointer (some ⟨P,0,none⟩),.func (.func fo) #[] #[.pointer (some ⟨bq,0,none⟩)]] w (PostWN P g c ts w r):=by
 have hlp:=h.lt
 have HPl:=qd h.lt
 obtain ⟨w0,hW0⟩:∃ X,w.alloc (.cells #[.func (.func fo) #[] #[.pointer (some ⟨bq,0,none⟩)]] 173)=X:=⟨_,rfl⟩
 have bw0:Hid (Bl w w0):=qd (hW0▸Bl.alloc _ _)
 have GB:Hid (Box w0 w.heap.size (.func (.func fo) #[] #[.pointer (some ⟨bq,0,none⟩)]) 173):=qd (hW0▸heap_alloc_new w _)
 have PR0:=qd (h.keep bw0.out)
 have HA:=qd (fun V p=>zI P g c ts s V p hok.lt (by have:=hok.len; omega))
 have hy:(hdT ts s).1.text.length≤8192:=by have:=hok.txt.1; omega
 have HR:=qd (fun V=>rankT_ok (hdT ts s) V hy)
 have HT:=qd (fun V p=>zY P g c ts s V p hok.ok hok.lt)
 unfold tkv at HA HR HT
 unfold zt at hr
 by_cases h1:qy (hdT ts s)=1
 ·rw [if_pos h1] at hr
  injection hr with hr
  subst hr;rw [h1] at HR;obtain ⟨R,hR⟩:∃ R:Nat,R=1:=⟨1,rfl⟩;rw [← hR] at HR;have q1:((R:Int) == 1)=true:=by rw [hR]; rfl
  clear h hok hy h1 hO hpg hR;generalize qj ts s=st at *;generalize hdT ts s=x at *;obtain ⟨⟨tk,tt,tn⟩,tp⟩:=x;dsimp only at *
  go_enter Tryz.func166,Tryz.ntmps166
  go_wp2_with (first
   | (go_at_call 54; refine (HA.out _ PR0.out).mono ?_; rintro e w1 ⟨rfl,b1⟩; have B1:=qd ((bw0.out.trans b1).trans (Bl.alloc w1 (.cells #[.int .i64 tk,.string (ba tt),.int .i64 tn,.int .i64 tp] 54))); have T1:=qd (heap_alloc_new w1 (.cells #[.int .i64 tk,.string (ba tt),.int .i64 tn,.int .i64 tp] 54)); have G1:=qd (((GB.out.bl b1).bl (Bl.alloc w1 (.cells #[.int .i64 tk,.string (ba tt),.int .i64 tn,.int .i64 tp] 54)))); have PR1:=qd ((PR0.out.keep b1).keep (Bl.alloc w1 (.cells #[.int .i64 tk,.string (ba tt),.int .i64 tn,.int .i64 tp] 54))); obtain ⟨z0,z1,z2,z3⟩:=zF T1.out; clear b1)
   | (
    go_at_call 79; refine (HR.out _).mono ?_; rintro e w2 ⟨rfl,b2⟩
    have B2:=qd ((B1.out.trans b2).trans (Bl.alloc w2 (.cells #[.int .i64 R] 3)));have T2:Hid ((w2.alloc (.cells #[.int .i64 R] 3)).heap[w1.heap.size]?=some (.cells #[.int .i64 tk,.string (ba tt),.int .i64 tn,.int .i64 tp] 54 (0,0))):=qd (((b2.trans (Bl.alloc w2 (.cells #[.int .i64 R] 3))).block _ (qf T1.out)).trans T1.out);have G2:=qd ((G1.out.bl b2).bl (Bl.alloc w2 (.cells #[.int .i64 R] 3)));have PR2:=qd ((PR1.out.keep b2).keep (Bl.alloc w2 (.cells #[.int .i64 R] 3)));have K2:Hid (Box (w2.alloc (.cells #[.int .i64 R] 3)) w2.heap.size (.int .i64 R) 3):=qd (heap_alloc_new w2 _);have L2:Hid (w.heap.size≤w2.heap.size):=qd (by have h8:=B1.out.size; have h9:=b2.size; omega)
    have k2:=K2.out.cell;have g2:=G2.out.cell;obtain ⟨u0,u1,u2,u3⟩:=zF T2.out;clear b2)
   | (go_at_call 80; refine (HT.out _ PR2.out).mono ?_; rintro e w3 ⟨rfl,p3,f3⟩; have P3:=qd p3; have F3:=qd (qu (za B2.out) f3); have hfd:=(fun W=>f54_1 (.int .i64 tk) (.string (ba tt)) (.int .i64 tn) (.int .i64 tp) W); clear p3 f3))
  refine bodyPost_ret (v:=.tuple #[.string (ba tt),.slice none 0 0]) (by simp [results,Tryz.results166,go_sem]) rfl ?_
  exact ⟨F3.out,.slice none 0 0,[],[],rfl,⟨World.ownsRow_nil _ _ _ _,fun _=>rfl⟩,.nil,Apt.nil _,P3.out⟩
 rw [if_neg h1] at hr
 by_cases h2:qy (hdT ts s)=2
 ·rw [if_pos h2] at hr
  rw [h2] at HR;have hq:=hok.take (zu (by rw [h2]; decide))
  cases e1:pone 2 (qj ts s) with
  | none=>rw [e1] at hr; cases hr
  | some r1 =>
   rw [e1] at hr;have HO2:=qd (fun V g1 p1=>hO 2 V (qj ts s) r1 (by decide) g1 p1 hq e1)
   have hB2z:Hid (∀ (a b:Nat),a≤b→a≤b):=qd (fun _ _ h=>h)
   clear h hok hy h1 h2 hO hpg hq e1;generalize qj ts s=st at *;generalize hdT ts s=x at *;obtain ⟨⟨tk,tt,tn⟩,tp⟩:=x;dsimp only at *
   cases r1 with
   | bad z =>
    injection hr with hr
    subst hr
    go_enter Tryz.func166,Tryz.ntmps166
    go_wp2_with (first
     | (go_at_call 54; refine (HA.out _ PR0.out).mono ?_; rintro e w1 ⟨rfl,b1⟩; have B1:=qd ((bw0.out.trans b1).trans (Bl.alloc w1 (.cells #[.int .i64 tk,.string (ba tt),.int .i64 tn,.int .i64 tp] 54))); have T1:=qd (heap_alloc_new w1 (.cells #[.int .i64 tk,.string (ba tt),.int .i64 tn,.int .i64 tp] 54)); have G1:=qd (((GB.out.bl b1).bl (Bl.alloc w1 (.cells #[.int .i64 tk,.string (ba tt),.int .i64 tn,.int .i64 tp] 54)))); have PR1:=qd ((PR0.out.keep b1).keep (Bl.alloc w1 (.cells #[.int .i64 tk,.string (ba tt),.int .i64 tn,.int .i64 tp] 54))); obtain ⟨z0,z1,z2,z3⟩:=zF T1.out; clear b1)
     | (
      go_at_call 79; refine (HR.out _).mono ?_; rintro e w2 ⟨rfl,b2⟩
      have B2:=qd ((B1.out.trans b2).trans (Bl.alloc w2 (.cells #[.int .i64 2] 3)));have T2:Hid ((w2.alloc (.cells #[.int .i64 2] 3)).heap[w1.heap.size]?=some (.cells #[.int .i64 tk,.string (ba tt),.int .i64 tn,.int .i64 tp] 54 (0,0))):=qd (((b2.trans (Bl.alloc w2 (.cells #[.int .i64 2] 3))).block _ (qf T1.out)).trans T1.out);have G2:=qd ((G1.out.bl b2).bl (Bl.alloc w2 (.cells #[.int .i64 2] 3)));have PR2:=qd ((PR1.out.keep b2).keep (Bl.alloc w2 (.cells #[.int .i64 2] 3)));have K2:Hid (Box (w2.alloc (.cells #[.int .i64 2] 3)) w2.heap.size (.int .i64 2) 3):=qd (heap_alloc_new w2 _);have L2:Hid (w.heap.size≤w2.heap.size):=qd (by have h8:=B1.out.size; have h9:=b2.size; omega)
      have k2:=K2.out.cell;have g2:=G2.out.cell;obtain ⟨u0,u1,u2,u3⟩:=zF T2.out;clear b2))
    have F3:Hid (Fr [P] w (w2.alloc (.cells #[.int .i64 2] 3)).drew):=qd (qu (za B2.out) (Fr.drew _ _));have PR3:=qd (PR2.out.keep (qV _));have G3:Hid (Box (w2.alloc (.cells #[.int .i64 2] 3)).drew w.heap.size (.func (.func fo) #[] #[.pointer (some ⟨bq,0,none⟩)]) 173):=qd G2.out;have K3:Hid (Box (w2.alloc (.cells #[.int .i64 2] 3)).drew w2.heap.size (.int .i64 2) 3):=qd K2.out;have B2s:Hid (P < w2.heap.size):=qd (by have:=L2.out; have:=HPl.out; omega)
    refine wp_region_held_drew (S:=fun V=>V.cell? ⟨w.heap.size,0,none⟩=some (.func (.func fo) #[] #[.pointer (some ⟨bq,0,none⟩)])∧V.cell? ⟨w2.heap.size,0,none⟩=some (.int .i64 2)) (by kernel_rfl) (⟨G3.out.cell,K3.out.cell⟩) (fun hHeld=>?_)
    refine tq (i:=0) ?_
    try simp only [Act.put,qq]
    refine tq (i:=3) ?_
    try simp only [Act.put,qq]
    refine tq (i:=4) ?_
    try simp only [Act.put,qq]
    refine qU (i:=1) (by kernel_rfl) rfl (fun K hK=>?_)
    refine qO (by rfl) 80 Tryz.f80 Tryz.func80 (by kernel_rfl) (by kernel_rfl) _ _ rfl _ (by first | (simp [Act.eval]; done) | (simp [Act.eval]; rfl)) _ (HT.out _ PR3.out) ?_
    rintro _ w4 ⟨rfl,p4,f4⟩;have hne1:w.heap.size≠P:=by omega
    have hne2:w2.heap.size≠P:=by have:=B2s.out; omega
    have G4:=qd (G3.out.fr f4 (by simpa using hne1))
    have K4:=qd (K3.out.fr f4 (by simpa using hne2))
    have P4:=qd p4;have F4:=qd (qu F3.out f4);have HQ4:Hid (w4.heap[bq]?=w.heap[bq]?):=qd (F4.out.block bq hbq (by simpa using hbP))
    clear p4 f4;refine hK.out _ _ (⟨G4.out.cell,K4.out.cell⟩) (fun hHeld=>?_)
    clear hK K
    try simp only [Act.put,qq]
    refine wpAnyH_take (i:=2) (v:=.string (ba tt)) rfl (by kernel_rfl) (by kernel_rfl) (by kernel_rfl) (fun _ _ _ h=>h) (Or.inl ⟨by rfl,?_⟩) (by assumption) ?_
    ·(intro w hSw; have hfd:=fun W=>f54_1 (.int .i64 tk) (.string (ba tt)) (.int .i64 tn) (.int .i64 tp) W; go_simp)
    try simp only [Act.put,qq]
    refine qU (i:=5) (by kernel_rfl) rfl (fun K hK=>?_)
    refine stepF (by rfl) fo eo _ _ _ rfl #[] #[.pointer (some ⟨bq,0,none⟩)] rfl _ rfl #[.int .i64 2,.pointer (some ⟨bq,0,none⟩)] (by first | (simp [Act.eval]; done) | (simp [Act.eval]; rfl)) _ (HO2.out _ HQ4.out P4.out) ?_
    intro e w5 q5;obtain ⟨rfl,f5⟩:=zy q5;exact ⟨rfl,qu F4.out f5,rfl⟩
   | ok n s1 =>
    injection hr with hr
    subst hr
    go_enter Tryz.func166,Tryz.ntmps166
    go_wp2_with (first
     | (go_at_call 54; refine (HA.out _ PR0.out).mono ?_; rintro e w1 ⟨rfl,b1⟩; have B1:=qd ((bw0.out.trans b1).trans (Bl.alloc w1 (.cells #[.int .i64 tk,.string (ba tt),.int .i64 tn,.int .i64 tp] 54))); have T1:=qd (heap_alloc_new w1 (.cells #[.int .i64 tk,.string (ba tt),.int .i64 tn,.int .i64 tp] 54)); have G1:=qd (((GB.out.bl b1).bl (Bl.alloc w1 (.cells #[.int .i64 tk,.string (ba tt),.int .i64 tn,.int .i64 tp] 54)))); have PR1:=qd ((PR0.out.keep b1).keep (Bl.alloc w1 (.cells #[.int .i64 tk,.string (ba tt),.int .i64 tn,.int .i64 tp] 54))); obtain ⟨z0,z1,z2,z3⟩:=zF T1.out; clear b1)
     | (
      go_at_call 79; refine (HR.out _).mono ?_; rintro e w2 ⟨rfl,b2⟩
      have B2:=qd ((B1.out.trans b2).trans (Bl.alloc w2 (.cells #[.int .i64 2] 3)));have T2:Hid ((w2.alloc (.cells #[.int .i64 2] 3)).heap[w1.heap.size]?=some (.cells #[.int .i64 tk,.string (ba tt),.int .i64 tn,.int .i64 tp] 54 (0,0))):=qd (((b2.trans (Bl.alloc w2 (.cells #[.int .i64 2] 3))).block _ (qf T1.out)).trans T1.out);have G2:=qd ((G1.out.bl b2).bl (Bl.alloc w2 (.cells #[.int .i64 2] 3)));have PR2:=qd ((PR1.out.keep b2).keep (Bl.alloc w2 (.cells #[.int .i64 2] 3)));have K2:Hid (Box (w2.alloc (.cells #[.int .i64 2] 3)) w2.heap.size (.int .i64 2) 3):=qd (heap_alloc_new w2 _);have L2:Hid (w.heap.size≤w2.heap.size):=qd (by have h8:=B1.out.size; have h9:=b2.size; omega)
      have k2:=K2.out.cell;have g2:=G2.out.cell;obtain ⟨u0,u1,u2,u3⟩:=zF T2.out;clear b2))
    have F3:Hid (Fr [P] w (w2.alloc (.cells #[.int .i64 2] 3)).drew):=qd (qu (za B2.out) (Fr.drew _ _));have PR3:=qd (PR2.out.keep (qV _));have G3:Hid (Box (w2.alloc (.cells #[.int .i64 2] 3)).drew w.heap.size (.func (.func fo) #[] #[.pointer (some ⟨bq,0,none⟩)]) 173):=qd G2.out;have K3:Hid (Box (w2.alloc (.cells #[.int .i64 2] 3)).drew w2.heap.size (.int .i64 2) 3):=qd K2.out;have B2s:Hid (P < w2.heap.size):=qd (by have:=L2.out; have:=HPl.out; omega)
    refine wp_region_held_drew (S:=fun V=>V.cell? ⟨w.heap.size,0,none⟩=some (.func (.func fo) #[] #[.pointer (some ⟨bq,0,none⟩)])∧V.cell? ⟨w2.heap.size,0,none⟩=some (.int .i64 2)) (by kernel_rfl) (⟨G3.out.cell,K3.out.cell⟩) (fun hHeld=>?_)
    refine tq (i:=0) ?_
    try simp only [Act.put,qq]
    refine tq (i:=3) ?_
    try simp only [Act.put,qq]
    refine tq (i:=4) ?_
    try simp only [Act.put,qq]
    refine qU (i:=1) (by kernel_rfl) rfl (fun K hK=>?_)
    refine qO (by rfl) 80 Tryz.f80 Tryz.func80 (by kernel_rfl) (by kernel_rfl) _ _ rfl _ (by first | (simp [Act.eval]; done) | (simp [Act.eval]; rfl)) _ (HT.out _ PR3.out) ?_
    rintro _ w4 ⟨rfl,p4,f4⟩;have hne1:w.heap.size≠P:=by omega
    have hne2:w2.heap.size≠P:=by have:=B2s.out; omega
    have G4:=qd (G3.out.fr f4 (by simpa using hne1))
    have K4:=qd (K3.out.fr f4 (by simpa using hne2))
    have P4:=qd p4;have F4:=qd (qu F3.out f4);have HQ4:Hid (w4.heap[bq]?=w.heap[bq]?):=qd (F4.out.block bq hbq (by simpa using hbP))
    clear p4 f4;refine hK.out _ _ (⟨G4.out.cell,K4.out.cell⟩) (fun hHeld=>?_)
    clear hK K
    try simp only [Act.put,qq]
    refine wpAnyH_take (i:=2) (v:=.string (ba tt)) rfl (by kernel_rfl) (by kernel_rfl) (by kernel_rfl) (fun _ _ _ h=>h) (Or.inl ⟨by rfl,?_⟩) (by assumption) ?_
    ·(intro w hSw; have hfd:=fun W=>f54_1 (.int .i64 tk) (.string (ba tt)) (.int .i64 tn) (.int .i64 tp) W; go_simp)
    try simp only [Act.put,qq]
    refine qU (i:=5) (by kernel_rfl) rfl (fun K hK=>?_)
    refine stepF (by rfl) fo eo _ _ _ rfl #[] #[.pointer (some ⟨bq,0,none⟩)] rfl _ rfl #[.int .i64 2,.pointer (some ⟨bq,0,none⟩)] (by first | (simp [Act.eval]; done) | (simp [Act.eval]; rfl)) _ (HO2.out _ HQ4.out P4.out) ?_
    intro e w5 q5;obtain ⟨c0,c1,c2,c3,c4,c5,c6,ft,rfl,n5,a5,p5,f5⟩:=zK q5;have G5:=qd (G4.out.fr f5 (by simpa using hne1))
    have K5:=qd (K4.out.fr f5 (by simpa using hne2))
    have N6:=qd (n5.fr (Fr.alloc [] w5 (.cells #[c0,c1,c2,c3,c4,c5,c6] 34)) (by simp))
    have R6:=qd (heap_alloc_new w5 (.cells #[c0,c1,c2,c3,c4,c5,c6] 34));have A6:Hid (Apt w.heap.size (w5.heap.size :: ft)):=qd ((a5.mono F4.out.size).cons (by have:=F4.out.size; have:=f5.size; omega) (fun hm=>by have:=n5.lt _ hm; omega))
    have P6:=qd (p5.keep (Bl.alloc w5 (.cells #[c0,c1,c2,c3,c4,c5,c6] 34)));have F6:=qd (qu (qu F4.out f5) (Fr.alloc [P] w5 (.cells #[c0,c1,c2,c3,c4,c5,c6] 34)));have L6:Hid (w.heap.size≤w5.heap.size):=qd (by have:=F4.out.size; have:=f5.size; omega)
    clear q5 n5 a5 p5 f5;refine hK.out _ _ (⟨G5.out.cell,K5.out.cell⟩) (fun hHeld=>?_)
    clear hK K
    try simp only [Act.put,qq]
    refine tq (i:=7) ?_
    try simp only [Act.put,qq]
    refine qU (i:=6) (by kernel_rfl) rfl (fun K hK=>?_)
    refine zQ (by rfl) (v:=.slice (some ⟨w5.heap.size,0,none⟩) 1 1) (w':=w5.alloc (.cells #[c0,c1,c2,c3,c4,c5,c6] 34)) (by go_simp) ?_
    refine hK.out _ _ (⟨(G5.out.bl (Bl.alloc _ _)).cell,(K5.out.bl (Bl.alloc _ _)).cell⟩) (fun hHeld=>?_)
    clear hK K
    try simp only [Act.put,qq]
    refine tq (i:=8) ?_
    try simp only [Act.put,qq]
    refine wpAnyH_done (by kernel_rfl) ?_ _
    clear hHeld
    go_wp2_with fail
    refine bodyPost_ret (v:=.tuple #[.string (ba tt),.slice (some ⟨w5.heap.size,0,none⟩) 1 1]) (by simp [results,Tryz.results166,go_sem]) rfl ?_
    exact ⟨F6.out,_,[c0,c1,c2,c3,c4,c5,c6],ft,rfl,⟨⟨rfl,Or.inr ⟨w5.heap.size,1,_,rfl,L6.out,R6.out,Nat.le_refl _,by decide,rfl,rfl⟩⟩,fun h0=>by cases h0⟩,NdsM.single N6.out,A6.out,P6.out⟩
 rw [if_neg h2] at hr
 by_cases h3:qy (hdT ts s)=3
 ·rw [if_pos h3] at hr
  rw [h3] at HR;have HKw:=qd (fun (V:World) (B0 Br:Nat) (p:Pr V P g c ts s) (q:V.heap[bq]?=w.heap[bq]?) (b0:Box V B0 (.func (.func fo) #[] #[.pointer (some ⟨bq,0,none⟩)]) 173) (b1:Box V Br (.int .i64 (3:Nat)) 3) (n0:B0≠P) (n1:Br≠P) (lb:w.heap.size≤V.heap.size) =>
   keywordsN_ok (ts:=ts) f 180 #[] #[.pointer (some ⟨B0,0,none⟩),.pointer (some ⟨Br,0,none⟩)] #[.pointer (some ⟨B0,0,none⟩),.pointer (some ⟨Br,0,none⟩)] (ent 180 _ _ Tryz.func180 (by kernel_rfl) rfl) (by simp) (pone 3) (fun s hs=>hpg 3 s (by decide) hs) P g c s V r [bq,B0,Br] (fun b hb=>by simp at hb; rcases hb with rfl | rfl | rfl; exact ⟨hbP,by omega⟩; exact ⟨n0,b0.lt⟩; exact ⟨n1,b1.lt⟩)
    (fun X s r g1 p1 o1 e1=>clo180_ok (w:=w) eo pone hO 3 B0 Br (by decide) X s r ((g1 bq (by simp)).trans q) ((g1 B0 (by simp)).trans b0) ((g1 Br (by simp)).trans b1) p1 o1 e1 (by have:=(Array.getElem?_eq_some_iff.1 ((g1 B0 (by simp)).trans b0)).1; exact lt_of_some_heap ((g1 bq (by simp)).trans q) hbq)) p hok hr)
  clear h hy h1 h2 h3 hO hpg;generalize hdT ts s=x at *;obtain ⟨⟨tk,tt,tn⟩,tp⟩:=x;dsimp only at *
  cases r with
  | bad z =>
   go_enter Tryz.func166,Tryz.ntmps166
   go_wp2_with (first
    | (go_at_call 54; refine (HA.out _ PR0.out).mono ?_; rintro e w1 ⟨rfl,b1⟩; have B1:=qd ((bw0.out.trans b1).trans (Bl.alloc w1 (.cells #[.int .i64 tk,.string (ba tt),.int .i64 tn,.int .i64 tp] 54))); have T1:=qd (heap_alloc_new w1 (.cells #[.int .i64 tk,.string (ba tt),.int .i64 tn,.int .i64 tp] 54)); have G1:=qd (((GB.out.bl b1).bl (Bl.alloc w1 (.cells #[.int .i64 tk,.string (ba tt),.int .i64 tn,.int .i64 tp] 54)))); have PR1:=qd ((PR0.out.keep b1).keep (Bl.alloc w1 (.cells #[.int .i64 tk,.string (ba tt),.int .i64 tn,.int .i64 tp] 54))); obtain ⟨z0,z1,z2,z3⟩:=zF T1.out; clear b1)
    | (
     go_at_call 79; refine (HR.out _).mono ?_; rintro e w2 ⟨rfl,b2⟩
     have B2:=qd ((B1.out.trans b2).trans (Bl.alloc w2 (.cells #[.int .i64 (3:Nat)] 3)));have T2:Hid ((w2.alloc (.cells #[.int .i64 (3:Nat)] 3)).heap[w1.heap.size]?=some (.cells #[.int .i64 tk,.string (ba tt),.int .i64 tn,.int .i64 tp] 54 (0,0))):=qd (((b2.trans (Bl.alloc w2 (.cells #[.int .i64 (3:Nat)] 3))).block _ (qf T1.out)).trans T1.out);have G2:=qd ((G1.out.bl b2).bl (Bl.alloc w2 (.cells #[.int .i64 (3:Nat)] 3)));have PR2:=qd ((PR1.out.keep b2).keep (Bl.alloc w2 (.cells #[.int .i64 (3:Nat)] 3)));have K2:Hid (Box (w2.alloc (.cells #[.int .i64 (3:Nat)] 3)) w2.heap.size (.int .i64 (3:Nat)) 3):=qd (heap_alloc_new w2 _);have L2:Hid (w.heap.size≤w2.heap.size):=qd (by have h8:=B1.out.size; have h9:=b2.size; omega)
     have k2:=K2.out.cell;have g2:=G2.out.cell;obtain ⟨u0,u1,u2,u3⟩:=zF T2.out;clear b2)
    | (go_at_call 179; refine (HKw.out _ _ _ PR2.out (B2.out.block bq hbq) G2.out K2.out (by omega) (by have:=L2.out; have:=HPl.out; omega) B2.out.size).mono ?_; rintro e w5 ⟨f5,rfl⟩; have F5:=qd (qu (za B2.out) f5); clear f5))
   exact ⟨rfl,F5.out,rfl⟩
  | ok y s1 =>
   go_enter Tryz.func166,Tryz.ntmps166
   go_wp2_with (first
    | (go_at_call 54; refine (HA.out _ PR0.out).mono ?_; rintro e w1 ⟨rfl,b1⟩; have B1:=qd ((bw0.out.trans b1).trans (Bl.alloc w1 (.cells #[.int .i64 tk,.string (ba tt),.int .i64 tn,.int .i64 tp] 54))); have T1:=qd (heap_alloc_new w1 (.cells #[.int .i64 tk,.string (ba tt),.int .i64 tn,.int .i64 tp] 54)); have G1:=qd (((GB.out.bl b1).bl (Bl.alloc w1 (.cells #[.int .i64 tk,.string (ba tt),.int .i64 tn,.int .i64 tp] 54)))); have PR1:=qd ((PR0.out.keep b1).keep (Bl.alloc w1 (.cells #[.int .i64 tk,.string (ba tt),.int .i64 tn,.int .i64 tp] 54))); obtain ⟨z0,z1,z2,z3⟩:=zF T1.out; clear b1)
    | (
     go_at_call 79; refine (HR.out _).mono ?_; rintro e w2 ⟨rfl,b2⟩
     have B2:=qd ((B1.out.trans b2).trans (Bl.alloc w2 (.cells #[.int .i64 (3:Nat)] 3)));have T2:Hid ((w2.alloc (.cells #[.int .i64 (3:Nat)] 3)).heap[w1.heap.size]?=some (.cells #[.int .i64 tk,.string (ba tt),.int .i64 tn,.int .i64 tp] 54 (0,0))):=qd (((b2.trans (Bl.alloc w2 (.cells #[.int .i64 (3:Nat)] 3))).block _ (qf T1.out)).trans T1.out);have G2:=qd ((G1.out.bl b2).bl (Bl.alloc w2 (.cells #[.int .i64 (3:Nat)] 3)));have PR2:=qd ((PR1.out.keep b2).keep (Bl.alloc w2 (.cells #[.int .i64 (3:Nat)] 3)));have K2:Hid (Box (w2.alloc (.cells #[.int .i64 (3:Nat)] 3)) w2.heap.size (.int .i64 (3:Nat)) 3):=qd (heap_alloc_new w2 _);have L2:Hid (w.heap.size≤w2.heap.size):=qd (by have h8:=B1.out.size; have h9:=b2.size; omega)
     have k2:=K2.out.cell;have g2:=G2.out.cell;obtain ⟨u0,u1,u2,u3⟩:=zF T2.out;clear b2)
    | (go_at_call 179; refine (HKw.out _ _ _ PR2.out (B2.out.block bq hbq) G2.out K2.out (by omega) (by have:=L2.out; have:=HPl.out; omega) B2.out.size).mono ?_; rintro e w5 ⟨f5,v,xs,ft,rfl,z5,n5,a5,p5⟩; have F5:=qd (qu (za B2.out) f5); have L5:=qd B2.out.size))
   refine bodyPost_ret (v:=.tuple #[.string (ba y.1),v]) (by simp [results,Tryz.results166,go_sem]) rfl ?_
   exact ⟨F5.out,v,xs,ft,rfl,⟨zM z5.1 L5.out,z5.2⟩,n5,a5.mono L5.out,p5⟩
 ·rw [if_neg h3] at hr
  injection hr with hr
  subst hr;have q1:((qy (hdT ts s):Int) == 1)=false:=beq_eq_false_iff_ne.2 (by omega)
  have q2:((qy (hdT ts s):Int) == 2)=false:=beq_eq_false_iff_ne.2 (by omega)
  have q3:((qy (hdT ts s):Int) == 3)=false:=beq_eq_false_iff_ne.2 (by omega)
  clear h hok hy h1 h2 h3 hO hpg HT;generalize qy (hdT ts s)=R at *;generalize hdT ts s=x at *;obtain ⟨⟨tk,tt,tn⟩,tp⟩:=x;dsimp only at *
  go_enter Tryz.func166,Tryz.ntmps166
  go_wp2_with (first
   | (go_at_call 54; refine (HA.out _ PR0.out).mono ?_; rintro e w1 ⟨rfl,b1⟩; have B1:=qd ((bw0.out.trans b1).trans (Bl.alloc w1 (.cells #[.int .i64 tk,.string (ba tt),.int .i64 tn,.int .i64 tp] 54))); have T1:=qd (heap_alloc_new w1 (.cells #[.int .i64 tk,.string (ba tt),.int .i64 tn,.int .i64 tp] 54)); have G1:=qd (((GB.out.bl b1).bl (Bl.alloc w1 (.cells #[.int .i64 tk,.string (ba tt),.int .i64 tn,.int .i64 tp] 54)))); have PR1:=qd ((PR0.out.keep b1).keep (Bl.alloc w1 (.cells #[.int .i64 tk,.string (ba tt),.int .i64 tn,.int .i64 tp] 54))); obtain ⟨z0,z1,z2,z3⟩:=zF T1.out; clear b1)
   | (
    go_at_call 79; refine (HR.out _).mono ?_; rintro e w2 ⟨rfl,b2⟩
    have B2:=qd ((B1.out.trans b2).trans (Bl.alloc w2 (.cells #[.int .i64 R] 3)));have T2:Hid ((w2.alloc (.cells #[.int .i64 R] 3)).heap[w1.heap.size]?=some (.cells #[.int .i64 tk,.string (ba tt),.int .i64 tn,.int .i64 tp] 54 (0,0))):=qd (((b2.trans (Bl.alloc w2 (.cells #[.int .i64 R] 3))).block _ (qf T1.out)).trans T1.out);have G2:=qd ((G1.out.bl b2).bl (Bl.alloc w2 (.cells #[.int .i64 R] 3)));have PR2:=qd ((PR1.out.keep b2).keep (Bl.alloc w2 (.cells #[.int .i64 R] 3)));have K2:Hid (Box (w2.alloc (.cells #[.int .i64 R] 3)) w2.heap.size (.int .i64 R) 3):=qd (heap_alloc_new w2 _);have L2:Hid (w.heap.size≤w2.heap.size):=qd (by have h8:=B1.out.size; have h9:=b2.size; omega)
    have k2:=K2.out.cell;have g2:=G2.out.cell;obtain ⟨u0,u1,u2,u3⟩:=zF T2.out;clear b2))
  exact ⟨rfl,za B2.out,rfl⟩
end Go.Proofs.YtfhkhmgodkheaaaGreatDoor
