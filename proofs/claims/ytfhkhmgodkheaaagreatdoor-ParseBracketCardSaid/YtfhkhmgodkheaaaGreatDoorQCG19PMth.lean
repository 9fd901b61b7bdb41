import Derived.Test.YtfhkhmgodkheaaaGreatDoorQCG16PTl2
import Derived.Test.YtfhkhmgodkheaaaGreatDoorQCPWdN
import Derived.Test.YtfhkhmgodkheaaaGreatDoorQCG17PRst
set_option linter.unusedSimpArgs false
set_option linter.unusedVariables false
set_option maxRecDepth 1000000
set_option maxHeartbeats 16000000
namespace Go.Proofs.YtfhkhmgodkheaaaGreatDoor
open Go.RowKit Go.Maps
theorem clo82_ok {P g c:Nat} {ts:Ts} {fo bq:Nat} {w:World} (eo:Enters Tryz.prog fo) (pone:Nat→Ps→Option (Rs (Tok × Nat))) (hO:∀ k V s r,(2≤k∧k≤3)→V.heap[bq]?=w.heap[bq]?→Pr V P g c ts s→Okq ts s→pone k s=some r→Calls Tryz.prog fo #[.int .i64 k,.pointer (some ⟨bq,0,none⟩)] V (PostT P g c ts V r)) (k B0 Br:Nat) (hk:2≤k∧k≤3) (V:World) (s:Ps) (r:Rs (Tok × Nat)) (hq:V.heap[bq]?=w.heap[bq]?) (b0:Box V B0 (.func (.func fo) #[] #[.pointer (some ⟨bq,0,none⟩)]) 97) (b1:Box V Br (.int .i64 k) 3) (h:Pr V P g c ts s) (hok:Okq ts s) (hr:pone k s=some r) (hbl:bq < V.heap.size) :
  Calls Tryz.prog 82 #[.pointer (some ⟨B0,0,none⟩),.pointer (some ⟨Br,0,none⟩)] V (PostT P g c ts V r):=by
 have hB:=Bl.alloc V (.cells #[.int .i64 0,.string ⟨#[]⟩,.int .i64 0,.int .i64 0] 54)
 have c0:=(b0.bl hB).cell
 have c1:=(b1.bl hB).cell
 have HP:=qd (hO k (V.alloc (.cells #[.int .i64 0,.string ⟨#[]⟩,.int .i64 0,.int .i64 0] 54)) s r hk ((hB.block bq hbl).trans hq) (h.keep hB) hok hr)
 have hlp:=h.lt
 unfold Enters at eo
 have hgl:=h.glt (by have:=hok.lt; omega)
 have hres:=qd (heap_alloc_new V (.cells #[.int .i64 0,.string ⟨#[]⟩,.int .i64 0,.int .i64 0] 54))
 clear h hB b0 b1 hO hr hq
 cases r with
 | bad x =>
  go_enter Tryz.func82,Tryz.ntmps82
  go_wp2_with (go_at_fn fo; refine HP.out.mono ?_; rintro e w9 ⟨f9,rfl⟩; have F9:=qd (qu (Fr.alloc [P] V (.cells #[.int .i64 0,.string ⟨#[]⟩,.int .i64 0,.int .i64 0] 54)) f9); clear f9)
  exact ⟨rfl,F9.out,rfl⟩
 | ok y s1 =>
  obtain ⟨⟨yk,yt,yn⟩,yp⟩:=y;unfold PostT tkv at HP;dsimp only at HP
  go_enter Tryz.func82,Tryz.ntmps82
  go_wp2_with (first
   | (
    go_at_fn fo; refine HP.out.mono ?_; rintro e w9 ⟨f9,rfl,p9⟩
    have F9:=qd (qu (Fr.alloc [P] V (.cells #[.int .i64 0,.string ⟨#[]⟩,.int .i64 0,.int .i64 0] 54)) f9);have P9:=qd p9;have r9:Hid (w9.heap[V.heap.size]?=some (.cells #[.int .i64 0,.string ⟨#[]⟩,.int .i64 0,.int .i64 0] 54 (0,0))):=qd ((f9.block _ (by simp) (by simp; omega)).trans hres.out)
    clear f9 p9)
   | (refine wpList_store_row rfl 54 _ _ rfl V.heap.size #[.int .i64 yk,.string (ba yt),.int .i64 yn,.int .i64 yp] rfl rfl 54 _ r9.out (by kernel_rfl) rfl (by kernel_rfl) ?_))
  refine ret54g Tryz.results82 (B:=V.heap.size) (setRow_heap _ _ _ _ 54 (0,0) r9.out) rfl ?_;have fb:=qG w9 V.heap.size #[.int .i64 yk,.string (ba yt),.int .i64 yn,.int .i64 yp];exact ⟨F9.out.trans fb (fun b hb=>Or.inr (by simp at hb; omega)),rfl,P9.out.other fb (by simp; omega) (by simp; omega)⟩
theorem wordedT_ok {ts:Ts} (f:Nat) (fo bq:Nat) (eo:Enters Tryz.prog fo) (pone:Nat→Ps→Option (Rs (Tok × Nat))) (hpg:∀ k s,k≤3→Okq ts s→Pq ts s (pone k s)) (P g c:Nat) (s:Ps) (w:World) (r:Rs (Bs × List (Tok × Nat))) (hbq:bq < w.heap.size) (hbP:bq≠P)
  (hO:∀ k V s r,(2≤k∧k≤3)→V.heap[bq]?=w.heap[bq]?→Pr V P g c ts s→Okq ts s→pone k s=some r→Calls Tryz.prog fo #[.int .i64 k,.pointer (some ⟨bq,0,none⟩)] V (PostT P g c ts V r)) (h:Pr w P g c ts s) (hok:Okq ts s) (hr:zt ts pone f s=some r) :
  Calls Tryz.prog 55 #[.pointer (some ⟨P,0,none⟩),.func (.func fo) #[] #[.pointer (some ⟨bq,0,none⟩)]] w (PostWT P g c ts w r):=by
 have hlp:=h.lt
 have HPl:=qd h.lt
 obtain ⟨w0,hW0⟩:∃ X,w.alloc (.cells #[.func (.func fo) #[] #[.pointer (some ⟨bq,0,none⟩)]] 97)=X:=⟨_,rfl⟩
 have bw0:Hid (Bl w w0):=qd (hW0▸Bl.alloc _ _)
 have GB:Hid (Box w0 w.heap.size (.func (.func fo) #[] #[.pointer (some ⟨bq,0,none⟩)]) 97):=qd (hW0▸heap_alloc_new w _)
 have PR0:=qd (h.keep bw0.out)
 have HA:=qd (fun V p=>zI P g c ts s V p hok.lt (by have:=hok.len; omega))
 have hy:(hdT ts s).1.text.length≤8192:=by have:=hok.txt.1; omega
 have HR:=qd (fun V=>rankT_ok (hdT ts s) V hy)
 have HT:=qd (fun V p=>zY P g c ts s V p hok.ok hok.lt)
 unfold tkv at HA HR HT
 unfold zt at hr
 by_cases h1:qy (hdT ts s)=1
 ·rw [if_pos h1] at hr
  injection hr with hr
  subst hr;rw [h1] at HR;obtain ⟨R,hR⟩:∃ R:Nat,R=1:=⟨1,rfl⟩;rw [← hR] at HR;have q1:((R:Int) == 1)=true:=by rw [hR]; rfl
  clear h hok hy h1 hO hpg hR;generalize qj ts s=st at *;generalize hdT ts s=x at *;obtain ⟨⟨tk,tt,tn⟩,tp⟩:=x;dsimp only at *
  go_enter Tryz.func55,Tryz.ntmps55
  go_wp2_with (first
   | (go_at_call 54; refine (HA.out _ PR0.out).mono ?_; rintro e w1 ⟨rfl,b1⟩; have B1:=qd ((bw0.out.trans b1).trans (Bl.alloc w1 (.cells #[.int .i64 tk,.string (ba tt),.int .i64 tn,.int .i64 tp] 54))); have T1:=qd (heap_alloc_new w1 (.cells #[.int .i64 tk,.string (ba tt),.int .i64 tn,.int .i64 tp] 54)); have G1:=qd (((GB.out.bl b1).bl (Bl.alloc w1 (.cells #[.int .i64 tk,.string (ba tt),.int .i64 tn,.int .i64 tp] 54)))); have PR1:=qd ((PR0.out.keep b1).keep (Bl.alloc w1 (.cells #[.int .i64 tk,.string (ba tt),.int .i64 tn,.int .i64 tp] 54))); obtain ⟨z0,z1,z2,z3⟩:=zF T1.out; clear b1)
   | (
    go_at_call 79; refine (HR.out _).mono ?_; rintro e w2 ⟨rfl,b2⟩
    have B2:=qd ((B1.out.trans b2).trans (Bl.alloc w2 (.cells #[.int .i64 R] 3)));have T2:Hid ((w2.alloc (.cells #[.int .i64 R] 3)).heap[w1.heap.size]?=some (.cells #[.int .i64 tk,.string (ba tt),.int .i64 tn,.int .i64 tp] 54 (0,0))):=qd (((b2.trans (Bl.alloc w2 (.cells #[.int .i64 R] 3))).block _ (qf T1.out)).trans T1.out);have G2:=qd ((G1.out.bl b2).bl (Bl.alloc w2 (.cells #[.int .i64 R] 3)));have PR2:=qd ((PR1.out.keep b2).keep (Bl.alloc w2 (.cells #[.int .i64 R] 3)));have K2:Hid (Box (w2.alloc (.cells #[.int .i64 R] 3)) w2.heap.size (.int .i64 R) 3):=qd (heap_alloc_new w2 _);have L2:Hid (w.heap.size≤w2.heap.size):=qd (by have h8:=B1.out.size; have h9:=b2.size; omega)
    have k2:=K2.out.cell;have g2:=G2.out.cell;obtain ⟨u0,u1,u2,u3⟩:=zF T2.out;clear b2)
   | (go_at_call 80; refine (HT.out _ PR2.out).mono ?_; rintro e w3 ⟨rfl,p3,f3⟩; have P3:=qd p3; have F3:=qd (qu (za B2.out) f3); have hfd:=(fun W=>f54_1 (.int .i64 tk) (.string (ba tt)) (.int .i64 tn) (.int .i64 tp) W); clear p3 f3))
  refine bodyPost_ret (v:=.tuple #[.string (ba tt),.slice none 0 0]) (by simp [results,Tryz.results55,go_sem]) rfl ?_
  exact ⟨F3.out,.slice none 0 0,rfl,⟨World.ownsRow_nil _ _ _ _,fun _=>rfl⟩,P3.out⟩
 rw [if_neg h1] at hr
 by_cases h2:qy (hdT ts s)=2
 ·rw [if_pos h2] at hr
  rw [h2] at HR;have hq:=hok.take (zu (by rw [h2]; decide))
  cases e1:pone 2 (qj ts s) with
  | none=>rw [e1] at hr; cases hr
  | some r1 =>
   rw [e1] at hr;have HO2:=qd (fun V g1 p1=>hO 2 V (qj ts s) r1 (by decide) g1 p1 hq e1)
   have hB2z:Hid (∀ (a b:Nat),a≤b→a≤b):=qd (fun _ _ h=>h)
   clear h hok hy h1 h2 hO hpg hq e1;generalize qj ts s=st at *;generalize hdT ts s=x at *;obtain ⟨⟨tk,tt,tn⟩,tp⟩:=x;dsimp only at *
   cases r1 with
   | bad z =>
    injection hr with hr
    subst hr
    go_enter Tryz.func55,Tryz.ntmps55
    go_wp2_with (first
     | (go_at_call 54; refine (HA.out _ PR0.out).mono ?_; rintro e w1 ⟨rfl,b1⟩; have B1:=qd ((bw0.out.trans b1).trans (Bl.alloc w1 (.cells #[.int .i64 tk,.string (ba tt),.int .i64 tn,.int .i64 tp] 54))); have T1:=qd (heap_alloc_new w1 (.cells #[.int .i64 tk,.string (ba tt),.int .i64 tn,.int .i64 tp] 54)); have G1:=qd (((GB.out.bl b1).bl (Bl.alloc w1 (.cells #[.int .i64 tk,.string (ba tt),.int .i64 tn,.int .i64 tp] 54)))); have PR1:=qd ((PR0.out.keep b1).keep (Bl.alloc w1 (.cells #[.int .i64 tk,.string (ba tt),.int .i64 tn,.int .i64 tp] 54))); obtain ⟨z0,z1,z2,z3⟩:=zF T1.out; clear b1)
     | (
      go_at_call 79; refine (HR.out _).mono ?_; rintro e w2 ⟨rfl,b2⟩
      have B2:=qd ((B1.out.trans b2).trans (Bl.alloc w2 (.cells #[.int .i64 2] 3)));have T2:Hid ((w2.alloc (.cells #[.int .i64 2] 3)).heap[w1.heap.size]?=some (.cells #[.int .i64 tk,.string (ba tt),.int .i64 tn,.int .i64 tp] 54 (0,0))):=qd (((b2.trans (Bl.alloc w2 (.cells #[.int .i64 2] 3))).block _ (qf T1.out)).trans T1.out);have G2:=qd ((G1.out.bl b2).bl (Bl.alloc w2 (.cells #[.int .i64 2] 3)));have PR2:=qd ((PR1.out.keep b2).keep (Bl.alloc w2 (.cells #[.int .i64 2] 3)));have K2:Hid (Box (w2.alloc (.cells #[.int .i64 2] 3)) w2.heap.size (.int .i64 2) 3):=qd (heap_alloc_new w2 _);have L2:Hid (w.heap.size≤w2.heap.size):=qd (by have h8:=B1.out.size; have h9:=b2.size; omega)
      have k2:=K2.out.cell;have g2:=G2.out.cell;obtain ⟨u0,u1,u2,u3⟩:=zF T2.out;clear b2))
    have F3:Hid (Fr [P] w (w2.alloc (.cells #[.int .i64 2] 3)).drew):=qd (qu (za B2.out) (Fr.drew _ _));have PR3:=qd (PR2.out.keep (qV _));have G3:Hid (Box (w2.alloc (.cells #[.int .i64 2] 3)).drew w.heap.size (.func (.func fo) #[] #[.pointer (some ⟨bq,0,none⟩)]) 97):=qd G2.out;have K3:Hid (Box (w2.alloc (.cells #[.int .i64 2] 3)).drew w2.heap.size (.int .i64 2) 3):=qd K2.out;have B2s:Hid (P < w2.heap.size):=qd (by have:=L2.out; have:=HPl.out; omega)
    refine wp_region_held_drew (S:=fun V=>V.cell? ⟨w.heap.size,0,none⟩=some (.func (.func fo) #[] #[.pointer (some ⟨bq,0,none⟩)])∧V.cell? ⟨w2.heap.size,0,none⟩=some (.int .i64 2)) (by kernel_rfl) (⟨G3.out.cell,K3.out.cell⟩) (fun hHeld=>?_)
    refine tq (i:=0) ?_
    try simp only [Act.put,qq]
    refine tq (i:=3) ?_
    try simp only [Act.put,qq]
    refine tq (i:=4) ?_
    try simp only [Act.put,qq]
    refine qU (i:=1) (by kernel_rfl) rfl (fun K hK=>?_)
    refine qO (by rfl) 80 Tryz.f80 Tryz.func80 (by kernel_rfl) (by kernel_rfl) _ _ rfl _ (by first | (simp [Act.eval]; done) | (simp [Act.eval]; rfl)) _ (HT.out _ PR3.out) ?_
    rintro _ w4 ⟨rfl,p4,f4⟩;have hne1:w.heap.size≠P:=by omega
    have hne2:w2.heap.size≠P:=by have:=B2s.out; omega
    have G4:=qd (G3.out.fr f4 (by simpa using hne1))
    have K4:=qd (K3.out.fr f4 (by simpa using hne2))
    have P4:=qd p4;have F4:=qd (qu F3.out f4);have HQ4:Hid (w4.heap[bq]?=w.heap[bq]?):=qd (F4.out.block bq hbq (by simpa using hbP))
    clear p4 f4;refine hK.out _ _ (⟨G4.out.cell,K4.out.cell⟩) (fun hHeld=>?_)
    clear hK K
    try simp only [Act.put,qq]
    refine wpAnyH_take (i:=2) (v:=.string (ba tt)) rfl (by kernel_rfl) (by kernel_rfl) (by kernel_rfl) (fun _ _ _ h=>h) (Or.inl ⟨by rfl,?_⟩) (by assumption) ?_
    ·(intro w hSw; have hfd:=fun W=>f54_1 (.int .i64 tk) (.string (ba tt)) (.int .i64 tn) (.int .i64 tp) W; go_simp)
    try simp only [Act.put,qq]
    refine qU (i:=5) (by kernel_rfl) rfl (fun K hK=>?_)
    refine stepF (by rfl) fo eo _ _ _ rfl #[] #[.pointer (some ⟨bq,0,none⟩)] rfl _ rfl #[.int .i64 2,.pointer (some ⟨bq,0,none⟩)] (by first | (simp [Act.eval]; done) | (simp [Act.eval]; rfl)) _ (HO2.out _ HQ4.out P4.out) ?_
    rintro _ w5 ⟨f5,rfl⟩;exact ⟨rfl,qu F4.out f5,rfl⟩
   | ok y s1 =>
    injection hr with hr
    subst hr;obtain ⟨⟨yk,yt,yn⟩,yp⟩:=y;unfold PostT tkv at HO2;dsimp only at HO2
    go_enter Tryz.func55,Tryz.ntmps55
    go_wp2_with (first
     | (go_at_call 54; refine (HA.out _ PR0.out).mono ?_; rintro e w1 ⟨rfl,b1⟩; have B1:=qd ((bw0.out.trans b1).trans (Bl.alloc w1 (.cells #[.int .i64 tk,.string (ba tt),.int .i64 tn,.int .i64 tp] 54))); have T1:=qd (heap_alloc_new w1 (.cells #[.int .i64 tk,.string (ba tt),.int .i64 tn,.int .i64 tp] 54)); have G1:=qd (((GB.out.bl b1).bl (Bl.alloc w1 (.cells #[.int .i64 tk,.string (ba tt),.int .i64 tn,.int .i64 tp] 54)))); have PR1:=qd ((PR0.out.keep b1).keep (Bl.alloc w1 (.cells #[.int .i64 tk,.string (ba tt),.int .i64 tn,.int .i64 tp] 54))); obtain ⟨z0,z1,z2,z3⟩:=zF T1.out; clear b1)
     | (
      go_at_call 79; refine (HR.out _).mono ?_; rintro e w2 ⟨rfl,b2⟩
      have B2:=qd ((B1.out.trans b2).trans (Bl.alloc w2 (.cells #[.int .i64 2] 3)));have T2:Hid ((w2.alloc (.cells #[.int .i64 2] 3)).heap[w1.heap.size]?=some (.cells #[.int .i64 tk,.string (ba tt),.int .i64 tn,.int .i64 tp] 54 (0,0))):=qd (((b2.trans (Bl.alloc w2 (.cells #[.int .i64 2] 3))).block _ (qf T1.out)).trans T1.out);have G2:=qd ((G1.out.bl b2).bl (Bl.alloc w2 (.cells #[.int .i64 2] 3)));have PR2:=qd ((PR1.out.keep b2).keep (Bl.alloc w2 (.cells #[.int .i64 2] 3)));have K2:Hid (Box (w2.alloc (.cells #[.int .i64 2] 3)) w2.heap.size (.int .i64 2) 3):=qd (heap_alloc_new w2 _);have L2:Hid (w.heap.size≤w2.heap.size):=qd (by have h8:=B1.out.size; have h9:=b2.size; omega)
      have k2:=K2.out.cell;have g2:=G2.out.cell;obtain ⟨u0,u1,u2,u3⟩:=zF T2.out;clear b2))
    have F3:Hid (Fr [P] w (w2.alloc (.cells #[.int .i64 2] 3)).drew):=qd (qu (za B2.out) (Fr.drew _ _));have PR3:=qd (PR2.out.keep (qV _));have G3:Hid (Box (w2.alloc (.cells #[.int .i64 2] 3)).drew w.heap.size (.func (.func fo) #[] #[.pointer (some ⟨bq,0,none⟩)]) 97):=qd G2.out;have K3:Hid (Box (w2.alloc (.cells #[.int .i64 2] 3)).drew w2.heap.size (.int .i64 2) 3):=qd K2.out;have B2s:Hid (P < w2.heap.size):=qd (by have:=L2.out; have:=HPl.out; omega)
    refine wp_region_held_drew (S:=fun V=>V.cell? ⟨w.heap.size,0,none⟩=some (.func (.func fo) #[] #[.pointer (some ⟨bq,0,none⟩)])∧V.cell? ⟨w2.heap.size,0,none⟩=some (.int .i64 2)) (by kernel_rfl) (⟨G3.out.cell,K3.out.cell⟩) (fun hHeld=>?_)
    refine tq (i:=0) ?_
    try simp only [Act.put,qq]
    refine tq (i:=3) ?_
    try simp only [Act.put,qq]
    refine tq (i:=4) ?_
    try simp only [Act.put,qq]
    refine qU (i:=1) (by kernel_rfl) rfl (fun K hK=>?_)
    refine qO (by rfl) 80 Tryz.f80 Tryz.func80 (by kernel_rfl) (by kernel_rfl) _ _ rfl _ (by first | (simp [Act.eval]; done) | (simp [Act.eval]; rfl)) _ (HT.out _ PR3.out) ?_
    rintro _ w4 ⟨rfl,p4,f4⟩;have hne1:w.heap.size≠P:=by omega
    have hne2:w2.heap.size≠P:=by have:=B2s.out; omega
    have G4:=qd (G3.out.fr f4 (by simpa using hne1))
    have K4:=qd (K3.out.fr f4 (by simpa using hne2))
    have P4:=qd p4;have F4:=qd (qu F3.out f4);have HQ4:Hid (w4.heap[bq]?=w.heap[bq]?):=qd (F4.out.block bq hbq (by simpa using hbP))
    clear p4 f4;refine hK.out _ _ (⟨G4.out.cell,K4.out.cell⟩) (fun hHeld=>?_)
    clear hK K
    try simp only [Act.put,qq]
    refine wpAnyH_take (i:=2) (v:=.string (ba tt)) rfl (by kernel_rfl) (by kernel_rfl) (by kernel_rfl) (fun _ _ _ h=>h) (Or.inl ⟨by rfl,?_⟩) (by assumption) ?_
    ·(intro w hSw; have hfd:=fun W=>f54_1 (.int .i64 tk) (.string (ba tt)) (.int .i64 tn) (.int .i64 tp) W; go_simp)
    try simp only [Act.put,qq]
    refine qU (i:=5) (by kernel_rfl) rfl (fun K hK=>?_)
    refine stepF (by rfl) fo eo _ _ _ rfl #[] #[.pointer (some ⟨bq,0,none⟩)] rfl _ rfl #[.int .i64 2,.pointer (some ⟨bq,0,none⟩)] (by first | (simp [Act.eval]; done) | (simp [Act.eval]; rfl)) _ (HO2.out _ HQ4.out P4.out) ?_
    rintro _ w5 ⟨f5,rfl,p5⟩;have G5:=qd (G4.out.fr f5 (by simpa using hne1))
    have K5:=qd (K4.out.fr f5 (by simpa using hne2))
    have R6:=qd (heap_alloc_new w5 (.cells #[.int .i64 yk,.string (ba yt),.int .i64 yn,.int .i64 yp] 54));have P6:=qd (p5.keep (Bl.alloc w5 (.cells #[.int .i64 yk,.string (ba yt),.int .i64 yn,.int .i64 yp] 54)));have F6:=qd (qu (qu F4.out f5) (Fr.alloc [P] w5 (.cells #[.int .i64 yk,.string (ba yt),.int .i64 yn,.int .i64 yp] 54)));have L6:Hid (w.heap.size≤w5.heap.size):=qd (by have:=F4.out.size; have:=f5.size; omega)
    clear p5 f5;refine hK.out _ _ (⟨G5.out.cell,K5.out.cell⟩) (fun hHeld=>?_)
    clear hK K
    try simp only [Act.put,qq]
    refine tq (i:=7) ?_
    try simp only [Act.put,qq]
    refine qU (i:=6) (by kernel_rfl) rfl (fun K hK=>?_)
    refine zQ (by rfl) (v:=.slice (some ⟨w5.heap.size,0,none⟩) 1 1) (w':=w5.alloc (.cells #[.int .i64 yk,.string (ba yt),.int .i64 yn,.int .i64 yp] 54)) (by go_simp) ?_
    refine hK.out _ _ (⟨(G5.out.bl (Bl.alloc _ _)).cell,(K5.out.bl (Bl.alloc _ _)).cell⟩) (fun hHeld=>?_)
    clear hK K
    try simp only [Act.put,qq]
    refine tq (i:=8) ?_
    try simp only [Act.put,qq]
    refine wpAnyH_done (by kernel_rfl) ?_ _
    clear hHeld
    go_wp2_with fail
    refine bodyPost_ret (v:=.tuple #[.string (ba tt),.slice (some ⟨w5.heap.size,0,none⟩) 1 1]) (by simp [results,Tryz.results55,go_sem]) rfl ?_
    exact ⟨F6.out,_,rfl,⟨⟨rfl,Or.inr ⟨w5.heap.size,1,_,rfl,L6.out,R6.out,Nat.le_refl _,by decide,rfl,rfl⟩⟩,fun h0=>by cases h0⟩,P6.out⟩
 rw [if_neg h2] at hr
 by_cases h3:qy (hdT ts s)=3
 ·rw [if_pos h3] at hr
  rw [h3] at HR;have HKw:=qd (fun (V:World) (B0 Br:Nat) (p:Pr V P g c ts s) (q:V.heap[bq]?=w.heap[bq]?) (b0:Box V B0 (.func (.func fo) #[] #[.pointer (some ⟨bq,0,none⟩)]) 97) (b1:Box V Br (.int .i64 (3:Nat)) 3) (n0:B0≠P) (n1:Br≠P) (lb:w.heap.size≤V.heap.size) =>
   keywordsT_ok (ts:=ts) f 82 #[] #[.pointer (some ⟨B0,0,none⟩),.pointer (some ⟨Br,0,none⟩)] #[.pointer (some ⟨B0,0,none⟩),.pointer (some ⟨Br,0,none⟩)] (ent 82 _ _ Tryz.func82 (by kernel_rfl) rfl) (by simp) (pone 3) (fun s hs=>hpg 3 s (by decide) hs) P g c s V r [bq,B0,Br] (fun b hb=>by simp at hb; rcases hb with rfl | rfl | rfl; exact ⟨hbP,by omega⟩; exact ⟨n0,b0.lt⟩; exact ⟨n1,b1.lt⟩)
    (fun X s r g1 p1 o1 e1=>clo82_ok (w:=w) eo pone hO 3 B0 Br (by decide) X s r ((g1 bq (by simp)).trans q) ((g1 B0 (by simp)).trans b0) ((g1 Br (by simp)).trans b1) p1 o1 e1 (by have:=(Array.getElem?_eq_some_iff.1 ((g1 B0 (by simp)).trans b0)).1; exact lt_of_some_heap ((g1 bq (by simp)).trans q) hbq)) p hok hr)
  clear h hy h1 h2 h3 hO hpg;generalize hdT ts s=x at *;obtain ⟨⟨tk,tt,tn⟩,tp⟩:=x;dsimp only at *
  cases r with
  | bad z =>
   go_enter Tryz.func55,Tryz.ntmps55
   go_wp2_with (first
    | (go_at_call 54; refine (HA.out _ PR0.out).mono ?_; rintro e w1 ⟨rfl,b1⟩; have B1:=qd ((bw0.out.trans b1).trans (Bl.alloc w1 (.cells #[.int .i64 tk,.string (ba tt),.int .i64 tn,.int .i64 tp] 54))); have T1:=qd (heap_alloc_new w1 (.cells #[.int .i64 tk,.string (ba tt),.int .i64 tn,.int .i64 tp] 54)); have G1:=qd (((GB.out.bl b1).bl (Bl.alloc w1 (.cells #[.int .i64 tk,.string (ba tt),.int .i64 tn,.int .i64 tp] 54)))); have PR1:=qd ((PR0.out.keep b1).keep (Bl.alloc w1 (.cells #[.int .i64 tk,.string (ba tt),.int .i64 tn,.int .i64 tp] 54))); obtain ⟨z0,z1,z2,z3⟩:=zF T1.out; clear b1)
    | (
     go_at_call 79; refine (HR.out _).mono ?_; rintro e w2 ⟨rfl,b2⟩
     have B2:=qd ((B1.out.trans b2).trans (Bl.alloc w2 (.cells #[.int .i64 (3:Nat)] 3)));have T2:Hid ((w2.alloc (.cells #[.int .i64 (3:Nat)] 3)).heap[w1.heap.size]?=some (.cells #[.int .i64 tk,.string (ba tt),.int .i64 tn,.int .i64 tp] 54 (0,0))):=qd (((b2.trans (Bl.alloc w2 (.cells #[.int .i64 (3:Nat)] 3))).block _ (qf T1.out)).trans T1.out);have G2:=qd ((G1.out.bl b2).bl (Bl.alloc w2 (.cells #[.int .i64 (3:Nat)] 3)));have PR2:=qd ((PR1.out.keep b2).keep (Bl.alloc w2 (.cells #[.int .i64 (3:Nat)] 3)));have K2:Hid (Box (w2.alloc (.cells #[.int .i64 (3:Nat)] 3)) w2.heap.size (.int .i64 (3:Nat)) 3):=qd (heap_alloc_new w2 _);have L2:Hid (w.heap.size≤w2.heap.size):=qd (by have h8:=B1.out.size; have h9:=b2.size; omega)
     have k2:=K2.out.cell;have g2:=G2.out.cell;obtain ⟨u0,u1,u2,u3⟩:=zF T2.out;clear b2)
    | (go_at_call 81; refine (HKw.out _ _ _ PR2.out (B2.out.block bq hbq) G2.out K2.out (by omega) (by have:=L2.out; have:=HPl.out; omega) B2.out.size).mono ?_; rintro e w5 ⟨f5,rfl⟩; have F5:=qd (qu (za B2.out) f5); clear f5))
   exact ⟨rfl,F5.out,rfl⟩
  | ok y s1 =>
   go_enter Tryz.func55,Tryz.ntmps55
   go_wp2_with (first
    | (go_at_call 54; refine (HA.out _ PR0.out).mono ?_; rintro e w1 ⟨rfl,b1⟩; have B1:=qd ((bw0.out.trans b1).trans (Bl.alloc w1 (.cells #[.int .i64 tk,.string (ba tt),.int .i64 tn,.int .i64 tp] 54))); have T1:=qd (heap_alloc_new w1 (.cells #[.int .i64 tk,.string (ba tt),.int .i64 tn,.int .i64 tp] 54)); have G1:=qd (((GB.out.bl b1).bl (Bl.alloc w1 (.cells #[.int .i64 tk,.string (ba tt),.int .i64 tn,.int .i64 tp] 54)))); have PR1:=qd ((PR0.out.keep b1).keep (Bl.alloc w1 (.cells #[.int .i64 tk,.string (ba tt),.int .i64 tn,.int .i64 tp] 54))); obtain ⟨z0,z1,z2,z3⟩:=zF T1.out; clear b1)
    | (
     go_at_call 79; refine (HR.out _).mono ?_; rintro e w2 ⟨rfl,b2⟩
     have B2:=qd ((B1.out.trans b2).trans (Bl.alloc w2 (.cells #[.int .i64 (3:Nat)] 3)));have T2:Hid ((w2.alloc (.cells #[.int .i64 (3:Nat)] 3)).heap[w1.heap.size]?=some (.cells #[.int .i64 tk,.string (ba tt),.int .i64 tn,.int .i64 tp] 54 (0,0))):=qd (((b2.trans (Bl.alloc w2 (.cells #[.int .i64 (3:Nat)] 3))).block _ (qf T1.out)).trans T1.out);have G2:=qd ((G1.out.bl b2).bl (Bl.alloc w2 (.cells #[.int .i64 (3:Nat)] 3)));have PR2:=qd ((PR1.out.keep b2).keep (Bl.alloc w2 (.cells #[.int .i64 (3:Nat)] 3)));have K2:Hid (Box (w2.alloc (.cells #[.int .i64 (3:Nat)] 3)) w2.heap.size (.int .i64 (3:Nat)) 3):=qd (heap_alloc_new w2 _);have L2:Hid (w.heap.size≤w2.heap.size):=qd (by have h8:=B1.out.size; have h9:=b2.size; omega)
     have k2:=K2.out.cell;have g2:=G2.out.cell;obtain ⟨u0,u1,u2,u3⟩:=zF T2.out;clear b2)
    | (go_at_call 81; refine (HKw.out _ _ _ PR2.out (B2.out.block bq hbq) G2.out K2.out (by omega) (by have:=L2.out; have:=HPl.out; omega) B2.out.size).mono ?_; rintro e w5 ⟨f5,v,rfl,z5,p5⟩; have F5:=qd (qu (za B2.out) f5); have L5:=qd B2.out.size))
   refine bodyPost_ret (v:=.tuple #[.string (ba y.1),v]) (by simp [results,Tryz.results55,go_sem]) rfl ?_
   exact ⟨F5.out,v,rfl,⟨zM z5.1 L5.out,z5.2⟩,p5⟩
 ·rw [if_neg h3] at hr
  injection hr with hr
  subst hr;have q1:((qy (hdT ts s):Int) == 1)=false:=beq_eq_false_iff_ne.2 (by omega)
  have q2:((qy (hdT ts s):Int) == 2)=false:=beq_eq_false_iff_ne.2 (by omega)
  have q3:((qy (hdT ts s):Int) == 3)=false:=beq_eq_false_iff_ne.2 (by omega)
  clear h hok hy h1 h2 h3 hO hpg HT;generalize qy (hdT ts s)=R at *;generalize hdT ts s=x at *;obtain ⟨⟨tk,tt,tn⟩,tp⟩:=x;dsimp only at *
  go_enter Tryz.func55,Tryz.ntmps55
  go_wp2_with (first
   | (go_at_call 54; refine (HA.out _ PR0.out).mono ?_; rintro e w1 ⟨rfl,b1⟩; have B1:=qd ((bw0.out.trans b1).trans (Bl.alloc w1 (.cells #[.int .i64 tk,.string (ba tt),.int .i64 tn,.int .i64 tp] 54))); have T1:=qd (heap_alloc_new w1 (.cells #[.int .i64 tk,.string (ba tt),.int .i64 tn,.int .i64 tp] 54)); have G1:=qd (((GB.out.bl b1).bl (Bl.alloc w1 (.cells #[.int .i64 tk,.string (ba tt),.int .i64 tn,.int .i64 tp] 54)))); have PR1:=qd ((PR0.out.keep b1).keep (Bl.alloc w1 (.cells #[.int .i64 tk,.string (ba tt),.int .i64 tn,.int .i64 tp] 54))); obtain ⟨z0,z1,z2,z3⟩:=zF T1.out; clear b1)
   | (
    go_at_call 79; refine (HR.out _).mono ?_; rintro e w2 ⟨rfl,b2⟩
    have B2:=qd ((B1.out.trans b2).trans (Bl.alloc w2 (.cells #[.int .i64 R] 3)));have T2:Hid ((w2.alloc (.cells #[.int .i64 R] 3)).heap[w1.heap.size]?=some (.cells #[.int .i64 tk,.string (ba tt),.int .i64 tn,.int .i64 tp] 54 (0,0))):=qd (((b2.trans (Bl.alloc w2 (.cells #[.int .i64 R] 3))).block _ (qf T1.out)).trans T1.out);have G2:=qd ((G1.out.bl b2).bl (Bl.alloc w2 (.cells #[.int .i64 R] 3)));have PR2:=qd ((PR1.out.keep b2).keep (Bl.alloc w2 (.cells #[.int .i64 R] 3)));have K2:Hid (Box (w2.alloc (.cells #[.int .i64 R] 3)) w2.heap.size (.int .i64 R) 3):=qd (heap_alloc_new w2 _);have L2:Hid (w.heap.size≤w2.heap.size):=qd (by have h8:=B1.out.size; have h9:=b2.size; omega)
    have k2:=K2.out.cell;have g2:=G2.out.cell;obtain ⟨u0,u1,u2,u3⟩:=zF T2.out;clear b2))
  exact ⟨rfl,za B2.out,rfl⟩
theorem PostR.back {P g c:Nat} {ts:Ts} {w w0 w':World} {r:Rs Src} {e:Ending} (b:Bl w w0) (h:PostR P g c ts w0 r e w'):PostR P g c ts w r e w':=by
 refine ⟨qu (za b) h.1,?_⟩
 have h2:=h.2
 cases r with
 | bad x=>exact h2
 | ok n s =>
  obtain ⟨t0,t1,t2,t3,t4,t5,ft,e1,h1,h3,h4⟩:=h2;exact ⟨t0,t1,t2,t3,t4,t5,ft,e1,h1,h3.mono b.size,h4⟩
theorem SrM.lt {w:World} {t:Src} {v:Value} {ft:List Nat} (h:SrM w t v ft):∀ b∈ft,b < w.heap.size:=by
 obtain ⟨sn,sp,sb,f1,f2,f3,f4,xs,e1,e2,h1,h2,h3,h4⟩:=h
 subst e2
 intro b hb
 simp only [List.mem_append] at hb
 rcases hb with hb | hb | hb | hb
 ·exact h1.lt b hb
 ·exact h2.lt b hb
 ·exact h3.lt b hb
 ·exact h4.lt b hb
theorem SrM.all {w:World} {t:Src} {t0 t1 t2 t3 t4 t5:Value} {ft:List Nat} (h:SrM w t (.agg #[t0,t1,t2,t3,t4,t5]) ft):(#[t0,t1,t2,t3,t4,t5].all fun x=>x.oneCell')=true∧∀ sel place,SrM w { t with sel:=sel,place:=place } (.agg #[.string (ba sel),.int .i64 (place:Nat),t2,t3,t4,t5]) ft:=by
 obtain ⟨sn,sp,sb,f1,f2,f3,f4,xs,e1,e2,h1,h2,h3,h4⟩:=h
 obtain ⟨p1,c1,k1⟩:=h1.slice
 obtain ⟨p2,c2,k2⟩:=h2.slice
 obtain ⟨p3,c3,k3⟩:=h3.slice
 injection e1 with e1
 simp only [Array.mk.injEq,List.cons.injEq,and_true] at e1
 obtain ⟨rfl,rfl,rfl,rfl,rfl,rfl⟩:=e1
 subst k1 k2 k3
 exact ⟨by kernel_rfl,fun sel place=>⟨_,_,_,f1,f2,f3,f4,xs,rfl,e2,h1,h2,h3,h4⟩⟩
theorem jo {V:World} {B:Nat} {c0 c1 c2 c3 c4 c5:Value} {t:TypeId} (h:V.heap[B]?=some (.cells #[c0,c1,c2,c3,c4,c5] t (0,0))):V.cell? ⟨B,0,none⟩=some c0∧V.cell? ⟨B,1,none⟩=some c1∧V.cell? ⟨B,2,none⟩=some c2∧V.cell? ⟨B,3,none⟩=some c3∧V.cell? ⟨B,4,none⟩=some c4∧V.cell? ⟨B,5,none⟩=some c5 :=
 ⟨by rw [qh h]; rfl,by rw [qh h]; rfl,by rw [qh h]; rfl,by rw [qh h]; rfl,by rw [qh h]; rfl,by rw [qh h]; rfl⟩
theorem doit_ok (ts:Ts) (f:Nat) (hB:∀ P g c s w r,Pr w P g c ts s→Okq ts s→zg ts f 18 s=some r→Calls Tryz.prog 60 #[.pointer (some ⟨P,0,none⟩),.int .i64 (18:Nat)] w (PostB P g c ts w r)) (P g c:Nat) (s:Ps) (w:World) (r:Rs Src) (h:Pr w P g c ts s) (hok:Okq ts s) (hr:doitP ts f s=some r):Calls Tryz.prog 25 #[.pointer (some ⟨P,0,none⟩)] w (PostR P g c ts w r):=by
 have hlp:=h.lt
 have hgl:=h.glt (by have:=hok.lt; omega)
 obtain ⟨w0,hW0⟩:∃ X,w.alloc (.cells #[.string ⟨#[]⟩,.int .i64 0,.int .i64 0,.slice none 0 0,.slice none 0 0,.slice none 0 0] 27)=X:=⟨_,rfl⟩
 have B0:Hid (Bl w w0):=qd (hW0▸Bl.alloc _ _)
 have RES0:Hid (w0.heap[w.heap.size]?=some (.cells #[.string ⟨#[]⟩,.int .i64 0,.int .i64 0,.slice none 0 0,.slice none 0 0,.slice none 0 0] 27 (0,0))):=qd (hW0▸heap_alloc_new w _)
 have HR:=qd (rest_ok ts f hB [] P g c (P+1) s w0 r (.slice none 0 0) ⟨World.ownsRow_nil _ _ _ _,fun _=>rfl⟩ (by omega) (by simp) (h.keep B0.out) hok hr)
 clear h hok hB hr
 cases r with
 | bad x =>
  go_enter Tryz.func25,Tryz.ntmps25
  go_wp2_with (go_at_call 34; refine HR.out.mono ?_; rintro e w1 ⟨f1,rfl⟩; have F1:=qd (qu (za B0.out) f1); clear f1)
  exact ⟨rfl,F1.out,rfl⟩
 | ok t s1 =>
  go_enter Tryz.func25,Tryz.ntmps25
  go_wp2_with (first
   | (
    go_at_call 34; refine HR.out.mono ?_; rintro e w1 ⟨f1,t0,t1,t2,t3,t4,t5,ft,rfl,n1,a1,p1⟩
    have F1:=qd (qu (za B0.out) f1);have N1:=qd n1;have A1:=qd a1;have P1:=qd p1;have RES1:Hid (w1.heap[w.heap.size]?=some (.cells #[.string ⟨#[]⟩,.int .i64 0,.int .i64 0,.slice none 0 0,.slice none 0 0,.slice none 0 0] 27 (0,0))):=qd ((f1.block _ (qf RES0.out) (by simp; omega)).trans RES0.out)
    clear f1 n1 a1 p1)
   | (refine wpList_store_row rfl 27 _ _ rfl w.heap.size #[t0,t1,t2,t3,t4,t5] rfl rfl 27 _ RES1.out (by kernel_rfl) rfl N1.out.all.1 ?_))
  refine ret27 Tryz.results25 RES1.out rfl ?_;have fb:=qG w1 w.heap.size #[t0,t1,t2,t3,t4,t5];have hl0:=qf RES0.out;exact ⟨F1.out.trans fb (fun b hb=>Or.inr (by simp at hb; omega)),_,_,_,_,_,_,ft,rfl,N1.out.fr fb (fun b hb=>by have:=A1.out.lo b hb; simp; omega),A1.out.mono (by omega),P1.out.other fb (by simp; omega) (by simp; omega)⟩
theorem method_ok (ts:Ts) (f:Nat) (hB:∀ P g c s w r,Pr w P g c ts s→Okq ts s→zg ts f 18 s=some r→Calls Tryz.prog 60 #[.pointer (some ⟨P,0,none⟩),.int .i64 (18:Nat)] w (PostB P g c ts w r)) (P g c:Nat) (s:Ps) (w:World) (r:Rs Src) (h:Pr w P g c ts s) (hok:Okq ts s) (hr:methodP ts f s=some r):Calls Tryz.prog 32 #[.pointer (some ⟨P,0,none⟩)] w (PostR P g c ts w r):=by
 have hlp:=h.lt
 have hgl:=h.glt (by have:=hok.lt; omega)
 have hbp:P≠w.heap.size:=by omega
 obtain ⟨wa,hWa⟩:∃ X,w.alloc (.cells #[.pointer (some ⟨P,0,none⟩)] 62)=X:=⟨_,rfl⟩
 have bwa:Bl w wa:=hWa▸Bl.alloc _ _
 obtain ⟨w0,hW0⟩:∃ X,wa.alloc (.cells #[.string ⟨#[]⟩,.int .i64 0,.int .i64 0,.slice none 0 0,.slice none 0 0,.slice none 0 0] 27)=X:=⟨_,rfl⟩
 have b0:Bl wa w0:=hW0▸Bl.alloc _ _
 have HB0:Hid (Box w0 w.heap.size (.pointer (some ⟨P,0,none⟩)) 62):=qd ((show Box wa w.heap.size _ 62 from hWa▸heap_alloc_new w _).bl b0)
 have RES0:Hid (w0.heap[wa.heap.size]?=some (.cells #[.string ⟨#[]⟩,.int .i64 0,.int .i64 0,.slice none 0 0,.slice none 0 0,.slice none 0 0] 27 (0,0))):=qd (hW0▸heap_alloc_new wa _)
 have x0:=HB0.out.cell
 have hsa:w.heap.size < wa.heap.size:=by rw [← hWa]; simp
 have PR0:=qd ((h.keep bwa).keep b0)
 have HA:=qd (fun V p=>zI P g c ts s V p hok.lt (by have:=hok.len; omega))
 unfold tkv at HA
 refine Calls.mono (R:=PostR P g c ts wa r) ?_ (fun e w' q=>PostR.back bwa q)
 unfold methodP at hr
 have Bw:Hid (Bl wa w0):=qd b0
 cases e1:zt ts (fun _ s=>some (qS ts 1 s)) f s with
 | none=>rw [e1] at hr; cases hr
 | some r1 =>
  rw [e1] at hr;have hpo:∀ k s,k≤3→Okq ts s→Pq ts s ((fun (_:Nat) s=>some (qS ts 1 s)) k s):=fun k s _ hs=>(Pg.need hs (by decide)).q
  have HW:=qd (fun V (p:Pr V P g c ts s) (b:Box V w.heap.size (.pointer (some ⟨P,0,none⟩)) 62)=>wordedT_ok (ts:=ts) f 56 w.heap.size (ent 56 _ _ Tryz.func56 (by kernel_rfl) rfl) (fun _ s=>some (qS ts 1 s)) hpo P g c s V r1 b.lt (fun e=>hbp e.symm)
   (fun k V' s r hk q p' o' e'=>by injection e' with e'; subst e'; exact clo56_ok P g c ts w.heap.size s V' k p' o' (q.trans b)) p hok e1)
  have hq1:=fun x s1 (e:r1=.ok x s1)=>(worded_pg hpo f s hok x s1 (by rw [e1,e])).2
  have hl1:=fun x s1 (e:r1=.ok x s1)=>worded_len hpo f s hok x s1 (by rw [e1,e])
  clear h hok e1 hpo;generalize hdT ts s=y at *;obtain ⟨⟨tk,tt,tn⟩,tp⟩:=y;dsimp only at *
  cases r1 with
  | bad x =>
   injection hr with hr
   subst hr;clear hq1 hl1 hB
   go_enter Tryz.func32,Tryz.ntmps32
   have hfd:=fun W=>js (.int .i64 tk) (.string (ba tt)) (.int .i64 tn) (.int .i64 tp) W
   go_wp2_with (first
    | (go_at_call 54; refine (HA.out _ PR0.out).mono ?_; rintro e w1 ⟨rfl,b1⟩; have P1:=qd (PR0.out.keep b1); have X1:=qd (HB0.out.bl b1); have B1:=qd (Bw.out.trans b1); have x1:=X1.out.cell; clear b1)
    | (go_at_call 55; refine (HW.out _ P1.out X1.out).mono ?_; rintro e w2 ⟨f2,rfl⟩; have F2:=qd (qu (za B1.out) f2); clear f2))
   exact ⟨rfl,F2.out,rfl⟩
  | ok x s1 =>
   obtain ⟨sel,ps⟩:=x;have hq:=hq1 _ _ rfl;have hl:ps.length≤4097:=hl1 _ _ rfl;clear hq1 hl1;have hr2:qF (restP ts f ps s1) (fun t s2=>some (.ok { t with sel:=sel,place:=tp } s2))=some r:=hr
   cases e2:restP ts f ps s1 with
   | none=>rw [e2] at hr2; cases hr2
   | some r2 =>
    rw [e2] at hr2;have HRs:=qd (fun V p bq vps z hb=>rest_ok ts f hB ps P g c bq s1 V r2 vps z hb hl p hq e2)
    clear hq e2 hB hr
    cases r2 with
    | bad z =>
     injection hr2 with hr2
     subst hr2
     go_enter Tryz.func32,Tryz.ntmps32
     have hfd:=fun W=>js (.int .i64 tk) (.string (ba tt)) (.int .i64 tn) (.int .i64 tp) W
     go_wp2_with (first
      | (go_at_call 54; refine (HA.out _ PR0.out).mono ?_; rintro e w1 ⟨rfl,b1⟩; have P1:=qd (PR0.out.keep b1); have X1:=qd (HB0.out.bl b1); have B1:=qd (Bw.out.trans b1); have x1:=X1.out.cell; clear b1)
      | (go_at_call 55; refine (HW.out _ P1.out X1.out).mono ?_; rintro e w2 ⟨f2,v,rfl,z2,p2⟩; have F2:=qd (qu (za B1.out) f2); have Z2:=qd z2; have P2:=qd p2; have X2:=qd (X1.out.fr f2 (by simpa using fun e=>hbp e.symm)); have x2:=X2.out.cell; have L1:=qd B1.out.size; clear f2 z2 p2)
      | (go_at_call 34; refine (HRs.out _ P2.out _ _ Z2.out (by have:=L1.out; omega)).mono ?_; rintro e w3 ⟨f3,rfl⟩; have F3:=qd (qu F2.out f3); clear f3))
     exact ⟨rfl,F3.out,rfl⟩
    | ok t s2 =>
     injection hr2 with hr2
     subst hr2
     go_enter Tryz.func32,Tryz.ntmps32
     have hfd:=fun W=>js (.int .i64 tk) (.string (ba tt)) (.int .i64 tn) (.int .i64 tp) W
     go_wp2_with (first
      | (go_at_call 54; refine (HA.out _ PR0.out).mono ?_; rintro e w1 ⟨rfl,b1⟩; have P1:=qd (PR0.out.keep b1); have X1:=qd (HB0.out.bl b1); have B1:=qd (Bw.out.trans b1); have x1:=X1.out.cell; have RES1:=qd ((b1.block _ (qf RES0.out)).trans RES0.out); clear b1)
      | (go_at_call 55; refine (HW.out _ P1.out X1.out).mono ?_; rintro e w2 ⟨f2,v,rfl,z2,p2⟩; have F2:=qd (qu (za B1.out) f2); have Z2:=qd z2; have P2:=qd p2; have X2:=qd (X1.out.fr f2 (by simpa using fun e=>hbp e.symm)); have x2:=X2.out.cell; have L1:=qd B1.out.size; have RES2:=qd ((f2.block _ (qf RES1.out) (by simp; omega)).trans RES1.out); clear f2 z2 p2)
      | (
       go_at_call 34; refine (HRs.out _ P2.out _ _ Z2.out (by have:=L1.out; omega)).mono ?_; rintro e w3 ⟨f3,t0,t1,t2,t3,t4,t5,ft,rfl,n3,a3,p3⟩
       have F3:=qd (qu F2.out f3);have RES3:w3.heap[wa.heap.size]?=some (.cells #[.string ⟨#[]⟩,.int .i64 0,.int .i64 0,.slice none 0 0,.slice none 0 0,.slice none 0 0] 27 (0,0)):=(f3.block _ (qf RES2.out) (by simp; omega)).trans RES2.out
       have hl3:=qf RES3;have R4:=qd (heap_alloc_new w3 (.cells #[.string ⟨#[]⟩,.int .i64 0,.int .i64 0,.slice none 0 0,.slice none 0 0,.slice none 0 0] 27));obtain ⟨W4,hW4⟩:∃ X,(w3.alloc (.cells #[.string ⟨#[]⟩,.int .i64 0,.int .i64 0,.slice none 0 0,.slice none 0 0,.slice none 0 0] 27)).setRow w3.heap.size #[t0,t1,t2,t3,t4,t5]=X:=⟨_,rfl⟩;have f4:Fr [] w3 W4:=hW4▸(Fr.alloc [] w3 _).trans (qG _ _ _) (by simp)
       have g4:W4.heap[w3.heap.size]?=some (.cells #[t0,t1,t2,t3,t4,t5] 27 (0,0)):=hW4▸setRow_heap _ _ _ _ 27 (0,0) R4.out;obtain ⟨W5,hW5⟩:∃ X,W4.setCell ⟨w3.heap.size,0,none⟩ (.string (ba sel))=X:=⟨_,rfl⟩;have f5:Fr [w3.heap.size] W4 W5:=hW5▸Fr.setCell _ _ _ (by simp)
       have g5:W5.heap[w3.heap.size]?=some (.cells #[.string (ba sel),t1,t2,t3,t4,t5] 27 (0,0)):=by rw [← hW5,zc g4]; rfl
       obtain ⟨W6,hW6⟩:∃ X,W5.setCell ⟨w3.heap.size,1,none⟩ (.int .i64 tp)=X:=⟨_,rfl⟩;have f6:Fr [w3.heap.size] W5 W6:=hW6▸Fr.setCell _ _ _ (by simp)
       have g6:W6.heap[w3.heap.size]?=some (.cells #[.string (ba sel),.int .i64 tp,t2,t3,t4,t5] 27 (0,0)):=by rw [← hW6,zc g5]; rfl
       have c40:=(jo g4).1;have z40:=qK g4 0;have c51:=(jo g5).2.1;have z51:=qK g5 1;obtain ⟨u0,u1,u2,u3,u4,u5⟩:=jo g6;have fw6:Fr [] w3 W6:=(f4.trans f5 (by simp)).trans f6 (by simp)
       have N6:=qd (SrM.all (SrM.fr n3 fw6 (by simp)))
       have A6:=qd a3;have P6:=qd (p3.other fw6 (by simp) (by simp))
       have F6:=qd (qu F3.out (fw6.mono (by simp)))
       have RES6:Hid (W6.heap[wa.heap.size]?=some (.cells #[.string ⟨#[]⟩,.int .i64 0,.int .i64 0,.slice none 0 0,.slice none 0 0,.slice none 0 0] 27 (0,0))):=qd ((fw6.block _ hl3 (by simp)).trans RES3)
       have AL4:=qd (SrM.all n3).1;have AL6:=qd (SrM.all ((SrM.all n3).2 sel tp)).1;clear f3 n3 a3 p3 f4 f5 f6 g4 g5 g6 fw6 RES3 hl3)
      | (refine wpList_store_row rfl 27 _ _ rfl w3.heap.size #[t0,t1,t2,t3,t4,t5] rfl rfl 27 _ R4.out (by kernel_rfl) rfl AL4.out ?_; rw [hW4])
      | (refine wpList_store_row rfl 27 _ _ rfl wa.heap.size #[.string (ba sel),.int .i64 tp,t2,t3,t4,t5] rfl rfl 27 _ RES6.out (by kernel_rfl) rfl AL6.out ?_))
     refine ret27 Tryz.results32 RES6.out rfl ?_;have fb:=qG W6 wa.heap.size #[.string (ba sel),.int .i64 tp,t2,t3,t4,t5];have hL:=L1.out;have hl0:=qf RES0.out;have hs2:=qf RES2.out;exact ⟨F6.out.trans fb (fun b hb=>Or.inr (by simp at hb; omega)),_,_,_,_,_,_,ft,rfl,(N6.out.2 sel tp).fr fb (fun b hb=>by have:=A6.out.lo b hb; simp; omega),A6.out.mono (by omega),P6.out.other fb (by simp; omega) (by simp; omega)⟩
end Go.Proofs.YtfhkhmgodkheaaaGreatDoor
