import Derived.Test.YtfhkhmgodkheaaaGreatDoorQCG13PKw0
import Derived.Test.YtfhkhmgodkheaaaGreatDoorQCG12PArr0
set_option linter.unusedSimpArgs false
set_option linter.unusedVariables false
set_option maxRecDepth 1000000
set_option maxHeartbeats 16000000
namespace Go.Proofs.YtfhkhmgodkheaaaGreatDoor
open Go.RowKit Go.Maps
theorem zQ {ops:Array Oper} {o:Oper} {a:Act} {w w':World} {v:Value} {K:Act→World→Prop} {Q:Exit→Act→World→Prop} {E:Prop} (hw:Region.wanted o (yielded ops a.tmps)=true) (hr:(execOp a.eval o).run Tryz.prog w=.ok (.value v) w') (h:K (a.put o.dst v) w'):if Region.wanted o (yielded ops a.tmps)=true then Oper.wp Tryz.prog o a w K Q else E:=by
 rw [if_pos hw]
 unfold Oper.wp
 rw [hr]
 exact h
def PostT (P g c:Nat) (ts:Ts) (w:World) (r:Rs (Tok × Nat)) (e:Ending) (w':World):Prop:=Fr [P] w w'∧match r with
 | .ok x s'=>e=.returned (tkv x)∧Pr w' P g c ts s'
 | .bad x=>e=.panicked [{ v:=jl x,recovered:=false }]
theorem clo191_ok {P g c:Nat} {ts:Ts} {B0 B1 B2:Nat} {oneV:Value} {Gk:List Nat} {w0:World} (W:World) (F:List Nat) (acc:List ((Tok × Nat) × Nd)) (s:Ps) (h:I3 (β:=Nd) P g c ts B0 B1 B2 oneV 127 Gk w0 W F acc s) (a:Apy P g B0 B1 B2 Gk w0):Calls Tryz.prog 191 #[.pointer (some ⟨B0,0,none⟩)] W fun e w'=>e=.returned (.bool (decide (qy (hdT ts s)=3)))∧I3 (β:=Nd) P g c ts B0 B1 B2 oneV 127 Gk w0 w' F acc s∧Fr F W w':=by
 have HA:=qd (zI P g c ts s W h.pr h.ok.lt (by have:=h.ok.len; omega))
 have hy:(hdT ts s).1.text.length≤8192:=by have:=h.ok.txt.1; omega
 have HR:=qd (fun V=>rankT_ok (hdT ts s) V hy)
 have hb:=h.b0.cell
 have HI:=qd h
 rw [← rank3]
 unfold tkv at HA HR
 generalize qy (hdT ts s)=R at *
 generalize hdT ts s=x at *
 obtain ⟨⟨tk,tt,tn⟩,tp⟩:=x
 dsimp only at *
 have HAp:=qd a
 clear h a hy
 go_enter Tryz.func191,Tryz.ntmps191
 go_wp2_with (first
  | (go_at_call 54; refine HA.out.mono ?_; rintro e w1 ⟨rfl,b1⟩; have B3:=qd b1; clear b1)
  | (go_at_call 79; refine (HR.out _).mono ?_; rintro e w2 ⟨rfl,b2⟩; have B4:=qd (B3.out.trans b2); clear b2))
 go_ret
 exact ⟨rfl,HI.out.go HAp.out (za B4.out) (HI.out.pr.keep B4.out) HI.out.ok,Fr.ofBl B4.out _⟩
theorem clo192_ok {P g c:Nat} {ts:Ts} {B0 B1 B2:Nat} {Gk:List Nat} {w0:World} (fo:Nat) (pre caps all:Array Value) (eo:Enters Tryz.prog fo) (hal:pre++caps=all) (pone:Ps→Option (Rs Nd)) (hpg:∀ s,Okq ts s→Pq ts s (pone s))
  (hO:∀ V s r,(∀ b∈Gk,V.heap[b]?=w0.heap[b]?)→Pr V P g c ts s→Okq ts s→pone s=some r→Calls Tryz.prog fo all V (PostN P g c ts V r))
  (W:World) (F:List Nat) (acc:List ((Tok × Nat) × Nd)) (s:Ps) (r:Rs ((Tok × Nat) × Nd)) (h:I3 (β:=Nd) P g c ts B0 B1 B2 (.func (.func fo) pre caps) 127 Gk w0 W F acc s) (a:Apy P g B0 B1 B2 Gk w0) (hl:acc.length≤1000000) (hth:qy (hdT ts s)=3) (hr:qF (pone (qj ts s)) (fun a s2=>some (.ok (hdT ts s,a) s2))=some r) :
  Calls Tryz.prog 192 #[.pointer (some ⟨B2,0,none⟩),.pointer (some ⟨B0,0,none⟩),.pointer (some ⟨B1,0,none⟩)] W (PostO (fun a=>a.2) (I3 (β:=Nd) P g c ts B0 B1 B2 (.func (.func fo) pre caps) 127 Gk w0) acc W F r):=by
 have hok:=h.ok
 have hAr:qy (hdT ts s)=3:=hth
 have hq:=hok.take (zu (by rw [hAr]; decide))
 have HT:=qd (fun V p=>zY P g c ts s V p hok.ok hok.lt)
 unfold tkv at HT
 obtain ⟨p,cw,hbx2,hFe,hbl0,hwd⟩:=h.word a (hdT ts s) hl
 subst hFe
 have hbl:=qd hbl0
 have HI:=qd h
 have HAp:=qd a
 have HQ:=qd hq
 have bx2:=qd hbx2
 have bx0:=qd h.b0
 have HWd:=qd hwd
 obtain ⟨W1,hW1⟩:∃ X,W.alloc (.cells #[.int .i64 0,.string ⟨#[]⟩,.int .i64 0,.int .i64 0,.slice none 0 0,.slice none 0 0,.slice none 0 0] 34)=X:=⟨_,rfl⟩
 have bW1:Bl W W1:=hW1▸Bl.alloc _ _
 have F1:Hid (Fr [P] W W1.drew):=qd (qu (za bW1) (Fr.drew _ _))
 have b2c:Hid (Box W1.drew B2 (.slice p acc.length cw) 50):=qd (hbx2.bl (bW1.trans (qV W1)))
 have b0c:Hid (Box W1.drew B0 (.pointer (some ⟨P,0,none⟩)) 62):=qd (h.b0.bl (bW1.trans (qV W1)))
 have p1:Hid (Pr W1.drew P g c ts s):=qd ((h.pr.keep bW1).keep (qV W1))
 have hszW:Hid (W.heap.size < W1.drew.heap.size):=qd (by show W.heap.size < W1.heap.size; rw [← hW1]; simp)
 have hB2p:Hid (B2 ∉ blk p):=qd (fun hm=>by have:=(hbl0 _ hm).1; have:=a.l2; omega)
 have hB0p:Hid (B0 ∉ blk p):=qd (fun hm=>by have:=(hbl0 _ hm).1; have:=a.l0; omega)
 have hres:Hid (W1.drew.heap[W.heap.size]?=some (.cells #[.int .i64 0,.string ⟨#[]⟩,.int .i64 0,.int .i64 0,.slice none 0 0,.slice none 0 0,.slice none 0 0] 34 (0,0))):=qd (by show W1.heap[W.heap.size]?=_; rw [← hW1]; exact heap_alloc_new W _)
 cases e1:pone (qj ts s) with
 | none=>rw [e1] at hr; cases hr
 | some r1 =>
  rw [e1] at hr;have HO:=qd (fun V (u:Unit) g1 p1=>hO V (qj ts s) r1 g1 p1 hq e1)
  have hpq:=hpg (qj ts s) hq;subst hal;clear h a hok hAr hq hbx2 hwd hth hO hpg hbl0;generalize qj ts s=st at *;generalize hdT ts s=x at *;obtain ⟨⟨tk,tt,tn⟩,tp⟩:=x;dsimp only at *;unfold Enters at eo
  cases r1 with
  | bad z =>
   injection hr with hr
   subst hr;clear hpq e1
   go_enter Tryz.func192,Tryz.ntmps192
   go_wp2_with fail
   refine wp_region_last (L:=5) (S:=fun V=>V.cell? ⟨B2,0,none⟩=some (.slice p acc.length cw)∧V.cell? ⟨B0,0,none⟩=some (.pointer (some ⟨P,0,none⟩))) (by kernel_rfl) (⟨b2c.out.cell,b0c.out.cell⟩) (fun hHeld=>?_)
   refine jp (i:=0) (v:=?_) rfl (by kernel_rfl) (by kernel_rfl) (by kernel_rfl) (by decide) (by kernel_rfl) (fun _ _ _ h=>h) (Or.inl ⟨by rfl,?_⟩) (by assumption) ?_
   rotate_left
   ·(intro w hSw; (try dsimp only at hSw); (try obtain ⟨hS1,hS2⟩:=hSw); first | (go_simp; done) | (go_simp; with_reducible rfl))
   try simp only [Act.put,qq]
   refine jp (i:=1) (v:=?_) rfl (by kernel_rfl) (by kernel_rfl) (by kernel_rfl) (by decide) (by kernel_rfl) (fun _ _ _ h=>h) (Or.inl ⟨by rfl,?_⟩) (by assumption) ?_
   rotate_left
   ·(intro w hSw; (try dsimp only at hSw); (try obtain ⟨hS1,hS2⟩:=hSw); first | (go_simp; done) | (go_simp; with_reducible rfl))
   try simp only [Act.put,qq]
   refine zN (i:=2) (by kernel_rfl) rfl (by decide) (fun K hK=>?_)
   refine qO (by rfl) 80 Tryz.f80 Tryz.func80 (by kernel_rfl) (by kernel_rfl) _ _ rfl _ (by first | (simp [Act.eval]; done) | (simp [Act.eval]; rfl)) _ (HT.out _ p1.out) ?_
   rintro _ w2 ⟨rfl,p2,f2⟩;have F2:=qd (qu F1.out f2);have F2b:Hid (∀ X,X=w2→w2.heap[W.heap.size]?=some (.cells #[.int .i64 0,.string ⟨#[]⟩,.int .i64 0,.int .i64 0,.slice none 0 0,.slice none 0 0,.slice none 0 0] 34 (0,0))):=qd (fun _ _=>(f2.block _ hszW.out (by have:=HI.out.pr.lt; simp; omega)).trans hres.out)
   have Q2:=qd ((bx2.out.fr F2.out (by simpa using fun e=>HAp.out.p2 e.symm)))
   have Q0:=qd ((bx0.out.fr F2.out (by simpa using fun e=>HAp.out.p0 e.symm)))
   have P2:=qd p2;obtain ⟨p',c',w4,r4,z4',f4,n4⟩:=HWd.out w2 F2.out;have R4:=qd r4;have Z4:=qd z4';have F4:=qd f4;have N4:=qd n4;have hlt2:W.heap.size < w2.heap.size:=by have:=f2.size; have:=hszW.out; omega
   clear p2 f2 r4 z4' f4 n4;refine hK.out _ _ (⟨Q2.out.cell,Q0.out.cell⟩) (fun hHeld=>?_)
   clear hK K
   try simp only [Act.put,qq]
   refine zN (i:=3) (by kernel_rfl) rfl (by decide) (fun K hK=>?_)
   refine zQ (by rfl) (v:=.slice (some ⟨w2.heap.size,0,none⟩) 1 1) (w':=w2.alloc (.cells #[.int .i64 tk,.string (ba tt),.int .i64 tn,.int .i64 tp] 54)) (by go_simp) ?_
   refine hK.out _ _ (⟨(Q2.out.bl (Bl.alloc _ _)).cell,(Q0.out.bl (Bl.alloc _ _)).cell⟩) (fun hHeld=>?_)
   clear hK K
   try simp only [Act.put,qq]
   refine zN (i:=4) (by kernel_rfl) rfl (by decide) (fun K hK=>?_)
   refine jO rfl (.tmp 4) (.tmp 7) 50 50 rfl _ _ rfl rfl _ _ R4.out ?_;refine hK.out _ _ (⟨(Q2.out.fr F4.out hB2p.out).cell,(Q0.out.fr F4.out hB0p.out).cell⟩) (fun hHeld=>?_)
   clear hK K
   try simp only [Act.put,qq]
   have e4:=(Q2.out.fr F4.out hB2p.out).cell;have z4f:=qK (Q2.out.fr F4.out hB2p.out) 0;refine wpLast_end (by kernel_rfl) rfl (by kernel_rfl) (fun K hK=>?_)
   go_simp
   refine hK.out _ _ ?_;clear hK K
   try simp only [Act.put,qq]
   obtain ⟨W5,hW5⟩:∃ X,w4.setCell ⟨B2,0,none⟩ (.slice p' (acc.length+1) c')=X:=⟨_,rfl⟩;rw [hW5];have f5:Fr [B2] w4 W5:=hW5▸Fr.setCell w4 _ _ (by simp)
   have s4:=F4.out.size;have s5:=f5.size;have hb4:=Q2.out.fr F4.out hB2p.out;have bB2:Hid (Box W5 B2 (.slice p' (acc.length+1) c') 50):=qd (by rw [← hW5]; show _=_; rw [zc hb4]; rfl)
   have hp'l:∀ b∈blk p',w0.heap.size≤b∧b < w4.heap.size:=fun b hb=>qB Z4.out.1 b ((jj p' _ _ b).1 hb)
   have hl2:=HAp.out.l2;have rZ:Hid (RowZ W5 54 4 w0.heap.size (.slice p' (acc.length+1) c') (acc.length+1) (tcs (acc.map (·.1))++tc (⟨tk,tt,tn⟩,tp))):=qd ⟨qC Z4.out.1 (fun k hk=>f5.block k (qB Z4.out.1 k hk).2 (by have:=(qB Z4.out.1 k hk).1; simp; omega)),Z4.out.2⟩
   have fW5:Hid (Fr (P :: B2 :: blk p) W W5):=qd (((F2.out.mono (fun b hb=>Or.inl (by simp at hb; simp [hb]))).trans F4.out (fun b hb=>Or.inl (by simp [hb]))).trans f5 (fun b hb=>Or.inl (by simp at hb; simp [hb])))
   have hgkn:∀ b∈Gk,b ∉ P :: B2 :: blk p:=fun b hb hm=>by
    have h9:=HAp.out.gk b hb;simp only [List.mem_cons] at hm
    rcases hm with e | e | e
    ·exact h9.1 e
    ·exact h9.2.1 e
    ·have:=(hbl.out b e).1; omega
   have hgkl:∀ b∈Gk,b < W.heap.size:=fun b hb=>by have:=(HAp.out.gk b hb).2.2; have:=HI.out.sz; omega
   have gk5:Hid (∀ b∈Gk,W5.heap[b]?=w0.heap[b]?):=qd (fun b hb=>(fW5.out.block b (hgkl b hb) (hgkn b hb)).trans (HI.out.gk b hb))
   have h0n:B0 ∉ P :: B2 :: blk p:=by
    have:=HAp.out.p0; have:=HAp.out.q0; have:=HAp.out.l0;simp only [List.mem_cons,not_or];exact ⟨fun e=>by omega,fun e=>by omega,fun hm=>by have:=(hbl.out _ hm).1; omega⟩
   have h1n:B1 ∉ P :: B2 :: blk p:=by
    have:=HAp.out.p1; have:=HAp.out.q1; have:=HAp.out.l1;simp only [List.mem_cons,not_or];exact ⟨fun e=>by omega,fun e=>by omega,fun hm=>by have:=(hbl.out _ hm).1; omega⟩
   have b05:=qd (HI.out.b0.fr fW5.out h0n);have b15:=qd (HI.out.b1.fr fW5.out h1n);have hPn:P ∉ blk p:=fun hm=>by have:=(hbl.out _ hm).1; have:=HAp.out.lp; omega
   have hgn:g ∉ blk p:=fun hm=>by have:=(hbl.out _ hm).1; have:=HAp.out.lg; omega
   have p5:=qd ((P2.out.other F4.out hPn hgn).other f5 (by simpa using HAp.out.p2) (by simpa using fun e=>HAp.out.qg e.symm))
   have r5:Hid (W5.heap[W.heap.size]?=some (.cells #[.int .i64 0,.string ⟨#[]⟩,.int .i64 0,.int .i64 0,.slice none 0 0,.slice none 0 0,.slice none 0 0] 34 (0,0))):=qd (by
    have hlW:=HI.out.sz;have hlP:=HAp.out.lp;have h1:w2.heap[W.heap.size]?=some (.cells #[.int .i64 0,.string ⟨#[]⟩,.int .i64 0,.int .i64 0,.slice none 0 0,.slice none 0 0,.slice none 0 0] 34 (0,0)):=(F2b.out w2 rfl);exact (f5.block _ (by omega) (by simp; omega)).trans ((F4.out.block _ hlt2 (fun hm=>by have:=(hbl.out _ hm).2; omega)).trans h1))
   have c15:=b15.out.cell;clear hHeld hb4
   go_wp2_with (first
    | (go_at_fn fo; refine (HO.out _ () gk5.out p5.out).mono ?_; intro e w6 q6; obtain ⟨rfl,f6⟩:=zy q6; have F6:=qd f6; clear q6 f6))
   exact ⟨rfl,fW5.out.trans (F6.out.mono (S':=[P]) (fun b hb=>Or.inl hb)) (fun b hb=>Or.inl (by simp at hb; simp [hb])),rfl⟩
  | ok n s1 =>
   injection hr with hr
   subst hr;have HQ1:=qd (hpq _ s1 e1).2;clear hpq e1
   go_enter Tryz.func192,Tryz.ntmps192
   go_wp2_with fail
   refine wp_region_last (L:=5) (S:=fun V=>V.cell? ⟨B2,0,none⟩=some (.slice p acc.length cw)∧V.cell? ⟨B0,0,none⟩=some (.pointer (some ⟨P,0,none⟩))) (by kernel_rfl) (⟨b2c.out.cell,b0c.out.cell⟩) (fun hHeld=>?_)
   refine jp (i:=0) (v:=?_) rfl (by kernel_rfl) (by kernel_rfl) (by kernel_rfl) (by decide) (by kernel_rfl) (fun _ _ _ h=>h) (Or.inl ⟨by rfl,?_⟩) (by assumption) ?_
   rotate_left
   ·(intro w hSw; (try dsimp only at hSw); (try obtain ⟨hS1,hS2⟩:=hSw); first | (go_simp; done) | (go_simp; with_reducible rfl))
   try simp only [Act.put,qq]
   refine jp (i:=1) (v:=?_) rfl (by kernel_rfl) (by kernel_rfl) (by kernel_rfl) (by decide) (by kernel_rfl) (fun _ _ _ h=>h) (Or.inl ⟨by rfl,?_⟩) (by assumption) ?_
   rotate_left
   ·(intro w hSw; (try dsimp only at hSw); (try obtain ⟨hS1,hS2⟩:=hSw); first | (go_simp; done) | (go_simp; with_reducible rfl))
   try simp only [Act.put,qq]
   refine zN (i:=2) (by kernel_rfl) rfl (by decide) (fun K hK=>?_)
   refine qO (by rfl) 80 Tryz.f80 Tryz.func80 (by kernel_rfl) (by kernel_rfl) _ _ rfl _ (by first | (simp [Act.eval]; done) | (simp [Act.eval]; rfl)) _ (HT.out _ p1.out) ?_
   rintro _ w2 ⟨rfl,p2,f2⟩;have F2:=qd (qu F1.out f2);have F2b:Hid (∀ X,X=w2→w2.heap[W.heap.size]?=some (.cells #[.int .i64 0,.string ⟨#[]⟩,.int .i64 0,.int .i64 0,.slice none 0 0,.slice none 0 0,.slice none 0 0] 34 (0,0))):=qd (fun _ _=>(f2.block _ hszW.out (by have:=HI.out.pr.lt; simp; omega)).trans hres.out)
   have Q2:=qd ((bx2.out.fr F2.out (by simpa using fun e=>HAp.out.p2 e.symm)))
   have Q0:=qd ((bx0.out.fr F2.out (by simpa using fun e=>HAp.out.p0 e.symm)))
   have P2:=qd p2;obtain ⟨p',c',w4,r4,z4',f4,n4⟩:=HWd.out w2 F2.out;have R4:=qd r4;have Z4:=qd z4';have F4:=qd f4;have N4:=qd n4;have hlt2:W.heap.size < w2.heap.size:=by have:=f2.size; have:=hszW.out; omega
   clear p2 f2 r4 z4' f4 n4;refine hK.out _ _ (⟨Q2.out.cell,Q0.out.cell⟩) (fun hHeld=>?_)
   clear hK K
   try simp only [Act.put,qq]
   refine zN (i:=3) (by kernel_rfl) rfl (by decide) (fun K hK=>?_)
   refine zQ (by rfl) (v:=.slice (some ⟨w2.heap.size,0,none⟩) 1 1) (w':=w2.alloc (.cells #[.int .i64 tk,.string (ba tt),.int .i64 tn,.int .i64 tp] 54)) (by go_simp) ?_
   refine hK.out _ _ (⟨(Q2.out.bl (Bl.alloc _ _)).cell,(Q0.out.bl (Bl.alloc _ _)).cell⟩) (fun hHeld=>?_)
   clear hK K
   try simp only [Act.put,qq]
   refine zN (i:=4) (by kernel_rfl) rfl (by decide) (fun K hK=>?_)
   refine jO rfl (.tmp 4) (.tmp 7) 50 50 rfl _ _ rfl rfl _ _ R4.out ?_;refine hK.out _ _ (⟨(Q2.out.fr F4.out hB2p.out).cell,(Q0.out.fr F4.out hB0p.out).cell⟩) (fun hHeld=>?_)
   clear hK K
   try simp only [Act.put,qq]
   have e4:=(Q2.out.fr F4.out hB2p.out).cell;have z4f:=qK (Q2.out.fr F4.out hB2p.out) 0;refine wpLast_end (by kernel_rfl) rfl (by kernel_rfl) (fun K hK=>?_)
   go_simp
   refine hK.out _ _ ?_;clear hK K
   try simp only [Act.put,qq]
   obtain ⟨W5,hW5⟩:∃ X,w4.setCell ⟨B2,0,none⟩ (.slice p' (acc.length+1) c')=X:=⟨_,rfl⟩;rw [hW5];have f5:Fr [B2] w4 W5:=hW5▸Fr.setCell w4 _ _ (by simp)
   have s4:=F4.out.size;have s5:=f5.size;have hb4:=Q2.out.fr F4.out hB2p.out;have bB2:Hid (Box W5 B2 (.slice p' (acc.length+1) c') 50):=qd (by rw [← hW5]; show _=_; rw [zc hb4]; rfl)
   have hp'l:∀ b∈blk p',w0.heap.size≤b∧b < w4.heap.size:=fun b hb=>qB Z4.out.1 b ((jj p' _ _ b).1 hb)
   have hl2:=HAp.out.l2;have rZ:Hid (RowZ W5 54 4 w0.heap.size (.slice p' (acc.length+1) c') (acc.length+1) (tcs (acc.map (·.1))++tc (⟨tk,tt,tn⟩,tp))):=qd ⟨qC Z4.out.1 (fun k hk=>f5.block k (qB Z4.out.1 k hk).2 (by have:=(qB Z4.out.1 k hk).1; simp; omega)),Z4.out.2⟩
   have fW5:Hid (Fr (P :: B2 :: blk p) W W5):=qd (((F2.out.mono (fun b hb=>Or.inl (by simp at hb; simp [hb]))).trans F4.out (fun b hb=>Or.inl (by simp [hb]))).trans f5 (fun b hb=>Or.inl (by simp at hb; simp [hb])))
   have hgkn:∀ b∈Gk,b ∉ P :: B2 :: blk p:=fun b hb hm=>by
    have h9:=HAp.out.gk b hb;simp only [List.mem_cons] at hm
    rcases hm with e | e | e
    ·exact h9.1 e
    ·exact h9.2.1 e
    ·have:=(hbl.out b e).1; omega
   have hgkl:∀ b∈Gk,b < W.heap.size:=fun b hb=>by have:=(HAp.out.gk b hb).2.2; have:=HI.out.sz; omega
   have gk5:Hid (∀ b∈Gk,W5.heap[b]?=w0.heap[b]?):=qd (fun b hb=>(fW5.out.block b (hgkl b hb) (hgkn b hb)).trans (HI.out.gk b hb))
   have h0n:B0 ∉ P :: B2 :: blk p:=by
    have:=HAp.out.p0; have:=HAp.out.q0; have:=HAp.out.l0;simp only [List.mem_cons,not_or];exact ⟨fun e=>by omega,fun e=>by omega,fun hm=>by have:=(hbl.out _ hm).1; omega⟩
   have h1n:B1 ∉ P :: B2 :: blk p:=by
    have:=HAp.out.p1; have:=HAp.out.q1; have:=HAp.out.l1;simp only [List.mem_cons,not_or];exact ⟨fun e=>by omega,fun e=>by omega,fun hm=>by have:=(hbl.out _ hm).1; omega⟩
   have b05:=qd (HI.out.b0.fr fW5.out h0n);have b15:=qd (HI.out.b1.fr fW5.out h1n);have hPn:P ∉ blk p:=fun hm=>by have:=(hbl.out _ hm).1; have:=HAp.out.lp; omega
   have hgn:g ∉ blk p:=fun hm=>by have:=(hbl.out _ hm).1; have:=HAp.out.lg; omega
   have p5:=qd ((P2.out.other F4.out hPn hgn).other f5 (by simpa using HAp.out.p2) (by simpa using fun e=>HAp.out.qg e.symm))
   have r5:Hid (W5.heap[W.heap.size]?=some (.cells #[.int .i64 0,.string ⟨#[]⟩,.int .i64 0,.int .i64 0,.slice none 0 0,.slice none 0 0,.slice none 0 0] 34 (0,0))):=qd (by
    have hlW:=HI.out.sz;have hlP:=HAp.out.lp;have h1:w2.heap[W.heap.size]?=some (.cells #[.int .i64 0,.string ⟨#[]⟩,.int .i64 0,.int .i64 0,.slice none 0 0,.slice none 0 0,.slice none 0 0] 34 (0,0)):=(F2b.out w2 rfl);exact (f5.block _ (by omega) (by simp; omega)).trans ((F4.out.block _ hlt2 (fun hm=>by have:=(hbl.out _ hm).2; omega)).trans h1))
   have c15:=b15.out.cell;have hn4:=N4.out;clear hHeld hb4
   go_wp2_with (first
    | (
     go_at_fn fo; refine (HO.out _ () gk5.out p5.out).mono ?_; intro e w6 q6; obtain ⟨c0,c1,c2,c3,c4,c5,c6,ft,rfl,n6,a6,p6,f6⟩:=zK q6
     have r6:Hid (w6.heap[W.heap.size]?=some z7):=qd ((f6.block _ (qf r5.out) (by have:=HI.out.pr.lt; simp; omega)).trans r5.out)
     have N6:=qd n6;have A6:=qd a6;have P6:=qd p6;have F6:=qd f6;clear q6 n6 a6 p6 f6)
    | (refine wpList_store_row rfl 34 _ _ rfl W.heap.size #[c0,c1,c2,c3,c4,c5,c6] rfl rfl 34 _ r6.out (by kernel_rfl) rfl (qL N6.out) ?_))
   refine ret34b Tryz.results192 r6.out rfl ?_;have fb:=qG w6 W.heap.size #[c0,c1,c2,c3,c4,c5,c6];have lp:=HI.out.pr.lt;have hI5:I3 (β:=Nd) P g c ts B0 B1 B2 (.func (.func fo) pre caps) 127 Gk w0 (w6.setRow W.heap.size #[c0,c1,c2,c3,c4,c5,c6]) (P :: B2 :: blk p') (acc++[((⟨tk,tt,tn⟩,tp),n)]) s1:=by
    have hlw:=HI.out.sz;have e0:=HAp.out.l0; have e1:=HAp.out.l1; have e2:=HAp.out.l2; have eg:=HAp.out.lg; have ep:=HAp.out.lp;refine ⟨P6.out.other fb (by simp; omega) (by simp; omega),HQ1.out,fun b hb=>?_,?_,(b05.out.fr F6.out (by simpa using fun e=>HAp.out.p0 e.symm)).fr fb (by simp; omega),(b15.out.fr F6.out (by simpa using fun e=>HAp.out.p1 e.symm)).fr fb (by simp; omega),_,(bB2.out.fr F6.out (by simpa using fun e=>HAp.out.p2 e.symm)).fr fb (by simp; omega),?_,by rw [blk_ob]⟩
    ·have h9:=HAp.out.gk b hb
     rw [setRow_other _ _ _ _ (by omega),F6.out.block b (by omega) (by simpa using h9.1)]
     exact gk5.out b hb
    ·have:=F6.out.size; have:=fb.size; omega
    ·rw [List.length_append,List.length_singleton,List.map_append,List.map_singleton,tcs_snoc]
     refine ⟨qC (qC rZ.out.1 (fun k hk=>F6.out.block k (qB rZ.out.1 k hk).2 (by have:=(qB rZ.out.1 k hk).1; simp; omega))) (fun k hk=>?_),rZ.out.2⟩
     have hm:k∈blk p':=(jj p' _ _ k).2 hk;have h8:=hn4 k hm;refine setRow_other _ _ _ _ ?_
     rcases h8 with h8 | h8
     ·have:=(hbl.out k h8).2; omega
     ·omega
   exact ⟨(fW5.out.trans (F6.out.mono (S':=[P]) (fun b hb=>Or.inl hb)) (fun b hb=>Or.inl (by simp at hb; simp [hb]))).trans fb (fun b hb=>Or.inr (by simp at hb; omega)),_,ft,P :: B2 :: blk p',rfl,N6.out.fr fb (fun b hb=>by have:=A6.out.lo b hb; have:=s5; simp; omega),A6.out.mono (by omega),hI5,fun b hb=>by
    simp only [List.mem_cons] at hb ⊢
    rcases hb with e | e | e
    ·exact Or.inl (Or.inl e)
    ·exact Or.inl (Or.inr (Or.inl e))
    ·rcases hn4 b e with h8 | h8
     ·exact Or.inl (Or.inr (Or.inr h8))
     ·exact Or.inr (by omega),fun b hb hm=>by have:=A6.out.lo b hb; have:=hI5.pr.lt; simp only [List.mem_cons] at hm; rcases hm with e | e | e; have:=HI.out.pr.lt; omega; have:=bx2.out.lt; omega; have:=(hp'l b e).2; omega⟩
structure I2 (P g c:Nat) (ts:Ts) (bp be br fin:Nat) (W:World) (F:List Nat) (acc:List Nd) (s:Ps):Prop where
 pr:Pr W P g c ts s
 ok:Okq ts s
 fe:F=[P,br]
 b1:Box W bp (.pointer (some ⟨P,0,none⟩)) 62
 b2:Box W be (.int .i64 fin) 3
 b3:Box W br (.bool (retd acc)) 4
structure Apx (P g bp be br:Nat):Prop where
 a1:P≠bp
 a2:P≠be
 a3:P≠br
 a4:br≠bp
 a5:br≠be
 a6:br≠g
theorem I2.invok {P g c:Nat} {ts:Ts} {bp be br fin:Nat}:InvOk P [g,bp,be] ts (I2 P g c ts bp be br fin) where
 ok:=fun h=>⟨h.ok,h.pr.posW,by intro x hx; simp at hx; rcases hx with rfl | rfl | rfl; exact h.pr.glt (by have:=h.ok.lt; omega); exact h.b1.lt; exact h.b2.lt,by rw [h.fe]; intro b hb; simp at hb; rcases hb with rfl | rfl; exact h.pr.lt; exact h.b3.lt⟩
 keep:=fun {W W' F acc s S} h f hs=>⟨h.pr.other f (fun hm=>(hs P hm).1 (by rw [h.fe]; simp)) (fun hm=>(hs g hm).2 (by simp)),h.ok,h.fe,h.b1.fr f (fun hm=>(hs bp hm).2 (by simp)),h.b2.fr f (fun hm=>(hs be hm).2 (by simp)),h.b3.fr f (fun hm=>(hs br hm).1 (by rw [h.fe]; simp))⟩
theorem I2.go {P g c:Nat} {ts:Ts} {bp be br fin:Nat} {W W':World} {F:List Nat} {acc:List Nd} {s s':Ps} (a:Apx P g bp be br) (h:I2 P g c ts bp be br fin W F acc s) (f:Fr [P] W W') (p:Pr W' P g c ts s') (o:Okq ts s'):I2 P g c ts bp be br fin W' F acc s' :=
 ⟨p,o,h.fe,h.b1.fr f (by simpa using fun e=>a.a1 e.symm),h.b2.fr f (by simpa using fun e=>a.a2 e.symm),h.b3.fr f (by simpa using fun e=>a.a3 e.symm)⟩
theorem I2.bl {P g c:Nat} {ts:Ts} {bp be br fin:Nat} {W W':World} {F:List Nat} {acc:List Nd} {s:Ps} (h:I2 P g c ts bp be br fin W F acc s) (b:Bl W W'):I2 P g c ts bp be br fin W' F acc s :=
 ⟨h.pr.keep b,h.ok,h.fe,h.b1.bl b,h.b2.bl b,h.b3.bl b⟩
theorem fr2 {P br:Nat} {w w':World} (h:Fr [P] w w'):Fr [P,br] w w':=h.mono (fun b hb=>Or.inl (by simp at hb; simp [hb]))
theorem clo89_ok {P g c:Nat} {ts:Ts} {bp be br fin:Nat} (W:World) (F:List Nat) (acc:List Nd) (s:Ps) (h:I2 P g c ts bp be br fin W F acc s):Calls Tryz.prog 89 #[.pointer (some ⟨bp,0,none⟩),.pointer (some ⟨be,0,none⟩)] W fun e w'=>e=.returned (.bool (!qi ts fin s))∧I2 P g c ts bp be br fin w' F acc s∧Fr F W w':=by
 have HK:=qd (je P g c ts s fin W h.pr h.ok.ok h.ok.lt)
 have hb:=h.b1.cell
 have he:=h.b2.cell
 have HI:=qd h
 clear h
 go_enter Tryz.func89,Tryz.ntmps89
 go_wp2_with (go_at_call 83; refine HK.out.mono ?_; rintro e w1 ⟨rfl,b1⟩; have B1:=qd b1; clear b1)
 go_ret
 exact ⟨rfl,HI.out.bl B1.out,Fr.ofBl B1.out _⟩
theorem skip2_ok {P g c:Nat} {ts:Ts} {bp be br fin:Nat} (a:Apx P g bp be br) (k:Nat) (hk:k≠18) (W:World) (F:List Nat) (acc:List Nd) (s:Ps) (h:I2 P g c ts bp be br fin W F acc s):Calls Tryz.prog 85 #[.pointer (some ⟨P,0,none⟩),.int .i64 k] W fun e w'=>e=.returned (.bool (qN ts k s).1)∧I2 P g c ts bp be br fin w' F acc (qN ts k s).2∧Fr F W w':=by
 refine (skip_ok P g c ts s k W h.pr h.ok.ok h.ok.lt).mono ?_
 rintro e w' ⟨rfl,p,f⟩
 exact ⟨rfl,h.go a f p (h.ok.skip hk),by rw [h.fe]; exact fr2 f⟩
theorem NdM.kindc {w:World} {n:Nd} {c0 c1 c2 c3 c4 c5 c6:Value} {ft:List Nat} (h:NdM w n (.agg #[c0,c1,c2,c3,c4,c5,c6]) ft):c0=.int .i64 n.kind:=by
 generalize hv:Value.agg #[c0,c1,c2,c3,c4,c5,c6]=v at h
 cases h with
 | mk g1 g2 g3 g4 =>
  injection hv with hv
  simp only [Array.mk.injEq,List.cons.injEq,and_true] at hv
  exact hv.1
theorem retd_snoc (acc:List Nd) (n:Nd):retd (acc++[n])=((n.kind:Int) == 13):=by
 unfold retd
 rw [List.getLast?_append]
 show decide (n.kind=13)=_
 rw [Bool.eq_iff_iff,decide_eq_true_eq,beq_iff_eq]
 omega
theorem clo90_ok {P g c:Nat} {ts:Ts} {bp be br fin f:Nat} (a:Apx P g bp be br) (hS:CN 91 ts (qA ts f)) (W:World) (F:List Nat) (acc:List Nd) (s:Ps) (r:Rs Nd) (h:I2 P g c ts bp be br fin W F acc s) (hr:(if retd acc=true then some (.bad (hdT ts s)) else qA ts f s)=some r) :
  Calls Tryz.prog 90 #[.pointer (some ⟨br,0,none⟩),.pointer (some ⟨bp,0,none⟩)] W (PostO (fun n=>n) (I2 P g c ts bp be br fin) acc W F r):=by
 have hF:=h.fe
 subst hF
 have hB:=Bl.alloc W (.cells #[.int .i64 0,.string ⟨#[]⟩,.int .i64 0,.int .i64 0,.slice none 0 0,.slice none 0 0,.slice none 0 0] 34)
 have c1:=(h.b1.bl hB).cell
 have c3:=(h.b3.bl hB).cell
 have S0:=qd (Sw.start h.pr h.ok)
 have HI:=qd h
 have HA:=qd (fun V p=>zI P g c ts s V p h.ok.lt (by have:=h.ok.len; omega))
 unfold tkv at HA
 cases hret:retd acc with
 | true =>
  rw [hret] at hr c3;rw [if_pos rfl] at hr;injection hr with hr
  subst hr;clear h hB hS hret;generalize hdT ts s=x at *;obtain ⟨⟨tk,tt,tn⟩,tp⟩:=x;dsimp only at *
  go_enter Tryz.func90,Tryz.ntmps90
  go_wp2_with (go_at_call 54; refine (HA.out _ S0.out.pr).mono ?_; rintro e w1 ⟨rfl,b1⟩; have S1:=qd (S0.out.bl b1); clear b1)
  exact ⟨rfl,fr2 S1.out.fr,rfl⟩
 | false =>
  rw [hret] at hr c3;rw [if_neg (by simp)] at hr
  have HS:=qd (fun V p=>hS P g c s V r p h.ok hr)
  cases r with
  | bad x =>
   clear h hB hS hret HA hr
   go_enter Tryz.func90,Tryz.ntmps90
   go_wp2_with (go_at_call 91; refine (HS.out _ S0.out.pr).mono ?_; intro e w9 q9; obtain ⟨rfl,f9⟩:=zy q9; have F9:=qd (qu S0.out.fr f9); clear q9 f9)
   exact ⟨rfl,fr2 F9.out,rfl⟩
  | ok n s1 =>
   have HQ:=qd ((zS ts f).stmt s h.ok n s1 hr).2;have HAp:=qd a;clear h hB hS hret HA hr a
   go_enter Tryz.func90,Tryz.ntmps90
   go_wp2_with (first
    | (
     go_at_call 91; refine (HS.out _ S0.out.pr).mono ?_; intro e w2 q2; obtain ⟨c0,c1',c2,c3',c4,c5,c6,ft,rfl,n2,a2,p2,f2⟩:=zK q2
     have hk:=n2.kindc;subst hk;have hsz:W.heap.size < w2.heap.size:=by have:=S0.out.size; have:=f2.size; omega
     have S2:=qd (S0.out.go f2 p2);have R3:=qd (heap_alloc_new w2 (.cells #[.int .i64 0,.string ⟨#[]⟩,.int .i64 0,.int .i64 0,.slice none 0 0,.slice none 0 0,.slice none 0 0] 34));obtain ⟨W3,hW3⟩:∃ X,(w2.alloc (.cells #[.int .i64 0,.string ⟨#[]⟩,.int .i64 0,.int .i64 0,.slice none 0 0,.slice none 0 0,.slice none 0 0] 34)).setRow w2.heap.size #[.int .i64 n.kind,c1',c2,c3',c4,c5,c6]=X:=⟨_,rfl⟩;have S3:Hid (Sw W W3 P g c ts s1):=qd (hW3▸(S2.out.bl (Bl.alloc w2 _)).row w2.heap.size _ hsz);have R4:Hid (W3.heap[w2.heap.size]?=some (.cells #[.int .i64 n.kind,c1',c2,c3',c4,c5,c6] 34 (0,0))):=qd (hW3▸setRow_heap _ _ _ _ 34 (0,0) R3.out);have N3:Hid (NdM W3 n (.agg #[.int .i64 n.kind,c1',c2,c3',c4,c5,c6]) ft):=qd (hW3▸(n2.fr (Fr.alloc [] w2 _) (by simp)).fr (qG _ _ _) (fun b hb=>by have:=n2.lt b hb; simp; omega))
     have A3:Hid (Apt (W.heap.size+1) ft):=qd (a2.mono S0.out.size);have I3:Hid (I2 P g c ts bp be br fin W3 [P,br] acc s1):=qd (HI.out.go HAp.out S3.out.fr S3.out.pr HQ.out);have hbl:=HI.out.b3.lt;have hpl:=S0.out.lp;obtain ⟨W4,hW4⟩:∃ X,W3.setCell ⟨br,0,none⟩ (.bool ((n.kind:Int) == 13))=X:=⟨_,rfl⟩;have f4:Fr [br] W3 W4:=hW4▸Fr.setCell W3 _ _ (by simp)
     have B4:Hid (Box W4 br (.bool (retd (acc++[n]))) 4):=qd (by rw [retd_snoc]; rw [← hW4]; show _=_; rw [zc I3.out.b3]; rfl)
     have x0:W3.cell? ⟨w2.heap.size,0,none⟩=some (.int .i64 n.kind):=(zp R4.out).1;have y0:=I3.out.b3.cell;have y1:=qK I3.out.b3 0;have R5:Hid (W4.heap[w2.heap.size]?=some (.cells #[.int .i64 n.kind,c1',c2,c3',c4,c5,c6] 34 (0,0))):=qd ((f4.block _ (qf R4.out) (by simp; omega)).trans R4.out)
     have E5:Hid (W4.heap[W.heap.size]?=some z7):=qd ((f4.block _ (qf S3.out.res) (by simp; omega)).trans S3.out.res)
     have N5:Hid (NdM W4 n (.agg #[.int .i64 n.kind,c1',c2,c3',c4,c5,c6]) ft):=qd (N3.out.fr f4 (fun b hb=>by have:=A3.out.lo b hb; simp; omega))
     have F5:Hid (Fr [P,br] W W4):=qd ((fr2 S3.out.fr).trans f4 (by simp))
     have I5:Hid (I2 P g c ts bp be br fin W4 [P,br] (acc++[n]) s1):=qd ⟨I3.out.pr.other f4 (by simpa using HAp.out.a3) (by simpa using fun e=>HAp.out.a6 e.symm),HQ.out,rfl,I3.out.b1.fr f4 (by simpa using fun e=>HAp.out.a4 e.symm),I3.out.b2.fr f4 (by simpa using fun e=>HAp.out.a5 e.symm),B4.out⟩
     obtain ⟨u0,u1,u2,u3,u4,u5,u6⟩:=zp R5.out;clear q2 n2 a2 p2 f2 f4)
    | (refine wpList_store_row rfl 34 _ _ rfl w2.heap.size #[.int .i64 n.kind,c1',c2,c3',c4,c5,c6] rfl rfl 34 _ R3.out (by kernel_rfl) rfl (qL N3.out) ?_; rw [hW3])
    | (refine wpList_store_row rfl 34 _ _ rfl W.heap.size #[.int .i64 n.kind,c1',c2,c3',c4,c5,c6] rfl rfl 34 _ E5.out (by kernel_rfl) rfl (qL N5.out) ?_))
   refine ret34b Tryz.results90 E5.out rfl ?_;have fb:=qG W4 W.heap.size #[.int .i64 n.kind,c1',c2,c3',c4,c5,c6];have hgl:=S0.out.lg;have l1:=HI.out.b1.lt;have l2:=HI.out.b2.lt;exact ⟨F5.out.trans fb (fun b hb=>Or.inr (by simp at hb; omega)),_,ft,[P,br],rfl,N5.out.fr fb (fun b hb=>by have:=A3.out.lo b hb; simp; omega),A3.out.mono (by omega),⟨I5.out.pr.other fb (by simp; omega) (by simp; omega),HQ.out,rfl,I5.out.b1.fr fb (by simp; omega),I5.out.b2.fr fb (by simp; omega),I5.out.b3.fr fb (by simp; omega)⟩,fun b hb=>Or.inl hb,fun b hb hm=>by have:=A3.out.lo b hb; simp at hm; omega⟩
theorem zM {w:World} {base b2 e sz:Nat} {v:Value} {n:Nat} {xs:List Value} (h:w.ownsRow base e sz v n xs) (hle:b2≤base):w.ownsRow b2 e sz v n xs:=by
 refine ⟨h.1,?_⟩
 rcases h.2 with h2 | ⟨g,cap,cur,e1,q1,q2⟩
 ·exact Or.inl h2
 ·exact Or.inr ⟨g,cap,cur,e1,Nat.le_trans hle q1,q2⟩
def PostB (P g c:Nat) (ts:Ts) (w:World) (r:Rs (List Nd)) (e:Ending) (w':World):Prop:=Fr [P] w w'∧match r with
 | .ok l s'=>∃ v xs ft,e=.returned v∧RowZ w' 34 7 w.heap.size v l.length xs∧NdsM w' l xs ft∧Apt w.heap.size (v.ownBlock.toList++ft)∧Pr w' P g c ts s'
 | .bad x=>e=.panicked [{ v:=jl x,recovered:=false }]
theorem body_ok (ts:Ts) (f fin:Nat) (hS:CN 91 ts (qA ts f)):∀ P g c s w r,Pr w P g c ts s→Okq ts s→zg ts (f+1) fin s=some r→Calls Tryz.prog 60 #[.pointer (some ⟨P,0,none⟩),.int .i64 fin] w (PostB P g c ts w r):=by
 intro P g c s w r h hok hr
 have hpl:=h.lt
 have hgl:=h.glt (by have:=hok.lt; omega)
 obtain ⟨W1,hW1⟩:∃ X,w.alloc (.cells #[.pointer (some ⟨P,0,none⟩)] 62)=X:=⟨_,rfl⟩
 obtain ⟨W2,hW2⟩:∃ X,W1.alloc (.cells #[.int .i64 fin] 3)=X:=⟨_,rfl⟩
 obtain ⟨W3,hW3⟩:∃ X,W2.alloc (.cells #[.bool false] 4)=X:=⟨_,rfl⟩
 have s1:W1.heap.size=w.heap.size+1:=by rw [← hW1]; simp
 have s2:W2.heap.size=w.heap.size+2:=by rw [← hW2]; simp [s1]
 have B1:Bl w W1:=hW1▸Bl.alloc _ _
 have B2:Bl W1 W2:=hW2▸Bl.alloc _ _
 have B3:Bl W2 W3:=hW3▸Bl.alloc _ _
 have x1:Box W3 w.heap.size (.pointer (some ⟨P,0,none⟩)) 62:=((show Box W1 w.heap.size _ 62 from hW1▸heap_alloc_new w _).bl B2).bl B3
 have x2:Box W3 W1.heap.size (.int .i64 fin) 3:=(show Box W2 W1.heap.size _ 3 from hW2▸heap_alloc_new W1 _).bl B3
 have x3:Box W3 W2.heap.size (.bool false) 4:=hW3▸heap_alloc_new W2 _
 have HI:Hid (I2 P g c ts w.heap.size W1.heap.size W2.heap.size fin W3 [P,W2.heap.size] [] s):=qd ⟨((h.keep B1).keep B2).keep B3,hok,rfl,x1,x2,x3⟩
 have HAp:Hid (Apx P g w.heap.size W1.heap.size W2.heap.size):=qd ⟨by omega,by omega,by omega,by omega,by omega,by omega⟩
 have F3:Hid (Fr [P] w W3):=qd (za ((B1.trans B2).trans B3))
 have hs3:Hid (w.heap.size≤W3.heap.size):=qd F3.out.size
 have c1:=x1.cell
 unfold zg at hr
 cases e1:qY ts 16 (fun s=>(!qi ts fin s,s)) (fun acc s=>if retd acc=true then some (.bad (hdT ts s)) else qA ts f s) f [] s with
 | none=>rw [e1] at hr; cases hr
 | some rl =>
  rw [e1] at hr;have hpg:∀ acc s,Okq ts s→(!qi ts fin s)=true→Pg ts s (if retd acc=true then some (.bad (hdT ts s)) else qA ts f s):=fun acc s hs _=>by
   split
   ·exact Pg.bad
   ·exact (zS ts f).stmt s hs
  have HL:=qd (listN_ok (fun n:Nd=>n) P [g,w.heap.size,W1.heap.size] ts 16 (fun s=>(!qi ts fin s,s)) (fun acc s=>if retd acc=true then some (.bad (hdT ts s)) else qA ts f s) (by decide) (fun s hs=>⟨Nat.le_refl _,hs⟩) hpg (I2 P g c ts w.heap.size W1.heap.size W2.heap.size fin) I2.invok 89 90 #[] #[.pointer (some ⟨w.heap.size,0,none⟩),.pointer (some ⟨W1.heap.size,0,none⟩)] #[] #[.pointer (some ⟨W2.heap.size,0,none⟩),.pointer (some ⟨w.heap.size,0,none⟩)] (ent 89 _ _ Tryz.func89 (by kernel_rfl) rfl) (ent 90 _ _ Tryz.func90 (by kernel_rfl) rfl)
   (fun W F acc s i=>by rw [show (#[]:Array Value)++#[.pointer (some ⟨w.heap.size,0,none⟩),.pointer (some ⟨W1.heap.size,0,none⟩)]=#[.pointer (some ⟨w.heap.size,0,none⟩),.pointer (some ⟨W1.heap.size,0,none⟩)] by simp]; exact clo89_ok W F acc s i)
   (fun W F acc s r i _ _ _ e=>by rw [show (#[]:Array Value)++#[.pointer (some ⟨W2.heap.size,0,none⟩),.pointer (some ⟨w.heap.size,0,none⟩)]=#[.pointer (some ⟨W2.heap.size,0,none⟩),.pointer (some ⟨w.heap.size,0,none⟩)] by simp]; exact clo90_ok HAp.out hS W F acc s r i e)
   (fun W F acc s i=>skip2_ok HAp.out 16 (by decide) W F acc s i) f s W3 [P,W2.heap.size] HI.out rl e1)
  cases rl with
  | bad x =>
   injection hr with hr
   subst hr;clear h hok hpl hgl s1 s2 B1 B2 B3 x1 x2 x3 e1 hpg;subst hW3
   go_enter Tryz.func60,Tryz.ntmps60
   go_wp2_with (go_at_call 88; refine HL.out.mono ?_; rintro e w2 ⟨f2,rfl⟩; have F4:=qd f2; clear f2)
   exact ⟨rfl,(F3.out.trans (F4.out) (fun b hb=>by simp at hb; rcases hb with rfl | rfl; exact Or.inl (by simp); exact Or.inr (by rw [← hW2,← hW1]; simp; omega))),rfl⟩
  | ok l s1' =>
   have hr2:(match qS ts fin s1' with | .bad x=>some (.bad x) | .ok _ s2=>some (.ok l s2))=some r:=hr
   have hq1:=((zh (btw:=16) (by decide) (fun s hs=>⟨Nat.le_refl _,hs⟩) hpg f [] s hok).1 l s1' e1).2
   have HD:=qd (fun V p=>need_ok P g c ts s1' fin V p hq1.ok hq1.lt)
   have HZ:Hid (w.heap.size < W2.heap.size∧W2.heap.size < W3.heap.size∧P < w.heap.size):=qd ⟨by omega,x3.lt,hpl⟩
   cases en:qS ts fin s1' with
   | bad y =>
    rw [en] at hr2 HD;injection hr2 with hr2
    subst hr2;clear h hok hpl hgl s1 s2 B1 B2 B3 x1 x2 x3 e1 hpg hr en hq1;subst hW3
    go_enter Tryz.func60,Tryz.ntmps60
    go_wp2_with (first
     | (go_at_call 88; refine HL.out.mono ?_; rintro e w2 ⟨f2,v,F',rfl,l2⟩; have F4:Hid (Fr [P] w w2):=qd (F3.out.trans f2 (fun b hb=>by have:=HZ.out; simp at hb; rcases hb with rfl | rfl; exact Or.inl (by simp); exact Or.inr (by omega))); have L2:=qd l2; have k1:=l2.inv.b1.cell; have k2:=l2.inv.b2.cell; clear f2 l2)
     | (go_at_call 57; refine (HD.out _ L2.out.inv.pr).mono ?_; rintro e w4 ⟨f4,rfl⟩; have F5:=qd (qu F4.out f4); clear f4))
    exact ⟨rfl,F5.out,rfl⟩
   | ok y s2' =>
    rw [en] at hr2 HD;injection hr2 with hr2
    subst hr2;clear h hok hpl hgl s1 s2 B1 B2 B3 x1 x2 x3 e1 hpg hr en hq1;subst hW3
    go_enter Tryz.func60,Tryz.ntmps60
    go_wp2_with (first
     | (go_at_call 88; refine HL.out.mono ?_; rintro e w2 ⟨f2,v,F',rfl,l2⟩; have F4:Hid (Fr [P] w w2):=qd (F3.out.trans f2 (fun b hb=>by have:=HZ.out; simp at hb; rcases hb with rfl | rfl; exact Or.inl (by simp); exact Or.inr (by omega))); have L2:=qd l2; have k1:=l2.inv.b1.cell; have k2:=l2.inv.b2.cell; clear f2 l2)
     | (go_at_call 57; refine (HD.out _ L2.out.inv.pr).mono ?_; rintro e w4 ⟨f4,rfl,p4⟩; have F5:=qd (qu F4.out f4); have F6:=qd f4; have P6:=qd p4; clear f4 p4))
    go_ret
    refine ⟨F5.out,?_⟩;obtain ⟨xs,ft,h1,h2,h3,h4⟩:=L2.out.ex;rw [List.map_id'] at h2;have hz:=HZ.out;have hnp:∀ b∈v.ownBlock.toList++ft,b ∉ [P]:=fun b hb=>by have:=h3.lo b hb; simp; omega
    exact ⟨v,xs,ft,rfl,⟨qC (zM h1.1 (by omega)) (fun k hk=>F6.out.block k (qB h1.1 k hk).2 (hnp k (by simp [hk]))),h1.2⟩,h2.fr F6.out (fun b hb=>hnp b (by simp [hb])),h3.mono (by omega),P6.out⟩
end Go.Proofs.YtfhkhmgodkheaaaGreatDoor
