import Derived.Test.YtfhkhmgodkheaaaGreatDoorQCG14PBdy
set_option linter.unusedSimpArgs false
set_option linter.unusedVariables false
set_option maxRecDepth 1000000
set_option maxHeartbeats 16000000
namespace Go.Proofs.YtfhkhmgodkheaaaGreatDoor
open Go.RowKit Go.Maps
def PostWN (P g c:Nat) (ts:Ts) (w:World) (r:Rs (Bs × List Nd)) (e:Ending) (w':World):Prop:=Fr [P] w w'∧match r with
 | .ok x s'=>∃ v xs ft,e=.returned (.tuple #[.string (ba x.1),v])∧RowZ w' 34 7 w.heap.size v x.2.length xs∧NdsM w' x.2 xs ft∧Apt w.heap.size (v.ownBlock.toList++ft)∧Pr w' P g c ts s'
 | .bad x=>e=.panicked [{ v:=jl x,recovered:=false }]
def PostWT (P g c:Nat) (ts:Ts) (w:World) (r:Rs (Bs × Ts)) (e:Ending) (w':World):Prop:=Fr [P] w w'∧match r with
 | .ok x s'=>∃ v,e=.returned (.tuple #[.string (ba x.1),v])∧RowZ w' 54 4 w.heap.size v x.2.length (tcs x.2)∧Pr w' P g c ts s'
 | .bad x=>e=.panicked [{ v:=jl x,recovered:=false }]
theorem words_step (us:Ts) (i:Nat) (hi:i < us.length) (l:Bs) (s:Ps):zH i l (us.drop i) s=zH (i+1) (l++(us.getD i zj).1.text++[58]) (us.drop (i+1)) (if 96 < (l++(us.getD i zj).1.text++[58]).length∨8≤i then qR 73 (us.getD i zj).2 s else s):=by
 have e:us.drop i=us.getD i zj :: us.drop (i+1):=by
  rw [List.drop_eq_getElem_cons hi,List.getD_eq_getElem?_getD,List.getElem?_eq_getElem hi]; rfl
 rw [e]
 rfl
structure Kl (P g c:Nat) (ts us:Ts) (s1:Ps) (B0:Nat) (vw:Value) (w4 wr:World) (i:Nat) (l:Bs) (s:Ps):Prop where
 eq:zH 0 [] us s1=zH i l (us.drop i) s
 pr:Pr wr P g c ts s
 ok:Okq ts s
 fr:Fr [P] w4 wr
 b0:Box wr B0 (.pointer (some ⟨P,0,none⟩)) 62
 rd:RdT wr vw us
 len:l.length≤i * 4097
theorem RdT.frP {w w':World} {base:Nat} {v:Value} {us:Ts} {P:Nat} (h:w.ownsRow base 54 4 v us.length (tcs us)) (f:Fr [P] w w') (hP:P < base):RdT w' v us :=
 RdT.own (base:=base) (qC h (fun k hk=>f.block k (qB h k hk).2 (by have:=(qB h k hk).1; simp; omega)))
theorem keywordsN_ok {ts:Ts} (f:Nat) (fo:Nat) (pre caps all:Array Value) (eo:Enters Tryz.prog fo) (hal:pre++caps=all) (pone:Ps→Option (Rs Nd)) (hpg:∀ s,Okq ts s→Pq ts s (pone s)) (P g c:Nat) (s:Ps) (w:World) (r:Rs (Bs × List Nd)) (Gk:List Nat) (hGk:∀ b∈Gk,b≠P∧b < w.heap.size)
  (hO:∀ V s r,(∀ b∈Gk,V.heap[b]?=w.heap[b]?)→Pr V P g c ts s→Okq ts s→pone s=some r→Calls Tryz.prog fo all V (PostN P g c ts V r)) (h:Pr w P g c ts s) (hok:Okq ts s) (hr:zv ts pone f s=some r) :
  Calls Tryz.prog 179 #[.pointer (some ⟨P,0,none⟩),.func (.func fo) pre caps] w (PostWN P g c ts w r):=by
 have hpl:=h.lt
 have hgl:=h.glt (by have:=hok.lt; omega)
 obtain ⟨W1,hW1⟩:∃ X,w.alloc (.cells #[.pointer (some ⟨P,0,none⟩)] 62)=X:=⟨_,rfl⟩
 obtain ⟨W2,hW2⟩:∃ X,W1.alloc (.cells #[.func (.func fo) pre caps] 127)=X:=⟨_,rfl⟩
 obtain ⟨W3,hW3⟩:∃ X,W2.alloc (.cells #[.slice none 0 0] 50)=X:=⟨_,rfl⟩
 have s1':W1.heap.size=w.heap.size+1:=by rw [← hW1]; simp
 have s2':W2.heap.size=w.heap.size+2:=by rw [← hW2]; simp [s1']
 have s3':W3.heap.size=w.heap.size+3:=by rw [← hW3]; simp [s2']
 have B1:Bl w W1:=hW1▸Bl.alloc _ _
 have B2:Bl W1 W2:=hW2▸Bl.alloc _ _
 have B3:Bl W2 W3:=hW3▸Bl.alloc _ _
 have bw3:=(B1.trans B2).trans B3
 have x1:Box W3 w.heap.size (.pointer (some ⟨P,0,none⟩)) 62:=((show Box W1 w.heap.size _ 62 from hW1▸heap_alloc_new w _).bl B2).bl B3
 have x2:Box W3 W1.heap.size (.func (.func fo) pre caps) 127:=(show Box W2 W1.heap.size _ 127 from hW2▸heap_alloc_new W1 _).bl B3
 have x3:Box W3 W2.heap.size (.slice none 0 0) 50:=hW3▸heap_alloc_new W2 _
 have HAp:Hid (Apy P g w.heap.size W1.heap.size W2.heap.size Gk W3):=qd ⟨by omega,by omega,by omega,by omega,by omega,by omega,by omega,by omega,by omega,by omega,by omega,fun b hb=>⟨(hGk b hb).1,by have:=(hGk b hb).2; omega,by have:=(hGk b hb).2; omega⟩⟩
 have HI:Hid ((I3 (β:=Nd) P g c ts w.heap.size W1.heap.size W2.heap.size (.func (.func fo) pre caps) 127 Gk W3) W3 [P,W2.heap.size] [] s):=qd ⟨h.keep bw3,hok,fun b hb=>rfl,Nat.le_refl _,x1,x2,.slice none 0 0,x3,⟨World.ownsRow_nil _ _ _ _,fun _=>rfl⟩,rfl⟩
 have F3:Hid (Fr [P] w W3):=qd (za bw3)
 have c1:=x1.cell
 have HZ:Hid (w.heap.size≤W3.heap.size∧P < w.heap.size∧w.heap.size≤W2.heap.size):=qd ⟨by omega,hpl,by omega⟩
 have hO3:∀ V s r,(∀ b∈Gk,V.heap[b]?=W3.heap[b]?)→Pr V P g c ts s→Okq ts s→pone s=some r→Calls Tryz.prog fo all V (PostN P g c ts V r):=fun V s r g1 p1 o1 e1=>hO V s r (fun b hb=>(g1 b hb).trans (bw3.block b (hGk b hb).2)) p1 o1 e1
 unfold zv at hr
 have hp1:∀ (acc:List ((Tok × Nat) × Nd)) (s:Ps),Okq ts s→(decide (qy (hdT ts s)=3),s).1=true→Pg ts s ((fun (_:List ((Tok × Nat) × Nd)) s=>qF (pone (qj ts s)) (fun a s2=>some (.ok (hdT ts s,a) s2))) acc s):=by
  intro acc s hs hth;have hk:qy (hdT ts s)=3:=by simpa using hth
  have ht:=hs.take (zu (by rw [hk]; decide))
  exact Pg.tk (Pq.bind (hpg _ ht) (fun a s1 _ h1=>Pq.ok h1))
 cases e1:qY ts 0 (fun s=>(decide (qy (hdT ts s)=3),s)) (fun (_:List ((Tok × Nat) × Nd)) s=>qF (pone (qj ts s)) (fun a s2=>some (.ok (hdT ts s,a) s2))) f [] s with
 | none=>rw [e1] at hr; cases hr
 | some rl =>
  rw [e1] at hr;have HL:=qd (listN_ok (fun a=>a.2) P ([g,w.heap.size,W1.heap.size]++Gk) ts 0 (fun s=>(decide (qy (hdT ts s)=3),s)) (fun (_:List ((Tok × Nat) × Nd)) s=>qF (pone (qj ts s)) (fun a s2=>some (.ok (hdT ts s,a) s2))) (by decide) (fun s hs=>⟨Nat.le_refl _,hs⟩) hp1 (I3 (β:=Nd) P g c ts w.heap.size W1.heap.size W2.heap.size (.func (.func fo) pre caps) 127 Gk W3) (I3.invok HAp.out) 191 192 #[] #[.pointer (some ⟨w.heap.size,0,none⟩)] #[] #[.pointer (some ⟨W2.heap.size,0,none⟩),.pointer (some ⟨w.heap.size,0,none⟩),.pointer (some ⟨W1.heap.size,0,none⟩)] (ent 191 _ _ Tryz.func191 (by kernel_rfl) rfl) (ent 192 _ _ Tryz.func192 (by kernel_rfl) rfl)
   (fun W F acc s i=>by rw [show (#[]:Array Value)++#[.pointer (some ⟨w.heap.size,0,none⟩)]=#[.pointer (some ⟨w.heap.size,0,none⟩)] by simp]; exact clo191_ok W F acc s i HAp.out)
   (fun W F acc s r i _ hth hl e=>by rw [show (#[]:Array Value)++#[.pointer (some ⟨W2.heap.size,0,none⟩),.pointer (some ⟨w.heap.size,0,none⟩),.pointer (some ⟨W1.heap.size,0,none⟩)]=#[.pointer (some ⟨W2.heap.size,0,none⟩),.pointer (some ⟨w.heap.size,0,none⟩),.pointer (some ⟨W1.heap.size,0,none⟩)] by simp]; exact clo192_ok fo pre caps all eo hal pone hpg hO3 W F acc s r i HAp.out (by omega) (by simpa using hth) e)
   (fun W F acc s i=>skip3_ok HAp.out 0 (by decide) W F acc s i) f s W3 [P,W2.heap.size] HI.out rl e1)
  cases rl with
  | bad x =>
   injection hr with hr
   subst hr;clear h hok hpl hgl s1' s2' s3' B1 B2 B3 bw3 x1 x2 x3 e1 hp1 hO hO3 hGk hpg
   go_enter Tryz.func179,Tryz.ntmps179
   go_wp2_with (go_at_call 88; refine HL.out.mono ?_; rintro e w2 ⟨f2,rfl⟩; have F4:Hid (Fr [P] w w2):=qd (F3.out.trans f2 (fun b hb=>by have:=HZ.out; simp at hb; rcases hb with rfl | rfl; exact Or.inl (by simp); exact Or.inr (by omega))); clear f2)
   exact ⟨rfl,F4.out,rfl⟩
  | ok ll s1 =>
   have hr2:some (Rs.ok ((zH 0 [] (ll.map (·.1)) s1).1,ll.map (·.2)) (zH 0 [] (ll.map (·.1)) s1).2)=some r:=hr
   injection hr2 with hr2
   subst hr2;have hu:=jx (there:=fun s=>(decide (qy (hdT ts s)=3),s)) (one:=fun (_:List ((Tok × Nat) × Nd)) s=>qF (pone (qj ts s)) (fun a s2=>some (.ok (hdT ts s,a) s2))) (Q:=fun a=>a.1.1.text.length≤4096∧a.1.2≤4096) (btw:=0) (by decide) (fun s hs=>⟨Nat.le_refl _,hs⟩) hp1 (fun acc s a s' hs hth e=>by
    obtain ⟨b,s1,e1,e2⟩:=qQ e;injection e2 with e2; injection e2 with e2 e3; subst e2
    exact hs.txt) f [] s ll s1 hok (by simp) e1
   have HU:Hid (∀ x∈ll.map (·.1),x.1.text.length≤4096∧x.2≤4096):=qd (fun x hx=>by obtain ⟨a,ha,rfl⟩:=List.mem_map.1 hx; exact hu a ha)
   have hlen:=zX (there:=fun s=>(decide (qy (hdT ts s)=3),s)) (one:=fun (_:List ((Tok × Nat) × Nd)) s=>qF (pone (qj ts s)) (fun a s2=>some (.ok (hdT ts s,a) s2))) (btw:=0) (by decide) (fun s hs=>⟨Nat.le_refl _,hs⟩) hp1 f [] s ll s1 hok (Nat.zero_le _) e1
   have hq1:=((zh (there:=fun s=>(decide (qy (hdT ts s)=3),s)) (one:=fun (_:List ((Tok × Nat) × Nd)) s=>qF (pone (qj ts s)) (fun a s2=>some (.ok (hdT ts s,a) s2))) (btw:=0) (by decide) (fun s hs=>⟨Nat.le_refl _,hs⟩) hp1 f [] s hok).1 ll s1 e1).2
   obtain ⟨us,hus⟩:∃ us,ll.map (·.1)=us:=⟨_,rfl⟩
   have hul:us.length=ll.length:=by rw [← hus,List.length_map]
   have HUl:Hid (us.length≤4097):=qd (by have:=hq1.lt; have:=hq1.len; omega)
   rw [hus] at HU ⊢;have HUs:=qd hus;have HULn:=qd hul;have HQ1:=qd hq1;have HB0P:Hid (w.heap.size ∉ [P]):=qd (by simp; omega)
   clear h hok hpl hgl s1' s2' s3' B1 B2 B3 bw3 x1 x2 x3 e1 hp1 hO hO3 hGk hpg hr hu hlen hq1 hus hul
   go_enter Tryz.func179,Tryz.ntmps179
   go_wp2_with (first
    | (
     go_at_call 88; refine HL.out.mono ?_; rintro e w4 ⟨f2,v,F',rfl,l2⟩
     have F4:Hid (Fr [P] w w4):=qd (F3.out.trans f2 (fun b hb=>by have:=HZ.out; simp at hb; rcases hb with rfl | rfl; exact Or.inl (by simp); exact Or.inr (by omega)))
     have L4:=qd l2;obtain ⟨vw,h1,h2,h3⟩:=l2.inv.ex;obtain ⟨pw,cw,rfl⟩:=qz h2.1;rw [HUs.out,← HULn.out] at h2;have k2:=h1.cell;rw [← HULn.out] at k2;have hzz:=HZ.out;have HRd:Hid (∀ w6,Fr [P] w4 w6→RdT w6 (.slice pw us.length cw) us):=qd (fun w6 f6=>RdT.frP h2.1 f6 (by omega))
     have HS:Hid (Kl P g c ts us s1 w.heap.size (.slice pw us.length cw) w4 w4 0 [] s1):=qd ⟨rfl,l2.inv.pr,HQ1.out,Fr.refl _ _,l2.inv.b0,HRd.out w4 (Fr.refl _ _),Nat.zero_le _⟩;clear f2 l2 h1 h2 h3 hzz))
   go_loopw [4,15] (fun q i wr=>∃ (j:Nat) (l:Bs) (s:Ps),j≤us.length∧i=.int .i64 j∧q=.string (ba l)∧Hid (Kl P g c ts us s1 w.heap.size (.slice pw us.length cw) w4 wr j l s)) (fun _ i _=>us.length - (intOf i).toNat)
   case atStart=>exact ⟨0,[],s1,Nat.zero_le _,rfl,rfl,HS⟩
   case round =>
    obtain ⟨i,l,s,hi,rfl,rfl,hk⟩:=hrel;clear HS;have i0:(0:Int)≤(i:Int):=by omega
    by_cases hlt:i < us.length
    ·have i3:(i:Int) < (us.length:Int):=by omega
     obtain ⟨pw',cw',ew,hq⟩:=hk.out.rd.at_;injection ew with ew1 ew2 ew3
     subst ew1;subst ew3;obtain ⟨gw,ow,rfl,hgw,hcw⟩:=hq (by omega)
     obtain ⟨x0,x1,x2,x3⟩:=hcw i hlt;have hst:=words_step us i hlt l s;have hmem:us.getD i zj∈us:=by
      rw [List.getD_eq_getElem?_getD,List.getElem?_eq_getElem hlt]; exact List.getElem_mem hlt
     obtain ⟨hx1,hx2⟩:=HU.out _ hmem;have hbx:=hk.out.b0.cell;have hlen:=hk.out.len;have hun:=HUl.out;rw [show noT=zj from rfl] at x0 x1 x2 x3
     generalize us.getD i zj=x at *;obtain ⟨⟨tk,tt,tn⟩,tp⟩:=x;dsimp only at *;have hz1:(ba l).size=l.length:=by rw [← qo,qJ]
     have hz2:(ba tt).size=tt.length:=by rw [← qo,qJ]
     have HE:Hid (ba l++(ba tt++⟨#[58]⟩)=ba (l++tt++[58])):=qd (by rw [← ba_app,← ba_app,ByteArray.append_assoc]; rfl)
     have hmul:i * 4097≤4097 * 4097:=Nat.mul_le_mul_right _ (by omega)
     have hln:(l++tt++[58]).length=l.length+tt.length+1:=by simp; omega
     have g1:¬ 9223372036854775807 < (ba tt).size+1:=by omega
     have g2:¬ 9223372036854775807 < (ba l).size+((ba tt).size+1):=by omega
     have HP:=qd (fun V p=>pass_ok P g c ts s 73 tp V p (by have:=hk.out.ok.ok.place; omega))
     obtain ⟨W5,hW5⟩:∃ X,wr.alloc (.cells #[.int .i64 tk,.string (ba tt),.int .i64 tn,.int .i64 tp] 54)=X:=⟨_,rfl⟩;have b5:Bl wr W5:=hW5▸Bl.alloc _ _;have g5:W5.heap[wr.heap.size]?=some (.cells #[.int .i64 tk,.string (ba tt),.int .i64 tn,.int .i64 tp] 54 (0,0)):=hW5▸heap_alloc_new wr _;obtain ⟨y0,y1,y2,y3⟩:=zF g5;have hb5:=(hk.out.b0.bl b5).cell;have K5:Hid (Kl P g c ts us s1 w.heap.size (.slice (some ⟨gw,ow,none⟩) us.length cw) w4 W5 i l s):=qd ⟨hk.out.eq,hk.out.pr.keep b5,hk.out.ok,qu hk.out.fr (za b5),hk.out.b0.bl b5,hk.out.rd.keep b5,hlen⟩;have G5:=qd g5;have HBd:Hid (i < us.length∧l.length≤i * 4097∧tt.length≤4096∧tp≤4096):=qd ⟨hlt,hlen,hx1,hx2⟩
     by_cases hc:96 < (l++tt++[58]).length∨8≤i
     ·rw [if_pos hc] at hst
      have HSt:=qd hst;have KK:(96 < (ba l).size+((ba tt).size+1))∨(¬ 96 < (ba l).size+((ba tt).size+1)∧8≤i):=by
       by_cases h9:96 < (ba l).size+((ba tt).size+1)
       ·exact Or.inl h9
       ·refine Or.inr ⟨h9,?_⟩; rcases hc with h | h; omega; exact h
      clear hc hst hmem hgw hcw hq hlen hz1 hz2 hmul hln hx1 hx2 b5 g5 hbx hk;have STEP:Hid (∀ w6,Pr w6 P g c ts (qR 73 tp s)→Fr [P] W5 w6→Kl P g c ts us s1 w.heap.size (.slice (some ⟨gw,ow,none⟩) us.length cw) w4 w6 (i+1) (l++tt++[58]) (qR 73 tp s)):=qd (fun w6 p6 f6=>⟨K5.out.eq.trans HSt.out,p6,K5.out.ok.pass HBd.out.2.2.2,qu K5.out.fr f6,K5.out.b0.fr f6 HB0P.out,HRd.out w6 (qu K5.out.fr f6),by have:=HBd.out; simp only [List.length_append,List.length_singleton]; rw [Nat.add_mul]; omega⟩)
      rcases KK with KK | ⟨KK,K8⟩
      ·have k1:(96:Int) < ((ba l).size:Int)+(((ba tt).size:Int)+1):=by omega
       clear KK
       go_wp2_with (first
        | (go_at_call 116; refine (HP.out _ K5.out.pr).mono ?_; rintro e w6 ⟨rfl,p6,f6⟩; have K6:=qd (STEP.out w6 p6 f6); clear p6 f6))
       go_roundw
       case rel=>exact ⟨i+1,_,_,by omega,by go_num,by rw [HE.out],K6⟩
       case measure=>simp [intOf]; omega
      ·have k1:¬ (96:Int) < ((ba l).size:Int)+(((ba tt).size:Int)+1):=by omega
       have k2:(8:Int)≤i:=by omega
       clear KK K8
       go_wp2_with (first
        | (go_at_call 116; refine (HP.out _ K5.out.pr).mono ?_; rintro e w6 ⟨rfl,p6,f6⟩; have K6:=qd (STEP.out w6 p6 f6); clear p6 f6))
       go_roundw
       case rel=>exact ⟨i+1,_,_,by omega,by go_num,by rw [HE.out],K6⟩
       case measure=>simp [intOf]; omega
     ·rw [if_neg hc] at hst
      have HSt:=qd hst;have k1:¬ (96:Int) < ((ba l).size:Int)+(((ba tt).size:Int)+1):=by omega
      have k2:¬ (8:Int)≤i:=by omega
      clear hc hst hmem hgw hcw hq hlen hz1 hz2 hmul hln hx1 hx2 b5 g5 hbx hk HP;have K6:Hid (Kl P g c ts us s1 w.heap.size (.slice (some ⟨gw,ow,none⟩) us.length cw) w4 W5 (i+1) (l++tt++[58]) s):=qd ⟨K5.out.eq.trans HSt.out,K5.out.pr,K5.out.ok,K5.out.fr,K5.out.b0,K5.out.rd,by have:=HBd.out; simp only [List.length_append,List.length_singleton]; rw [Nat.add_mul]; omega⟩
      go_wp2_with fail
      go_roundw
      case rel=>exact ⟨i+1,_,_,by omega,by go_num,by rw [HE.out],K6⟩
      case measure=>simp [intOf]; omega
    ·have i3:¬ (i:Int) < (us.length:Int):=by omega
     have hie:i=us.length:=by omega
     have hw:zH 0 [] us s1=(l,s):=by
      have:=hk.out.eq;rw [hie,List.drop_length] at this;exact this
     have HW:=qd hw;clear hw hie
     go_wp2_with fail
     refine bodyPost_ret (v:=.tuple #[.string (ba l),v]) (by simp [results,Tryz.results179,go_sem]) rfl ?_
     have hf:=hk.out.fr;have hz:=HZ.out;obtain ⟨xs,ft,h1,h2,h3,h4⟩:=L4.out.ex;have hnp:∀ b∈v.ownBlock.toList++ft,b ∉ [P]:=fun b hb=>by have:=h3.lo b hb; simp; omega
     refine ⟨qu F4.out hf,?_⟩;rw [HW.out];refine ⟨v,xs,ft,rfl,?_,h2.fr hf (fun b hb=>hnp b (by simp [hb])),h3.mono (by omega),hk.out.pr⟩
     show RowZ wr 34 7 w.heap.size v (ll.map (·.2)).length xs
     rw [List.length_map];exact ⟨qC (zM h1.1 (by omega)) (fun k hk=>hf.block k (qB h1.1 k hk).2 (hnp k (by simp [hk]))),h1.2⟩
theorem clo114_ok {P g c:Nat} {ts:Ts} {B0 B1 B2:Nat} {oneV:Value} {Gk:List Nat} {w0:World} (W:World) (F:List Nat) (acc:List ((Tok × Nat) × (Tok × Nat))) (s:Ps) (h:I3 (β:=(Tok × Nat)) P g c ts B0 B1 B2 oneV 94 Gk w0 W F acc s) (a:Apy P g B0 B1 B2 Gk w0):Calls Tryz.prog 114 #[.pointer (some ⟨B0,0,none⟩)] W fun e w'=>e=.returned (.bool (decide (qy (hdT ts s)=3)))∧I3 (β:=(Tok × Nat)) P g c ts B0 B1 B2 oneV 94 Gk w0 w' F acc s∧Fr F W w':=by
 have HA:=qd (zI P g c ts s W h.pr h.ok.lt (by have:=h.ok.len; omega))
 have hy:(hdT ts s).1.text.length≤8192:=by have:=h.ok.txt.1; omega
 have HR:=qd (fun V=>rankT_ok (hdT ts s) V hy)
 have hb:=h.b0.cell
 have HI:=qd h
 rw [← rank3]
 unfold tkv at HA HR
 generalize qy (hdT ts s)=R at *
 generalize hdT ts s=x at *
 obtain ⟨⟨tk,tt,tn⟩,tp⟩:=x
 dsimp only at *
 have HAp:=qd a
 clear h a hy
 go_enter Tryz.func114,Tryz.ntmps114
 go_wp2_with (first
  | (go_at_call 54; refine HA.out.mono ?_; rintro e w1 ⟨rfl,b1⟩; have B3:=qd b1; clear b1)
  | (go_at_call 79; refine (HR.out _).mono ?_; rintro e w2 ⟨rfl,b2⟩; have B4:=qd (B3.out.trans b2); clear b2))
 go_ret
 exact ⟨rfl,HI.out.go HAp.out (za B4.out) (HI.out.pr.keep B4.out) HI.out.ok,Fr.ofBl B4.out _⟩
theorem clo115_ok {P g c:Nat} {ts:Ts} {B0 B1 B2:Nat} {Gk:List Nat} {w0:World} (fo:Nat) (pre caps all:Array Value) (eo:Enters Tryz.prog fo) (hal:pre++caps=all) (pone:Ps→Option (Rs (Tok × Nat))) (hpg:∀ s,Okq ts s→Pq ts s (pone s))
  (hO:∀ V s r,(∀ b∈Gk,V.heap[b]?=w0.heap[b]?)→Pr V P g c ts s→Okq ts s→pone s=some r→Calls Tryz.prog fo all V (PostT P g c ts V r))
  (W:World) (F:List Nat) (acc:List ((Tok × Nat) × (Tok × Nat))) (s:Ps) (r:Rs ((Tok × Nat) × (Tok × Nat))) (h:I3 (β:=(Tok × Nat)) P g c ts B0 B1 B2 (.func (.func fo) pre caps) 94 Gk w0 W F acc s) (a:Apy P g B0 B1 B2 Gk w0) (hl:acc.length≤1000000) (hth:qy (hdT ts s)=3) (hr:qF (pone (qj ts s)) (fun a s2=>some (.ok (hdT ts s,a) s2))=some r) :
  Calls Tryz.prog 115 #[.pointer (some ⟨B2,0,none⟩),.pointer (some ⟨B0,0,none⟩),.pointer (some ⟨B1,0,none⟩)] W (PostOT (fun a=>a.2) (I3 (β:=(Tok × Nat)) P g c ts B0 B1 B2 (.func (.func fo) pre caps) 94 Gk w0) acc W F r):=by
 have hok:=h.ok
 have hAr:qy (hdT ts s)=3:=hth
 have hq:=hok.take (zu (by rw [hAr]; decide))
 have HT:=qd (fun V p=>zY P g c ts s V p hok.ok hok.lt)
 unfold tkv at HT
 obtain ⟨p,cw,hbx2,hFe,hbl0,hwd⟩:=h.word a (hdT ts s) hl
 subst hFe
 have hbl:=qd hbl0
 have HI:=qd h
 have HAp:=qd a
 have HQ:=qd hq
 have bx2:=qd hbx2
 have bx0:=qd h.b0
 have HWd:=qd hwd
 obtain ⟨W1,hW1⟩:∃ X,W.alloc (.cells #[.int .i64 0,.string ⟨#[]⟩,.int .i64 0,.int .i64 0] 54)=X:=⟨_,rfl⟩
 have bW1:Bl W W1:=hW1▸Bl.alloc _ _
 have F1:Hid (Fr [P] W W1.drew):=qd (qu (za bW1) (Fr.drew _ _))
 have b2c:Hid (Box W1.drew B2 (.slice p acc.length cw) 50):=qd (hbx2.bl (bW1.trans (qV W1)))
 have b0c:Hid (Box W1.drew B0 (.pointer (some ⟨P,0,none⟩)) 62):=qd (h.b0.bl (bW1.trans (qV W1)))
 have p1:Hid (Pr W1.drew P g c ts s):=qd ((h.pr.keep bW1).keep (qV W1))
 have hszW:Hid (W.heap.size < W1.drew.heap.size):=qd (by show W.heap.size < W1.heap.size; rw [← hW1]; simp)
 have hB2p:Hid (B2 ∉ blk p):=qd (fun hm=>by have:=(hbl0 _ hm).1; have:=a.l2; omega)
 have hB0p:Hid (B0 ∉ blk p):=qd (fun hm=>by have:=(hbl0 _ hm).1; have:=a.l0; omega)
 have hres:Hid (W1.drew.heap[W.heap.size]?=some (.cells #[.int .i64 0,.string ⟨#[]⟩,.int .i64 0,.int .i64 0] 54 (0,0))):=qd (by show W1.heap[W.heap.size]?=_; rw [← hW1]; exact heap_alloc_new W _)
 cases e1:pone (qj ts s) with
 | none=>rw [e1] at hr; cases hr
 | some r1 =>
  rw [e1] at hr;have HO:=qd (fun V (u:Unit) g1 p1=>hO V (qj ts s) r1 g1 p1 hq e1)
  have hpq:=hpg (qj ts s) hq;subst hal;clear h a hok hAr hq hbx2 hwd hth hO hpg hbl0;generalize qj ts s=st at *;generalize hdT ts s=x at *;obtain ⟨⟨tk,tt,tn⟩,tp⟩:=x;dsimp only at *;unfold Enters at eo
  cases r1 with
  | bad z =>
   injection hr with hr
   subst hr;clear hpq e1
   go_enter Tryz.func115,Tryz.ntmps115
   go_wp2_with fail
   refine wp_region_last (L:=5) (S:=fun V=>V.cell? ⟨B2,0,none⟩=some (.slice p acc.length cw)∧V.cell? ⟨B0,0,none⟩=some (.pointer (some ⟨P,0,none⟩))) (by kernel_rfl) (⟨b2c.out.cell,b0c.out.cell⟩) (fun hHeld=>?_)
   refine jp (i:=0) (v:=?_) rfl (by kernel_rfl) (by kernel_rfl) (by kernel_rfl) (by decide) (by kernel_rfl) (fun _ _ _ h=>h) (Or.inl ⟨by rfl,?_⟩) (by assumption) ?_
   rotate_left
   ·(intro w hSw; (try dsimp only at hSw); (try obtain ⟨hS1,hS2⟩:=hSw); first | (go_simp; done) | (go_simp; with_reducible rfl))
   try simp only [Act.put,qq]
   refine jp (i:=1) (v:=?_) rfl (by kernel_rfl) (by kernel_rfl) (by kernel_rfl) (by decide) (by kernel_rfl) (fun _ _ _ h=>h) (Or.inl ⟨by rfl,?_⟩) (by assumption) ?_
   rotate_left
   ·(intro w hSw; (try dsimp only at hSw); (try obtain ⟨hS1,hS2⟩:=hSw); first | (go_simp; done) | (go_simp; with_reducible rfl))
   try simp only [Act.put,qq]
   refine zN (i:=2) (by kernel_rfl) rfl (by decide) (fun K hK=>?_)
   refine qO (by rfl) 80 Tryz.f80 Tryz.func80 (by kernel_rfl) (by kernel_rfl) _ _ rfl _ (by first | (simp [Act.eval]; done) | (simp [Act.eval]; rfl)) _ (HT.out _ p1.out) ?_
   rintro _ w2 ⟨rfl,p2,f2⟩;have F2:=qd (qu F1.out f2);have F2b:Hid (∀ X,X=w2→w2.heap[W.heap.size]?=some (.cells #[.int .i64 0,.string ⟨#[]⟩,.int .i64 0,.int .i64 0] 54 (0,0))):=qd (fun _ _=>(f2.block _ hszW.out (by have:=HI.out.pr.lt; simp; omega)).trans hres.out)
   have Q2:=qd ((bx2.out.fr F2.out (by simpa using fun e=>HAp.out.p2 e.symm)))
   have Q0:=qd ((bx0.out.fr F2.out (by simpa using fun e=>HAp.out.p0 e.symm)))
   have P2:=qd p2;obtain ⟨p',c',w4,r4,z4',f4,n4⟩:=HWd.out w2 F2.out;have R4:=qd r4;have Z4:=qd z4';have F4:=qd f4;have N4:=qd n4;have hlt2:W.heap.size < w2.heap.size:=by have:=f2.size; have:=hszW.out; omega
   clear p2 f2 r4 z4' f4 n4;refine hK.out _ _ (⟨Q2.out.cell,Q0.out.cell⟩) (fun hHeld=>?_)
   clear hK K
   try simp only [Act.put,qq]
   refine zN (i:=3) (by kernel_rfl) rfl (by decide) (fun K hK=>?_)
   refine zQ (by rfl) (v:=.slice (some ⟨w2.heap.size,0,none⟩) 1 1) (w':=w2.alloc (.cells #[.int .i64 tk,.string (ba tt),.int .i64 tn,.int .i64 tp] 54)) (by go_simp) ?_
   refine hK.out _ _ (⟨(Q2.out.bl (Bl.alloc _ _)).cell,(Q0.out.bl (Bl.alloc _ _)).cell⟩) (fun hHeld=>?_)
   clear hK K
   try simp only [Act.put,qq]
   refine zN (i:=4) (by kernel_rfl) rfl (by decide) (fun K hK=>?_)
   refine jO rfl (.tmp 4) (.tmp 7) 50 50 rfl _ _ rfl rfl _ _ R4.out ?_;refine hK.out _ _ (⟨(Q2.out.fr F4.out hB2p.out).cell,(Q0.out.fr F4.out hB0p.out).cell⟩) (fun hHeld=>?_)
   clear hK K
   try simp only [Act.put,qq]
   have e4:=(Q2.out.fr F4.out hB2p.out).cell;have z4f:=qK (Q2.out.fr F4.out hB2p.out) 0;refine wpLast_end (by kernel_rfl) rfl (by kernel_rfl) (fun K hK=>?_)
   go_simp
   refine hK.out _ _ ?_;clear hK K
   try simp only [Act.put,qq]
   obtain ⟨W5,hW5⟩:∃ X,w4.setCell ⟨B2,0,none⟩ (.slice p' (acc.length+1) c')=X:=⟨_,rfl⟩;rw [hW5];have f5:Fr [B2] w4 W5:=hW5▸Fr.setCell w4 _ _ (by simp)
   have s4:=F4.out.size;have s5:=f5.size;have hb4:=Q2.out.fr F4.out hB2p.out;have bB2:Hid (Box W5 B2 (.slice p' (acc.length+1) c') 50):=qd (by rw [← hW5]; show _=_; rw [zc hb4]; rfl)
   have hp'l:∀ b∈blk p',w0.heap.size≤b∧b < w4.heap.size:=fun b hb=>qB Z4.out.1 b ((jj p' _ _ b).1 hb)
   have hl2:=HAp.out.l2;have rZ:Hid (RowZ W5 54 4 w0.heap.size (.slice p' (acc.length+1) c') (acc.length+1) (tcs (acc.map (·.1))++tc (⟨tk,tt,tn⟩,tp))):=qd ⟨qC Z4.out.1 (fun k hk=>f5.block k (qB Z4.out.1 k hk).2 (by have:=(qB Z4.out.1 k hk).1; simp; omega)),Z4.out.2⟩
   have fW5:Hid (Fr (P :: B2 :: blk p) W W5):=qd (((F2.out.mono (fun b hb=>Or.inl (by simp at hb; simp [hb]))).trans F4.out (fun b hb=>Or.inl (by simp [hb]))).trans f5 (fun b hb=>Or.inl (by simp at hb; simp [hb])))
   have hgkn:∀ b∈Gk,b ∉ P :: B2 :: blk p:=fun b hb hm=>by
    have h9:=HAp.out.gk b hb;simp only [List.mem_cons] at hm
    rcases hm with e | e | e
    ·exact h9.1 e
    ·exact h9.2.1 e
    ·have:=(hbl.out b e).1; omega
   have hgkl:∀ b∈Gk,b < W.heap.size:=fun b hb=>by have:=(HAp.out.gk b hb).2.2; have:=HI.out.sz; omega
   have gk5:Hid (∀ b∈Gk,W5.heap[b]?=w0.heap[b]?):=qd (fun b hb=>(fW5.out.block b (hgkl b hb) (hgkn b hb)).trans (HI.out.gk b hb))
   have h0n:B0 ∉ P :: B2 :: blk p:=by
    have:=HAp.out.p0; have:=HAp.out.q0; have:=HAp.out.l0;simp only [List.mem_cons,not_or];exact ⟨fun e=>by omega,fun e=>by omega,fun hm=>by have:=(hbl.out _ hm).1; omega⟩
   have h1n:B1 ∉ P :: B2 :: blk p:=by
    have:=HAp.out.p1; have:=HAp.out.q1; have:=HAp.out.l1;simp only [List.mem_cons,not_or];exact ⟨fun e=>by omega,fun e=>by omega,fun hm=>by have:=(hbl.out _ hm).1; omega⟩
   have b05:=qd (HI.out.b0.fr fW5.out h0n);have b15:=qd (HI.out.b1.fr fW5.out h1n);have hPn:P ∉ blk p:=fun hm=>by have:=(hbl.out _ hm).1; have:=HAp.out.lp; omega
   have hgn:g ∉ blk p:=fun hm=>by have:=(hbl.out _ hm).1; have:=HAp.out.lg; omega
   have p5:=qd ((P2.out.other F4.out hPn hgn).other f5 (by simpa using HAp.out.p2) (by simpa using fun e=>HAp.out.qg e.symm))
   have r5:Hid (W5.heap[W.heap.size]?=some (.cells #[.int .i64 0,.string ⟨#[]⟩,.int .i64 0,.int .i64 0] 54 (0,0))):=qd (by
    have hlW:=HI.out.sz;have hlP:=HAp.out.lp;have h1:w2.heap[W.heap.size]?=some (.cells #[.int .i64 0,.string ⟨#[]⟩,.int .i64 0,.int .i64 0] 54 (0,0)):=(F2b.out w2 rfl);exact (f5.block _ (by omega) (by simp; omega)).trans ((F4.out.block _ hlt2 (fun hm=>by have:=(hbl.out _ hm).2; omega)).trans h1))
   have c15:=b15.out.cell;clear hHeld hb4
   go_wp2_with (first
    | (go_at_fn fo; refine (HO.out _ () gk5.out p5.out).mono ?_; rintro e w6 ⟨f6,rfl⟩; have F6:=qd f6; clear f6))
   exact ⟨rfl,fW5.out.trans (F6.out.mono (S':=[P]) (fun b hb=>Or.inl hb)) (fun b hb=>Or.inl (by simp at hb; simp [hb])),rfl⟩
  | ok y s1 =>
   injection hr with hr
   subst hr;have HQ1:=qd (hpq _ s1 e1).2;clear hpq e1;obtain ⟨⟨yk,yt,yn⟩,yp⟩:=y;unfold PostT tkv at HO;dsimp only at HO
   go_enter Tryz.func115,Tryz.ntmps115
   go_wp2_with fail
   refine wp_region_last (L:=5) (S:=fun V=>V.cell? ⟨B2,0,none⟩=some (.slice p acc.length cw)∧V.cell? ⟨B0,0,none⟩=some (.pointer (some ⟨P,0,none⟩))) (by kernel_rfl) (⟨b2c.out.cell,b0c.out.cell⟩) (fun hHeld=>?_)
   refine jp (i:=0) (v:=?_) rfl (by kernel_rfl) (by kernel_rfl) (by kernel_rfl) (by decide) (by kernel_rfl) (fun _ _ _ h=>h) (Or.inl ⟨by rfl,?_⟩) (by assumption) ?_
   rotate_left
   ·(intro w hSw; (try dsimp only at hSw); (try obtain ⟨hS1,hS2⟩:=hSw); first | (go_simp; done) | (go_simp; with_reducible rfl))
   try simp only [Act.put,qq]
   refine jp (i:=1) (v:=?_) rfl (by kernel_rfl) (by kernel_rfl) (by kernel_rfl) (by decide) (by kernel_rfl) (fun _ _ _ h=>h) (Or.inl ⟨by rfl,?_⟩) (by assumption) ?_
   rotate_left
   ·(intro w hSw; (try dsimp only at hSw); (try obtain ⟨hS1,hS2⟩:=hSw); first | (go_simp; done) | (go_simp; with_reducible rfl))
   try simp only [Act.put,qq]
   refine zN (i:=2) (by kernel_rfl) rfl (by decide) (fun K hK=>?_)
   refine qO (by rfl) 80 Tryz.f80 Tryz.func80 (by kernel_rfl) (by kernel_rfl) _ _ rfl _ (by first | (simp [Act.eval]; done) | (simp [Act.eval]; rfl)) _ (HT.out _ p1.out) ?_
   rintro _ w2 ⟨rfl,p2,f2⟩;have F2:=qd (qu F1.out f2);have F2b:Hid (∀ X,X=w2→w2.heap[W.heap.size]?=some (.cells #[.int .i64 0,.string ⟨#[]⟩,.int .i64 0,.int .i64 0] 54 (0,0))):=qd (fun _ _=>(f2.block _ hszW.out (by have:=HI.out.pr.lt; simp; omega)).trans hres.out)
   have Q2:=qd ((bx2.out.fr F2.out (by simpa using fun e=>HAp.out.p2 e.symm)))
   have Q0:=qd ((bx0.out.fr F2.out (by simpa using fun e=>HAp.out.p0 e.symm)))
   have P2:=qd p2;obtain ⟨p',c',w4,r4,z4',f4,n4⟩:=HWd.out w2 F2.out;have R4:=qd r4;have Z4:=qd z4';have F4:=qd f4;have N4:=qd n4;have hlt2:W.heap.size < w2.heap.size:=by have:=f2.size; have:=hszW.out; omega
   clear p2 f2 r4 z4' f4 n4;refine hK.out _ _ (⟨Q2.out.cell,Q0.out.cell⟩) (fun hHeld=>?_)
   clear hK K
   try simp only [Act.put,qq]
   refine zN (i:=3) (by kernel_rfl) rfl (by decide) (fun K hK=>?_)
   refine zQ (by rfl) (v:=.slice (some ⟨w2.heap.size,0,none⟩) 1 1) (w':=w2.alloc (.cells #[.int .i64 tk,.string (ba tt),.int .i64 tn,.int .i64 tp] 54)) (by go_simp) ?_
   refine hK.out _ _ (⟨(Q2.out.bl (Bl.alloc _ _)).cell,(Q0.out.bl (Bl.alloc _ _)).cell⟩) (fun hHeld=>?_)
   clear hK K
   try simp only [Act.put,qq]
   refine zN (i:=4) (by kernel_rfl) rfl (by decide) (fun K hK=>?_)
   refine jO rfl (.tmp 4) (.tmp 7) 50 50 rfl _ _ rfl rfl _ _ R4.out ?_;refine hK.out _ _ (⟨(Q2.out.fr F4.out hB2p.out).cell,(Q0.out.fr F4.out hB0p.out).cell⟩) (fun hHeld=>?_)
   clear hK K
   try simp only [Act.put,qq]
   have e4:=(Q2.out.fr F4.out hB2p.out).cell;have z4f:=qK (Q2.out.fr F4.out hB2p.out) 0;refine wpLast_end (by kernel_rfl) rfl (by kernel_rfl) (fun K hK=>?_)
   go_simp
   refine hK.out _ _ ?_;clear hK K
   try simp only [Act.put,qq]
   obtain ⟨W5,hW5⟩:∃ X,w4.setCell ⟨B2,0,none⟩ (.slice p' (acc.length+1) c')=X:=⟨_,rfl⟩;rw [hW5];have f5:Fr [B2] w4 W5:=hW5▸Fr.setCell w4 _ _ (by simp)
   have s4:=F4.out.size;have s5:=f5.size;have hb4:=Q2.out.fr F4.out hB2p.out;have bB2:Hid (Box W5 B2 (.slice p' (acc.length+1) c') 50):=qd (by rw [← hW5]; show _=_; rw [zc hb4]; rfl)
   have hp'l:∀ b∈blk p',w0.heap.size≤b∧b < w4.heap.size:=fun b hb=>qB Z4.out.1 b ((jj p' _ _ b).1 hb)
   have hl2:=HAp.out.l2;have rZ:Hid (RowZ W5 54 4 w0.heap.size (.slice p' (acc.length+1) c') (acc.length+1) (tcs (acc.map (·.1))++tc (⟨tk,tt,tn⟩,tp))):=qd ⟨qC Z4.out.1 (fun k hk=>f5.block k (qB Z4.out.1 k hk).2 (by have:=(qB Z4.out.1 k hk).1; simp; omega)),Z4.out.2⟩
   have fW5:Hid (Fr (P :: B2 :: blk p) W W5):=qd (((F2.out.mono (fun b hb=>Or.inl (by simp at hb; simp [hb]))).trans F4.out (fun b hb=>Or.inl (by simp [hb]))).trans f5 (fun b hb=>Or.inl (by simp at hb; simp [hb])))
   have hgkn:∀ b∈Gk,b ∉ P :: B2 :: blk p:=fun b hb hm=>by
    have h9:=HAp.out.gk b hb;simp only [List.mem_cons] at hm
    rcases hm with e | e | e
    ·exact h9.1 e
    ·exact h9.2.1 e
    ·have:=(hbl.out b e).1; omega
   have hgkl:∀ b∈Gk,b < W.heap.size:=fun b hb=>by have:=(HAp.out.gk b hb).2.2; have:=HI.out.sz; omega
   have gk5:Hid (∀ b∈Gk,W5.heap[b]?=w0.heap[b]?):=qd (fun b hb=>(fW5.out.block b (hgkl b hb) (hgkn b hb)).trans (HI.out.gk b hb))
   have h0n:B0 ∉ P :: B2 :: blk p:=by
    have:=HAp.out.p0; have:=HAp.out.q0; have:=HAp.out.l0;simp only [List.mem_cons,not_or];exact ⟨fun e=>by omega,fun e=>by omega,fun hm=>by have:=(hbl.out _ hm).1; omega⟩
   have h1n:B1 ∉ P :: B2 :: blk p:=by
    have:=HAp.out.p1; have:=HAp.out.q1; have:=HAp.out.l1;simp only [List.mem_cons,not_or];exact ⟨fun e=>by omega,fun e=>by omega,fun hm=>by have:=(hbl.out _ hm).1; omega⟩
   have b05:=qd (HI.out.b0.fr fW5.out h0n);have b15:=qd (HI.out.b1.fr fW5.out h1n);have hPn:P ∉ blk p:=fun hm=>by have:=(hbl.out _ hm).1; have:=HAp.out.lp; omega
   have hgn:g ∉ blk p:=fun hm=>by have:=(hbl.out _ hm).1; have:=HAp.out.lg; omega
   have p5:=qd ((P2.out.other F4.out hPn hgn).other f5 (by simpa using HAp.out.p2) (by simpa using fun e=>HAp.out.qg e.symm))
   have r5:Hid (W5.heap[W.heap.size]?=some (.cells #[.int .i64 0,.string ⟨#[]⟩,.int .i64 0,.int .i64 0] 54 (0,0))):=qd (by
    have hlW:=HI.out.sz;have hlP:=HAp.out.lp;have h1:w2.heap[W.heap.size]?=some (.cells #[.int .i64 0,.string ⟨#[]⟩,.int .i64 0,.int .i64 0] 54 (0,0)):=(F2b.out w2 rfl);exact (f5.block _ (by omega) (by simp; omega)).trans ((F4.out.block _ hlt2 (fun hm=>by have:=(hbl.out _ hm).2; omega)).trans h1))
   have c15:=b15.out.cell;have hn4:=N4.out;clear hHeld hb4
   go_wp2_with (first
    | (
     go_at_fn fo; refine (HO.out _ () gk5.out p5.out).mono ?_; rintro e w6 ⟨f6,rfl,p6⟩
     have r6:Hid (w6.heap[W.heap.size]?=some (.cells #[.int .i64 0,.string ⟨#[]⟩,.int .i64 0,.int .i64 0] 54 (0,0))):=qd ((f6.block _ (qf r5.out) (by have:=HI.out.pr.lt; simp; omega)).trans r5.out)
     have P6:=qd p6;have F6:=qd f6;clear p6 f6)
    | (refine wpList_store_row rfl 54 _ _ rfl W.heap.size #[.int .i64 yk,.string (ba yt),.int .i64 yn,.int .i64 yp] rfl rfl 54 _ r6.out (by kernel_rfl) rfl (by kernel_rfl) ?_))
   refine ret54g Tryz.results115 (B:=W.heap.size) (setRow_heap _ _ _ _ 54 (0,0) r6.out) rfl ?_;have fb:=qG w6 W.heap.size #[.int .i64 yk,.string (ba yt),.int .i64 yn,.int .i64 yp];have lp:=HI.out.pr.lt;have hI5:I3 (β:=(Tok × Nat)) P g c ts B0 B1 B2 (.func (.func fo) pre caps) 94 Gk w0 (w6.setRow W.heap.size #[.int .i64 yk,.string (ba yt),.int .i64 yn,.int .i64 yp]) (P :: B2 :: blk p') (acc++[((⟨tk,tt,tn⟩,tp),(⟨yk,yt,yn⟩,yp))]) s1:=by
    have hlw:=HI.out.sz;have e0:=HAp.out.l0; have e1:=HAp.out.l1; have e2:=HAp.out.l2; have eg:=HAp.out.lg; have ep:=HAp.out.lp;refine ⟨P6.out.other fb (by simp; omega) (by simp; omega),HQ1.out,fun b hb=>?_,?_,(b05.out.fr F6.out (by simpa using fun e=>HAp.out.p0 e.symm)).fr fb (by simp; omega),(b15.out.fr F6.out (by simpa using fun e=>HAp.out.p1 e.symm)).fr fb (by simp; omega),_,(bB2.out.fr F6.out (by simpa using fun e=>HAp.out.p2 e.symm)).fr fb (by simp; omega),?_,by rw [blk_ob]⟩
    ·have h9:=HAp.out.gk b hb
     rw [setRow_other _ _ _ _ (by omega),F6.out.block b (by omega) (by simpa using h9.1)]
     exact gk5.out b hb
    ·have:=F6.out.size; have:=fb.size; omega
    ·rw [List.length_append,List.length_singleton,List.map_append,List.map_singleton,tcs_snoc]
     refine ⟨qC (qC rZ.out.1 (fun k hk=>F6.out.block k (qB rZ.out.1 k hk).2 (by have:=(qB rZ.out.1 k hk).1; simp; omega))) (fun k hk=>?_),rZ.out.2⟩
     have hm:k∈blk p':=(jj p' _ _ k).2 hk;have h8:=hn4 k hm;refine setRow_other _ _ _ _ ?_
     rcases h8 with h8 | h8
     ·have:=(hbl.out k h8).2; omega
     ·omega
   exact ⟨(fW5.out.trans (F6.out.mono (S':=[P]) (fun b hb=>Or.inl hb)) (fun b hb=>Or.inl (by simp at hb; simp [hb]))).trans fb (fun b hb=>Or.inr (by simp at hb; omega)),P :: B2 :: blk p',rfl,hI5,fun b hb=>by
    simp only [List.mem_cons] at hb ⊢
    rcases hb with e | e | e
    ·exact Or.inl (Or.inl e)
    ·exact Or.inl (Or.inr (Or.inl e))
    ·rcases hn4 b e with h8 | h8
     ·exact Or.inl (Or.inr (Or.inr h8))
     ·exact Or.inr (by omega)⟩
end Go.Proofs.YtfhkhmgodkheaaaGreatDoor
