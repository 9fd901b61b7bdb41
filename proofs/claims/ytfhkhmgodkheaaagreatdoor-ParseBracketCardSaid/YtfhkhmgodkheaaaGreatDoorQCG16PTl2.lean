import Derived.Test.YtfhkhmgodkheaaaGreatDoorQCG15PKwT
import Derived.Lib.SliceRun
import Derived.Test.YtfhkhmgodkheaaaGreatDoorQCG14PBdy
set_option linter.unusedSimpArgs false
set_option linter.unusedVariables false
set_option maxRecDepth 1000000
set_option maxHeartbeats 16000000
namespace Go.Proofs.YtfhkhmgodkheaaaGreatDoor
open Go.RowKit Go.Maps
theorem keywordsT_ok {ts:Ts} (f:Nat) (fo:Nat) (pre caps all:Array Value) (eo:Enters Tryz.prog fo) (hal:pre++caps=all) (pone:Ps→Option (Rs (Tok × Nat))) (hpg:∀ s,Okq ts s→Pq ts s (pone s)) (P g c:Nat) (s:Ps) (w:World) (r:Rs (Bs × List (Tok × Nat))) (Gk:List Nat) (hGk:∀ b∈Gk,b≠P∧b < w.heap.size)
  (hO:∀ V s r,(∀ b∈Gk,V.heap[b]?=w.heap[b]?)→Pr V P g c ts s→Okq ts s→pone s=some r→Calls Tryz.prog fo all V (PostT P g c ts V r)) (h:Pr w P g c ts s) (hok:Okq ts s) (hr:zv ts pone f s=some r) :
  Calls Tryz.prog 81 #[.pointer (some ⟨P,0,none⟩),.func (.func fo) pre caps] w (PostWT P g c ts w r):=by
 have hpl:=h.lt
 have hgl:=h.glt (by have:=hok.lt; omega)
 obtain ⟨W1,hW1⟩:∃ X,w.alloc (.cells #[.pointer (some ⟨P,0,none⟩)] 62)=X:=⟨_,rfl⟩
 obtain ⟨W2,hW2⟩:∃ X,W1.alloc (.cells #[.func (.func fo) pre caps] 94)=X:=⟨_,rfl⟩
 obtain ⟨W3,hW3⟩:∃ X,W2.alloc (.cells #[.slice none 0 0] 50)=X:=⟨_,rfl⟩
 have s1':W1.heap.size=w.heap.size+1:=by rw [← hW1]; simp
 have s2':W2.heap.size=w.heap.size+2:=by rw [← hW2]; simp [s1']
 have s3':W3.heap.size=w.heap.size+3:=by rw [← hW3]; simp [s2']
 have B1:Bl w W1:=hW1▸Bl.alloc _ _
 have B2:Bl W1 W2:=hW2▸Bl.alloc _ _
 have B3:Bl W2 W3:=hW3▸Bl.alloc _ _
 have bw3:=(B1.trans B2).trans B3
 have x1:Box W3 w.heap.size (.pointer (some ⟨P,0,none⟩)) 62:=((show Box W1 w.heap.size _ 62 from hW1▸heap_alloc_new w _).bl B2).bl B3
 have x2:Box W3 W1.heap.size (.func (.func fo) pre caps) 94:=(show Box W2 W1.heap.size _ 94 from hW2▸heap_alloc_new W1 _).bl B3
 have x3:Box W3 W2.heap.size (.slice none 0 0) 50:=hW3▸heap_alloc_new W2 _
 have HAp:Hid (Apy P g w.heap.size W1.heap.size W2.heap.size Gk W3):=qd ⟨by omega,by omega,by omega,by omega,by omega,by omega,by omega,by omega,by omega,by omega,by omega,fun b hb=>⟨(hGk b hb).1,by have:=(hGk b hb).2; omega,by have:=(hGk b hb).2; omega⟩⟩
 have HI:Hid ((I3 (β:=(Tok × Nat)) P g c ts w.heap.size W1.heap.size W2.heap.size (.func (.func fo) pre caps) 94 Gk W3) W3 [P,W2.heap.size] [] s):=qd ⟨h.keep bw3,hok,fun b hb=>rfl,Nat.le_refl _,x1,x2,.slice none 0 0,x3,⟨World.ownsRow_nil _ _ _ _,fun _=>rfl⟩,rfl⟩
 have F3:Hid (Fr [P] w W3):=qd (za bw3)
 have c1:=x1.cell
 have HZ:Hid (w.heap.size≤W3.heap.size∧P < w.heap.size∧w.heap.size≤W2.heap.size):=qd ⟨by omega,hpl,by omega⟩
 have hO3:∀ V s r,(∀ b∈Gk,V.heap[b]?=W3.heap[b]?)→Pr V P g c ts s→Okq ts s→pone s=some r→Calls Tryz.prog fo all V (PostT P g c ts V r):=fun V s r g1 p1 o1 e1=>hO V s r (fun b hb=>(g1 b hb).trans (bw3.block b (hGk b hb).2)) p1 o1 e1
 unfold zv at hr
 have hp1:∀ (acc:List ((Tok × Nat) × (Tok × Nat))) (s:Ps),Okq ts s→(decide (qy (hdT ts s)=3),s).1=true→Pg ts s ((fun (_:List ((Tok × Nat) × (Tok × Nat))) s=>qF (pone (qj ts s)) (fun a s2=>some (.ok (hdT ts s,a) s2))) acc s):=by
  intro acc s hs hth;have hk:qy (hdT ts s)=3:=by simpa using hth
  have ht:=hs.take (zu (by rw [hk]; decide))
  exact Pg.tk (Pq.bind (hpg _ ht) (fun a s1 _ h1=>Pq.ok h1))
 cases e1:qY ts 0 (fun s=>(decide (qy (hdT ts s)=3),s)) (fun (_:List ((Tok × Nat) × (Tok × Nat))) s=>qF (pone (qj ts s)) (fun a s2=>some (.ok (hdT ts s,a) s2))) f [] s with
 | none=>rw [e1] at hr; cases hr
 | some rl =>
  rw [e1] at hr;have HL:=qd (listT_ok (fun a=>a.2) P ([g,w.heap.size,W1.heap.size]++Gk) ts 0 (fun s=>(decide (qy (hdT ts s)=3),s)) (fun (_:List ((Tok × Nat) × (Tok × Nat))) s=>qF (pone (qj ts s)) (fun a s2=>some (.ok (hdT ts s,a) s2))) (by decide) (fun s hs=>⟨Nat.le_refl _,hs⟩) hp1 (I3 (β:=(Tok × Nat)) P g c ts w.heap.size W1.heap.size W2.heap.size (.func (.func fo) pre caps) 94 Gk W3) (I3.invok HAp.out) 114 115 #[] #[.pointer (some ⟨w.heap.size,0,none⟩)] #[] #[.pointer (some ⟨W2.heap.size,0,none⟩),.pointer (some ⟨w.heap.size,0,none⟩),.pointer (some ⟨W1.heap.size,0,none⟩)] (ent 114 _ _ Tryz.func114 (by kernel_rfl) rfl) (ent 115 _ _ Tryz.func115 (by kernel_rfl) rfl)
   (fun W F acc s i=>by rw [show (#[]:Array Value)++#[.pointer (some ⟨w.heap.size,0,none⟩)]=#[.pointer (some ⟨w.heap.size,0,none⟩)] by simp]; exact clo114_ok W F acc s i HAp.out)
   (fun W F acc s r i _ hth hl e=>by rw [show (#[]:Array Value)++#[.pointer (some ⟨W2.heap.size,0,none⟩),.pointer (some ⟨w.heap.size,0,none⟩),.pointer (some ⟨W1.heap.size,0,none⟩)]=#[.pointer (some ⟨W2.heap.size,0,none⟩),.pointer (some ⟨w.heap.size,0,none⟩),.pointer (some ⟨W1.heap.size,0,none⟩)] by simp]; exact clo115_ok fo pre caps all eo hal pone hpg hO3 W F acc s r i HAp.out (by omega) (by simpa using hth) e)
   (fun W F acc s i=>skip3_ok HAp.out 0 (by decide) W F acc s i) f s W3 [P,W2.heap.size] HI.out rl e1)
  cases rl with
  | bad x =>
   injection hr with hr
   subst hr;clear h hok hpl hgl s1' s2' s3' B1 B2 B3 bw3 x1 x2 x3 e1 hp1 hO hO3 hGk hpg
   go_enter Tryz.func81,Tryz.ntmps81
   go_wp2_with (go_at_call 86; refine HL.out.mono ?_; rintro e w2 ⟨f2,rfl⟩; have F4:Hid (Fr [P] w w2):=qd (F3.out.trans f2 (fun b hb=>by have:=HZ.out; simp at hb; rcases hb with rfl | rfl; exact Or.inl (by simp); exact Or.inr (by omega))); clear f2)
   exact ⟨rfl,F4.out,rfl⟩
  | ok ll s1 =>
   have hr2:some (Rs.ok ((zH 0 [] (ll.map (·.1)) s1).1,ll.map (·.2)) (zH 0 [] (ll.map (·.1)) s1).2)=some r:=hr
   injection hr2 with hr2
   subst hr2;have hu:=jx (there:=fun s=>(decide (qy (hdT ts s)=3),s)) (one:=fun (_:List ((Tok × Nat) × (Tok × Nat))) s=>qF (pone (qj ts s)) (fun a s2=>some (.ok (hdT ts s,a) s2))) (Q:=fun a=>a.1.1.text.length≤4096∧a.1.2≤4096) (btw:=0) (by decide) (fun s hs=>⟨Nat.le_refl _,hs⟩) hp1 (fun acc s a s' hs hth e=>by
    obtain ⟨b,s1,e1,e2⟩:=qQ e;injection e2 with e2; injection e2 with e2 e3; subst e2
    exact hs.txt) f [] s ll s1 hok (by simp) e1
   have HU:Hid (∀ x∈ll.map (·.1),x.1.text.length≤4096∧x.2≤4096):=qd (fun x hx=>by obtain ⟨a,ha,rfl⟩:=List.mem_map.1 hx; exact hu a ha)
   have hlen:=zX (there:=fun s=>(decide (qy (hdT ts s)=3),s)) (one:=fun (_:List ((Tok × Nat) × (Tok × Nat))) s=>qF (pone (qj ts s)) (fun a s2=>some (.ok (hdT ts s,a) s2))) (btw:=0) (by decide) (fun s hs=>⟨Nat.le_refl _,hs⟩) hp1 f [] s ll s1 hok (Nat.zero_le _) e1
   have hq1:=((zh (there:=fun s=>(decide (qy (hdT ts s)=3),s)) (one:=fun (_:List ((Tok × Nat) × (Tok × Nat))) s=>qF (pone (qj ts s)) (fun a s2=>some (.ok (hdT ts s,a) s2))) (btw:=0) (by decide) (fun s hs=>⟨Nat.le_refl _,hs⟩) hp1 f [] s hok).1 ll s1 e1).2
   obtain ⟨us,hus⟩:∃ us,ll.map (·.1)=us:=⟨_,rfl⟩
   have hul:us.length=ll.length:=by rw [← hus,List.length_map]
   have HUl:Hid (us.length≤4097):=qd (by have:=hq1.lt; have:=hq1.len; omega)
   rw [hus] at HU ⊢;have HUs:=qd hus;have HULn:=qd hul;have HQ1:=qd hq1;have HB0P:Hid (w.heap.size ∉ [P]):=qd (by simp; omega)
   clear h hok hpl hgl s1' s2' s3' B1 B2 B3 bw3 x1 x2 x3 e1 hp1 hO hO3 hGk hpg hr hu hlen hq1 hus hul
   go_enter Tryz.func81,Tryz.ntmps81
   go_wp2_with (first
    | (
     go_at_call 86; refine HL.out.mono ?_; rintro e w4 ⟨f2,v,F',rfl,l2⟩
     have F4:Hid (Fr [P] w w4):=qd (F3.out.trans f2 (fun b hb=>by have:=HZ.out; simp at hb; rcases hb with rfl | rfl; exact Or.inl (by simp); exact Or.inr (by omega)))
     have L4:=qd l2;obtain ⟨vw,h1,h2,h3⟩:=l2.inv.ex;obtain ⟨pw,cw,rfl⟩:=qz h2.1;rw [HUs.out,← HULn.out] at h2;have k2:=h1.cell;rw [← HULn.out] at k2;have hzz:=HZ.out;have HRd:Hid (∀ w6,Fr [P] w4 w6→RdT w6 (.slice pw us.length cw) us):=qd (fun w6 f6=>RdT.frP h2.1 f6 (by omega))
     have HS:Hid (Kl P g c ts us s1 w.heap.size (.slice pw us.length cw) w4 w4 0 [] s1):=qd ⟨rfl,l2.inv.pr,HQ1.out,Fr.refl _ _,l2.inv.b0,HRd.out w4 (Fr.refl _ _),Nat.zero_le _⟩;clear f2 l2 h1 h2 h3 hzz))
   go_loopw [4,15] (fun q i wr=>∃ (j:Nat) (l:Bs) (s:Ps),j≤us.length∧i=.int .i64 j∧q=.string (ba l)∧Hid (Kl P g c ts us s1 w.heap.size (.slice pw us.length cw) w4 wr j l s)) (fun _ i _=>us.length - (intOf i).toNat)
   case atStart=>exact ⟨0,[],s1,Nat.zero_le _,rfl,rfl,HS⟩
   case round =>
    obtain ⟨i,l,s,hi,rfl,rfl,hk⟩:=hrel;clear HS;have i0:(0:Int)≤(i:Int):=by omega
    by_cases hlt:i < us.length
    ·have i3:(i:Int) < (us.length:Int):=by omega
     obtain ⟨pw',cw',ew,hq⟩:=hk.out.rd.at_;injection ew with ew1 ew2 ew3
     subst ew1;subst ew3;obtain ⟨gw,ow,rfl,hgw,hcw⟩:=hq (by omega)
     obtain ⟨x0,x1,x2,x3⟩:=hcw i hlt;have hst:=words_step us i hlt l s;have hmem:us.getD i zj∈us:=by
      rw [List.getD_eq_getElem?_getD,List.getElem?_eq_getElem hlt]; exact List.getElem_mem hlt
     obtain ⟨hx1,hx2⟩:=HU.out _ hmem;have hbx:=hk.out.b0.cell;have hlen:=hk.out.len;have hun:=HUl.out;rw [show noT=zj from rfl] at x0 x1 x2 x3
     generalize us.getD i zj=x at *;obtain ⟨⟨tk,tt,tn⟩,tp⟩:=x;dsimp only at *;have hz1:(ba l).size=l.length:=by rw [← qo,qJ]
     have hz2:(ba tt).size=tt.length:=by rw [← qo,qJ]
     have HE:Hid (ba l++(ba tt++⟨#[58]⟩)=ba (l++tt++[58])):=qd (by rw [← ba_app,← ba_app,ByteArray.append_assoc]; rfl)
     have hmul:i * 4097≤4097 * 4097:=Nat.mul_le_mul_right _ (by omega)
     have hln:(l++tt++[58]).length=l.length+tt.length+1:=by simp; omega
     have g1:¬ 9223372036854775807 < (ba tt).size+1:=by omega
     have g2:¬ 9223372036854775807 < (ba l).size+((ba tt).size+1):=by omega
     have HP:=qd (fun V p=>pass_ok P g c ts s 73 tp V p (by have:=hk.out.ok.ok.place; omega))
     obtain ⟨W5,hW5⟩:∃ X,wr.alloc (.cells #[.int .i64 tk,.string (ba tt),.int .i64 tn,.int .i64 tp] 54)=X:=⟨_,rfl⟩;have b5:Bl wr W5:=hW5▸Bl.alloc _ _;have g5:W5.heap[wr.heap.size]?=some (.cells #[.int .i64 tk,.string (ba tt),.int .i64 tn,.int .i64 tp] 54 (0,0)):=hW5▸heap_alloc_new wr _;obtain ⟨y0,y1,y2,y3⟩:=zF g5;have hb5:=(hk.out.b0.bl b5).cell;have K5:Hid (Kl P g c ts us s1 w.heap.size (.slice (some ⟨gw,ow,none⟩) us.length cw) w4 W5 i l s):=qd ⟨hk.out.eq,hk.out.pr.keep b5,hk.out.ok,qu hk.out.fr (za b5),hk.out.b0.bl b5,hk.out.rd.keep b5,hlen⟩;have G5:=qd g5;have HBd:Hid (i < us.length∧l.length≤i * 4097∧tt.length≤4096∧tp≤4096):=qd ⟨hlt,hlen,hx1,hx2⟩
     by_cases hc:96 < (l++tt++[58]).length∨8≤i
     ·rw [if_pos hc] at hst
      have HSt:=qd hst;have KK:(96 < (ba l).size+((ba tt).size+1))∨(¬ 96 < (ba l).size+((ba tt).size+1)∧8≤i):=by
       by_cases h9:96 < (ba l).size+((ba tt).size+1)
       ·exact Or.inl h9
       ·refine Or.inr ⟨h9,?_⟩; rcases hc with h | h; omega; exact h
      clear hc hst hmem hgw hcw hq hlen hz1 hz2 hmul hln hx1 hx2 b5 g5 hbx hk;have STEP:Hid (∀ w6,Pr w6 P g c ts (qR 73 tp s)→Fr [P] W5 w6→Kl P g c ts us s1 w.heap.size (.slice (some ⟨gw,ow,none⟩) us.length cw) w4 w6 (i+1) (l++tt++[58]) (qR 73 tp s)):=qd (fun w6 p6 f6=>⟨K5.out.eq.trans HSt.out,p6,K5.out.ok.pass HBd.out.2.2.2,qu K5.out.fr f6,K5.out.b0.fr f6 HB0P.out,HRd.out w6 (qu K5.out.fr f6),by have:=HBd.out; simp only [List.length_append,List.length_singleton]; rw [Nat.add_mul]; omega⟩)
      rcases KK with KK | ⟨KK,K8⟩
      ·have k1:(96:Int) < ((ba l).size:Int)+(((ba tt).size:Int)+1):=by omega
       clear KK
       go_wp2_with (first
        | (go_at_call 116; refine (HP.out _ K5.out.pr).mono ?_; rintro e w6 ⟨rfl,p6,f6⟩; have K6:=qd (STEP.out w6 p6 f6); clear p6 f6))
       go_roundw
       case rel=>exact ⟨i+1,_,_,by omega,by go_num,by rw [HE.out],K6⟩
       case measure=>simp [intOf]; omega
      ·have k1:¬ (96:Int) < ((ba l).size:Int)+(((ba tt).size:Int)+1):=by omega
       have k2:(8:Int)≤i:=by omega
       clear KK K8
       go_wp2_with (first
        | (go_at_call 116; refine (HP.out _ K5.out.pr).mono ?_; rintro e w6 ⟨rfl,p6,f6⟩; have K6:=qd (STEP.out w6 p6 f6); clear p6 f6))
       go_roundw
       case rel=>exact ⟨i+1,_,_,by omega,by go_num,by rw [HE.out],K6⟩
       case measure=>simp [intOf]; omega
     ·rw [if_neg hc] at hst
      have HSt:=qd hst;have k1:¬ (96:Int) < ((ba l).size:Int)+(((ba tt).size:Int)+1):=by omega
      have k2:¬ (8:Int)≤i:=by omega
      clear hc hst hmem hgw hcw hq hlen hz1 hz2 hmul hln hx1 hx2 b5 g5 hbx hk HP;have K6:Hid (Kl P g c ts us s1 w.heap.size (.slice (some ⟨gw,ow,none⟩) us.length cw) w4 W5 (i+1) (l++tt++[58]) s):=qd ⟨K5.out.eq.trans HSt.out,K5.out.pr,K5.out.ok,K5.out.fr,K5.out.b0,K5.out.rd,by have:=HBd.out; simp only [List.length_append,List.length_singleton]; rw [Nat.add_mul]; omega⟩
      go_wp2_with fail
      go_roundw
      case rel=>exact ⟨i+1,_,_,by omega,by go_num,by rw [HE.out],K6⟩
      case measure=>simp [intOf]; omega
    ·have i3:¬ (i:Int) < (us.length:Int):=by omega
     have hie:i=us.length:=by omega
     have hw:zH 0 [] us s1=(l,s):=by
      have:=hk.out.eq;rw [hie,List.drop_length] at this;exact this
     have HW:=qd hw;clear hw hie
     go_wp2_with fail
     refine bodyPost_ret (v:=.tuple #[.string (ba l),v]) (by simp [results,Tryz.results81,go_sem]) rfl ?_
     have hf:=hk.out.fr;have hz:=HZ.out;obtain ⟨h1,h4⟩:=L4.out.ex;refine ⟨qu F4.out hf,?_⟩;rw [HW.out];refine ⟨v,rfl,?_,hk.out.pr⟩
     show RowZ wr 54 4 w.heap.size v (ll.map (·.2)).length (tcs (ll.map (·.2)))
     rw [List.length_map];exact ⟨qC (zM h1.1 (by omega)) (fun k hk=>hf.block k (qB h1.1 k hk).2 (by have:=(qB h1.1 k hk).1; simp; omega)),h1.2⟩
end Go.Proofs.YtfhkhmgodkheaaaGreatDoor
namespace Go.Proofs.YtfhkhmgodkheaaaGreatDoor
open Go.RowKit Go.Maps Go.WideMaps
theorem growT_ok (n:Nat) (hn:n≤100000) (w:World):Calls Tryz.prog 117 #[.slice none 0 0,.int .i64 n] w fun e w'=>Bl w w'∧∃ v,e=.returned v∧w'.ownsRow w.heap.size 54 4 v 0 []:=by
 by_cases h0:n=0
 ·subst h0
  have HE:Hid (Bl w w∧∃ v,Ending.returned (.slice none 0 0)=.returned v∧w.ownsRow w.heap.size 54 4 v 0 []):=qd ⟨Bl.refl _,_,rfl,World.ownsRow_nil _ _ _ _⟩
  go_enter Tryz.func117,Tryz.ntmps117
  go_wp2_with fail
  go_ret
  exact HE.out
 ·obtain ⟨i,hi,hz,hsize,hby⟩:=info_parts info30
  have hr:=Lib.run_append_nil_zeros (P:=Tryz.prog) w 50 3 50 54 i _ .i64 .i64 Tryz.underlying50 Tryz.underlying3 hi hz n (by omega) (by rw [hsize]; decide) (by omega) (by rw [hby]; omega)
  obtain ⟨W1,hW1⟩:∃ X,w.drew.alloc (.cells (Builtin.zeroCells (Value.agg #[.int .i64 0,.string ⟨#[]⟩,.int .i64 0,.int .i64 0]).cells n++Builtin.zeroCells (Value.agg #[.int .i64 0,.string ⟨#[]⟩,.int .i64 0,.int .i64 0]).cells (grownCap w n 0 54 - n)) 54)=X:=⟨_,rfl⟩;rw [hW1] at hr;have hge:=grownCap_ge w n 0 54;have hcm:grownCap w n 0 54≤maxLen:=grownCap_le_maxLen w n 0 54 (by unfold maxLen; omega)
  have HE:Hid (Bl w W1∧∃ v,Ending.returned (.slice (some ⟨w.heap.size,0,none⟩) 0 (grownCap w n 0 54))=.returned v∧W1.ownsRow w.heap.size 54 4 v 0 []):=qd ⟨hW1▸(qV w).trans (Bl.alloc w.drew _),_,rfl,rfl,Or.inr ⟨w.heap.size,grownCap w n 0 54,_,rfl,Nat.le_refl _,hW1▸heap_alloc_new w.drew _,Nat.zero_le _,hcm,by
   simp only [Array.size_append,size_zeroCells]
   rw [← Nat.add_mul,show n+(grownCap w n 0 54 - n)=grownCap w n 0 54 by omega]
   rfl,by simp⟩⟩
  have HR:=qd hr;have n1:(0:Int) < n:=by omega
  generalize grownCap w n 0 54=cp at *;have hcp:cp≤9223372036854775807:=by unfold maxLen at hcm; omega
  clear hr hge hcm hi hz hsize hby h0
  go_enter Tryz.func117,Tryz.ntmps117
  go_wp2_with (at_builtin; refine Lib.wpList_append_run _ rfl (.tmp 20) (.tmp 21) 50 3 rfl _ _ rfl rfl _ _ HR.out ?_)
  go_ret
  exact HE.out
theorem appT (w:World) (base:Nat) (v:Value) (n:Nat) (xs:List Value) (x:Value) (us:Ts) (h:w.ownsRow base 54 4 v n xs) (hs:RdT w x us) (hn:n+us.length≤1000000) (hB:base≤w.heap.size) (hx0:us.length=0→x=.slice none 0 0) :
  ∃ v' w',(Builtin.append_ #[50,50] 50 #[v,x]).run Tryz.prog w=.ok v' w'∧w'.ownsRow base 54 4 v' (n+us.length) (xs++tcs us)∧Fr v.ownBlock.toList w w':=by
 obtain ⟨i,hi,hz,hsize,hby⟩:=info_parts info30
 obtain ⟨p,c,rfl,hp⟩:=hs.at_
 by_cases h0:us.length=0
 ·rw [hx0 h0]
  have hu:us=[]:=List.length_eq_zero_iff.1 h0;subst hu;refine ⟨_,w,run_append_owned_none (P:=Tryz.prog) (w:=w) base 50 50 54 i 4 Tryz.underlying50 hi _ n xs h,?_,Fr.refl _ _⟩
  simpa [tcs] using h
 ·obtain ⟨b,off,rfl,hb,hc⟩:=hp (by omega)
  have hl:(tcs us).length=us.length * 4:=by
   have:∀ l:Ts,(tcs l).length=l.length * 4:=fun l=>by
    induction l with
    | nil=>rfl
    | cons y l ih =>
     rw [show tcs (y :: l)=tc y++tcs l by simp [tcs],List.length_append,ih,List.length_cons,show (tc y).length=4 from rfl]
     omega
   exact this us
  have hcell:∀ j u,(tcs us)[j]?=some u→w.cell? ((⟨b,off,none⟩:Addr).add j)=some u:=fun j u hj=>by
   have hjl:=(List.getElem?_eq_some_iff.1 hj).1;have e:j=j / 4 * 4+j % 4:=by omega
   have hq:j / 4 < us.length:=by omega
   have hm:j % 4 < 4:=by omega
   rw [e,tcs_get us (j / 4) (j % 4) hq hm] at hj;have ha:(⟨b,off,none⟩:Addr).add j=⟨b,off+(j / 4 * 4+j % 4),none⟩:=by
    unfold Addr.add
    split
    ·rename_i h; subst h; simp
    ·rw [← e]
   rw [ha];obtain ⟨q0,q1,q2,q3⟩:=hc (j / 4) hq;have h4:j % 4=0∨j % 4=1∨j % 4=2∨j % 4=3:=by omega
   rcases h4 with h4 | h4 | h4 | h4
   ·rw [h4] at hj ⊢
    rw [← hj,Nat.add_zero];exact q0
   ·rw [h4] at hj ⊢
    rw [← hj,← Nat.add_assoc];exact q1
   ·rw [h4] at hj ⊢
    rw [← hj,← Nat.add_assoc];exact q2
   ·rw [h4] at hj ⊢
    rw [← hj,← Nat.add_assoc];exact q3
  have hone:∀ u∈tcs us,u.oneCell'=true:=fun u hu=>by
   simp only [tcs,List.mem_flatMap] at hu
   obtain ⟨y,_,hy⟩:=hu;simp only [tc,List.mem_cons,List.not_mem_nil,or_false] at hy
   rcases hy with rfl | rfl | rfl | rfl <;> rfl
  obtain ⟨v',w',hr,h2,h3,_⟩:=run_append_own_wide (P:=Tryz.prog) w base 50 50 54 i _ 4 40 Tryz.underlying50 hi hz hsize hby rfl (by decide) _ _ _ h ⟨b,off,none⟩ us.length c (tcs us) hl hcell hone (by unfold maxLen; omega) (by omega) hB
  exact ⟨v',w',hr,h2,Fr.grown h3 (fun k hk=>by rw [hk]; simp)⟩
theorem bl_own {w wz W2:World} {e sz n:Nat} {q:Value} {xs:List Value} (hb:Bl w wz) (ho:wz.ownsRow w.heap.size e sz q n xs) (f2:Fr q.ownBlock.toList wz W2):Bl w W2 :=
 ((Fr.ofBl hb []).trans f2 (fun b hb2=>Or.inr (qB ho b (by simpa using hb2)).1)).bl (by simp)
theorem concat_ok (va vb:Value) (xa xb:Ts) (Bx:Nat) (w:World) (hb:w.heap[Bx]?=some (.cells #[va,vb] 50 (0,0))) (ha:RdT w va xa) (hbs:RdT w vb xb) (a0:xa.length=0→va=.slice none 0 0) (b0:xb.length=0→vb=.slice none 0 0) (la:xa.length≤4097) (lb:xb.length≤4097) :
  Calls Tryz.prog 84 #[.slice (some ⟨Bx,0,none⟩) 2 2] w fun e w'=>Bl w w'∧∃ v,e=.returned v∧w'.ownsRow w.heap.size 54 4 v (xa.length+xb.length) (tcs (xa++xb)):=by
 obtain ⟨pa,ca,rfl,_⟩:=ha.at_
 obtain ⟨pb,cb,rfl,_⟩:=hbs.at_
 have HB:=qd hb
 have HA:=qd ha
 have HBs:=qd hbs
 have HA0:=qd a0
 have HB0:=qd b0
 have c0:w.cell? ⟨Bx,0,none⟩=some (.slice pa xa.length ca):=by rw [qh hb]; rfl
 have c1:w.cell? ⟨Bx,1,none⟩=some (.slice pb xb.length cb):=by rw [qh hb]; rfl
 have HG:=qd (fun n hn V=>growT_ok n hn V)
 clear hb ha hbs a0 b0
 go_enter Tryz.func84,Tryz.ntmps84
 go_wp2_with fail
 go_loopw [3,11] (fun q i wr=>w=wr∧∃ j:Nat,j≤2∧i=.int .i64 j∧q=.int .i64 ((if j=0 then 0 else if j=1 then xa.length else xa.length+xb.length:Nat):Int)) (fun _ i _=>2 - (intOf i).toNat)
 case atStart=>exact ⟨rfl,0,by decide,rfl,rfl⟩
 case round =>
  obtain ⟨rfl,j,hj,rfl,rfl⟩:=hrel;have h4:j=0∨j=1∨j=2:=by omega
  rcases h4 with rfl | rfl | rfl
  ·simp only [if_true]
   go_wp2_with fail
   go_roundw
   case rel=>exact ⟨by trivial,1,by decide,rfl,by simp⟩
   case measure=>simp [intOf]
  ·simp only [if_true,Nat.one_ne_zero,if_false]
   go_wp2_with fail
   go_roundw
   case rel=>exact ⟨by trivial,2,by decide,rfl,by simp⟩
   case measure=>simp [intOf]
  ·simp only [show ¬ (2=0) by decide,show ¬ (2=1) by decide,if_false]
   have e9:((xa.length+xb.length:Nat):Int)=(xa.length:Int)+xb.length:=by omega
   generalize hN:xa.length+xb.length=N at *;have HN:=qd hN;have hNb:N≤100000:=by omega
   clear e9 hN hj
   go_wp2_with (go_at_call 117; refine (HG.out N hNb _).mono ?_; rintro e w1 ⟨b1,v1,rfl,o1⟩; have B1:=qd b1; have O1:=qd o1; clear b1 o1)
   clear HG
   go_loopw [6,27] (fun q i wz=>∃ (j:Nat) (l:Ts),j≤2∧i=.int .i64 j∧l=(if j=0 then [] else if j=1 then xa else xa++xb)∧Hid (wz.ownsRow w.heap.size 54 4 q l.length (tcs l))∧Hid (Bl w wz)) (fun _ i _=>2 - (intOf i).toNat)
   case atStart=>exact ⟨0,[],by decide,rfl,rfl,O1,B1⟩
   case round =>
    clear B1 O1;obtain ⟨j,l,hj,rfl,hl,ho,hb⟩:=hrel;have HL:=qd hl;clear hl;have h4:j=0∨j=1∨j=2:=by omega
    rcases h4 with rfl | rfl | rfl
    ·have hl:l=[]:=HL.out
     subst hl;obtain ⟨v2,W2,r2,o2,f2⟩:=appT wr w.heap.size u6 0 [] _ xa ho.out (HA.out.keep hb.out) (by omega) hb.out.size HA0.out
     have R2:=qd r2;rw [Nat.zero_add,List.nil_append] at o2;have O2:=qd o2;have B2:Hid (Bl w W2):=qd (bl_own hb.out ho.out f2);have k0:wr.cell? ⟨Bx,0,none⟩=some (.slice pa xa.length ca):=by rw [qh ((hb.out.block _ (qf HB.out)).trans HB.out)]; rfl
     obtain ⟨pq,cq,rfl⟩:=qz ho.out;clear r2 o2 f2 hj
     go_wp2_with (at_builtin; refine Lib.wpList_append_run _ rfl (.tmp 31) (.tmp 32) 50 50 rfl _ _ rfl rfl _ _ R2.out ?_)
     go_roundw
     case rel=>exact ⟨1,xa,by decide,rfl,rfl,O2,B2⟩
     case measure=>simp [intOf]
    ·have hl:l=xa:=HL.out
     subst hl;obtain ⟨v2,W2,r2,o2,f2⟩:=appT wr w.heap.size u6 l.length (tcs l) _ xb ho.out (HBs.out.keep hb.out) (by omega) hb.out.size HB0.out
     have R2:=qd r2;have O2:Hid (W2.ownsRow w.heap.size 54 4 v2 (l++xb).length (tcs (l++xb))):=qd (by rw [List.length_append,show tcs (l++xb)=tcs l++tcs xb by simp [tcs]]; exact o2)
     have B2:Hid (Bl w W2):=qd (bl_own hb.out ho.out f2);have k0:wr.cell? ⟨Bx,1,none⟩=some (.slice pb xb.length cb):=by rw [qh ((hb.out.block _ (qf HB.out)).trans HB.out)]; rfl
     obtain ⟨pq,cq,rfl⟩:=qz ho.out;clear r2 o2 f2 hj
     go_wp2_with (at_builtin; refine Lib.wpList_append_run _ rfl (.tmp 31) (.tmp 32) 50 50 rfl _ _ rfl rfl _ _ R2.out ?_)
     go_roundw
     case rel=>exact ⟨2,l++xb,by decide,rfl,rfl,O2,B2⟩
     case measure=>simp [intOf]
    ·have hl:l=xa++xb:=HL.out
     subst hl;clear hj
     go_wp2_with fail
     go_ret
     exact ⟨hb.out,_,rfl,by rw [← List.length_append]; exact ho.out⟩
end Go.Proofs.YtfhkhmgodkheaaaGreatDoor
namespace Go.Proofs.YtfhkhmgodkheaaaGreatDoor
open Go.RowKit Go.Maps
theorem infoS:(Tryz.prog.info? 9).map (fun i=>(i.zero,i.size,i.bytes))=some (some (.string ⟨#[]⟩),1,16):=by kernel_rfl
theorem infoI:(Tryz.prog.info? 3).map (fun i=>(i.zero,i.size,i.bytes))=some (some (.int .i64 0),1,8):=by kernel_rfl
theorem own_ne {w:World} {b1 b2 e1 e2 s1 s2 n1 n2:Nat} {v1 v2:Value} {x1 x2:List Value} (h1:w.ownsRow b1 e1 s1 v1 n1 x1) (h2:w.ownsRow b2 e2 s2 v2 n2 x2) (he:e1≠e2):∀ g,v1.ownBlock=some g→v2.ownBlock=some g→False:=by
 intro g k1 k2
 rcases h1.2 with ⟨rfl,_⟩ | ⟨g1,c1,u1,rfl,_,q1,_⟩
 ·cases k1
 rcases h2.2 with ⟨rfl,_⟩ | ⟨g2,c2,u2,rfl,_,q2,_⟩
 ·cases k2
 have e1':g1=g:=by simpa [Value.ownBlock] using k1
 have e2':g2=g:=by simpa [Value.ownBlock] using k2
 subst e1'
 subst e2'
 rw [q1] at q2
 injection q2 with q2
 injection q2 with q3 q4
 exact he q4
structure Tl (w wr:World) (us:Ts) (vc vn vp:Value) (j:Nat):Prop where
 bl:Bl w wr
 src:wr.ownsRow w.heap.size 54 4 vc us.length (tcs us)
 nm:RowZ wr 9 1 w.heap.size vn j ((us.take j).map fun x=>.string (ba x.1.text))
 pl:RowZ wr 3 1 w.heap.size vp j ((us.take j).map fun x=>.int .i64 (x.2:Nat))
theorem take_snoc (us:Ts) (j:Nat) (h:j < us.length):us.take (j+1)=us.take j++[us.getD j zj]:=by
 rw [List.take_add_one,List.getD_eq_getElem?_getD,List.getElem?_eq_getElem h]; rfl
theorem fr_mem {w w':World} {p:Option Addr} {n c:Nat} {e sz base m:Nat} {v:Value} {xs:List Value} (f:Fr (blk p) w w') (h:w.ownsRow base e sz v m xs) (hn:∀ g,(Value.slice p n c).ownBlock=some g→v.ownBlock=some g→False):w'.ownsRow base e sz v m xs :=
 qC h (fun g hg=>f.block g (qB h g hg).2 (fun hm=>hn g ((jj p n c g).1 hm) hg))
theorem told_ok (va vb:Value) (xa xb:Ts) (w:World) (ha:RdT w va xa) (hb:RdT w vb xb) (a0:xa.length=0→va=.slice none 0 0) (b0:xb.length=0→vb=.slice none 0 0) (la:xa.length≤4097) (lb:xb.length≤4097) :
  Calls Tryz.prog 58 #[va,vb] w fun e w'=>Bl w w'∧∃ vn vp,e=.returned (.tuple #[vn,vp])∧RowZ w' 9 1 w.heap.size vn (xa++xb).length ((xa++xb).map fun x=>.string (ba x.1.text))∧RowZ w' 3 1 w.heap.size vp (xa++xb).length ((xa++xb).map fun x=>.int .i64 (x.2:Nat)):=by
 obtain ⟨pa,ca,rfl,_⟩:=ha.at_
 obtain ⟨pb,cb,rfl,_⟩:=hb.at_
 obtain ⟨w0,hW0⟩:∃ X,w.alloc (.cells #[.slice pa xa.length ca,.slice pb xb.length cb] 50)=X:=⟨_,rfl⟩
 have b0':Bl w w0:=hW0▸Bl.alloc _ _
 have HC:=qd (concat_ok _ _ xa xb w.heap.size w0 (hW0▸heap_alloc_new w _) (ha.keep b0') (hb.keep b0') a0 b0 la lb)
 have HB:=qd b0'
 obtain ⟨us,hus⟩:∃ us,xa++xb=us:=⟨_,rfl⟩
 have hul:xa.length+xb.length=us.length:=by rw [← hus,List.length_append]
 rw [hus,hul] at HC
 rw [hus]
 have hlu:us.length≤8194:=by omega
 clear ha hb a0 b0 b0' hus hul
 go_enter Tryz.func58,Tryz.ntmps58
 go_wp2_with (go_at_call 84; refine HC.out.mono ?_; rintro e w1 ⟨b1,vc,rfl,o1⟩; obtain ⟨pc,cc,rfl⟩:=qz o1; have T0:Hid (Tl w w1 us (.slice pc us.length cc) (.slice none 0 0) (.slice none 0 0) 0):=qd ⟨HB.out.trans b1,zM o1 HB.out.size,⟨World.ownsRow_nil _ _ _ _,fun _=>rfl⟩,⟨World.ownsRow_nil _ _ _ _,fun _=>rfl⟩⟩; clear b1 o1)
 go_loopw [4,5,13] (fun q4 q5 i wr=>∃ j:Nat,j≤us.length∧i=.int .i64 j∧Hid (Tl w wr us (.slice pc us.length cc) q4 q5 j)) (fun _ _ i _=>us.length - (intOf i).toNat)
 case atStart=>exact ⟨0,Nat.zero_le _,rfl,T0⟩
 case round =>
  clear T0 HC;obtain ⟨j,hj,rfl,hT⟩:=hrel;have j0:(0:Int)≤(j:Int):=by omega
  obtain ⟨pn,cn,en⟩:=qz hT.out.nm.1;obtain ⟨pp,cp,ep⟩:=qz hT.out.pl.1;subst en;subst ep
  by_cases hlt:j < us.length
  ·have i3:(j:Int) < (us.length:Int):=by omega
   obtain ⟨gc,ec,q1,q2,q3,q4⟩:=row_at hT.out.src (by omega)
   subst ec;obtain ⟨y0,y1,y2,y3⟩:=(RdT.own hT.out.src).cells j hlt;rw [show noT=zj from rfl] at y0 y1 y2 y3
   have hts:=take_snoc us j hlt;generalize us.getD j zj=x at *;obtain ⟨⟨tk,tt,tn⟩,tp⟩:=x;dsimp only at y0 y1 y2 y3;obtain ⟨W1,hW1⟩:∃ X,wr.alloc (.cells #[.int .i64 tk,.string (ba tt),.int .i64 tn,.int .i64 tp] 54)=X:=⟨_,rfl⟩;have b1:Bl wr W1:=hW1▸Bl.alloc _ _;have g1:W1.heap[wr.heap.size]?=some (.cells #[.int .i64 tk,.string (ba tt),.int .i64 tn,.int .i64 tp] 54 (0,0)):=hW1▸heap_alloc_new wr _;obtain ⟨z0,z1,z2,z3⟩:=zF g1;have on:=qC hT.out.nm.1 (w':=W1) (fun g hg=>b1.block g (qB hT.out.nm.1 g hg).2)
   have op:=qC hT.out.pl.1 (w':=W1) (fun g hg=>b1.block g (qB hT.out.pl.1 g hg).2)
   have oc:=qC hT.out.src (w':=W1) (fun g hg=>b1.block g (qB hT.out.src g hg).2)
   have hbz:=hT.out.bl.size;have hbz1:=b1.size;obtain ⟨pn2,cn2,W2,r2,o2,f2⟩:=pushS Tryz.underlying23 infoS rfl (by decide) W1 w.heap.size pn cn j _ [.string (ba tt)] rfl on (by simp [Value.oneCell']) (by unfold maxLen; omega) (by omega) (by omega)
   have f2':Fr (blk pn) W1 W2:=by
    rcases f2 with ⟨_,_,h⟩ | ⟨h,_⟩
    ·exact h
    ·exact h.mono (by simp)
   have op2:=fr_mem (n:=j) (c:=cn) f2' op (own_ne on op (by decide))
   have oc2:=fr_mem (n:=j) (c:=cn) f2' oc (own_ne on oc (by decide))
   have hbz2:=f2'.size;obtain ⟨pp2,cp2,W3,r3,o3,f3⟩:=pushS Tryz.underlying24 infoI rfl (by decide) W2 w.heap.size pp cp j _ [.int .i64 tp] rfl op2 (by simp [Value.oneCell']) (by unfold maxLen; omega) (by omega) (by omega)
   have f3':Fr (blk pp) W2 W3:=by
    rcases f3 with ⟨_,_,h⟩ | ⟨h,_⟩
    ·exact h
    ·exact h.mono (by simp)
   have on3:=fr_mem (n:=j) (c:=cp) f3' o2 (own_ne op2 o2 (by decide))
   have oc3:=fr_mem (n:=j) (c:=cp) f3' oc2 (own_ne op2 oc2 (by decide))
   have bn:∀ b∈blk pn,w.heap.size≤b:=fun b hb=>(qB on b ((jj pn _ _ b).1 hb)).1
   have bp:∀ b∈blk pp,w.heap.size≤b:=fun b hb=>(qB op b ((jj pp _ _ b).1 hb)).1
   have T3:Hid (Tl w W3 us (.slice (some ⟨gc,0,none⟩) us.length cc) (.slice pn2 (j+1) cn2) (.slice pp2 (j+1) cp2) (j+1)):=qd ⟨((((Fr.ofBl hT.out.bl []).trans (Fr.ofBl b1 []) (by simp)).trans f2' (fun b hb=>Or.inr (bn b hb))).trans f3' (fun b hb=>Or.inr (bp b hb))).bl (by simp),oc3,⟨by rw [hts,List.map_append]; exact on3,fun h=>by omega⟩,⟨by rw [hts,List.map_append]; exact o3,fun h=>by omega⟩⟩
   have R2:=qd r2;have R3:=qd r3;have k3:W2.cell? ⟨wr.heap.size,3,none⟩=some (.int .i64 tp):=by
    have hg2:W2.heap[wr.heap.size]?=some (.cells #[.int .i64 tk,.string (ba tt),.int .i64 tn,.int .i64 tp] 54 (0,0)):=(f2'.block _ (qf g1) (fun hm=>by
     have h9:=(jj pn j cn _).1 hm;have h8:=(qB hT.out.nm.1 _ h9).2;omega)).trans g1
    rw [qh hg2]; rfl
   clear hT on op oc r2 r3 o2 o3 f2 f3 f2' f3' op2 oc2 on3 oc3 bn bp b1 g1 q1 q2 q3 q4 hts hbz hbz1 hbz2 hj
   go_wp2_with (at_builtin; first | (refine Lib.wpList_append_run _ rfl (.tmp 17) (.tmp 20) 23 23 rfl _ _ rfl rfl _ _ R2.out ?_) | (refine Lib.wpList_append_run _ rfl (.tmp 22) (.tmp 25) 24 24 rfl _ _ rfl rfl _ _ R3.out ?_))
   go_roundw
   case rel=>exact ⟨j+1,by omega,by go_num,T3⟩
   case measure=>simp [intOf]; omega
  ·have i3:¬ (j:Int) < (us.length:Int):=by omega
   have hje:j=us.length:=by omega
   subst hje;have HT:=hT;clear hT hj hlt
   go_wp2_with fail
   refine bodyPost_ret (v:=.tuple #[.slice pn us.length cn,.slice pp us.length cp]) (by simp [results,Tryz.results58,go_sem]) rfl ?_
   have h1:=HT.out.nm;have h2:=HT.out.pl;rw [List.take_length] at h1 h2;exact ⟨HT.out.bl,_,_,rfl,h1,h2⟩
end Go.Proofs.YtfhkhmgodkheaaaGreatDoor
