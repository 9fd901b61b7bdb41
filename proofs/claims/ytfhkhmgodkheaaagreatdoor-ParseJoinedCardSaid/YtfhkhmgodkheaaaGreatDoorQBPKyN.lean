import Derived.Test.YtfhkhmgodkheaaaGreatDoorQBG15PBdy
set_option linter.unusedSimpArgs false
set_option linter.unusedVariables false
set_option maxRecDepth 1000000
set_option maxHeartbeats 16000000
namespace Go.Proofs.YtfhkhmgodkheaaaGreatDoor
open Go.RowKit Go.Maps
def PostWN (P g c:Nat) (ts:Ts) (w:World) (r:Rs (Bs × List Nd)) (e:Ending) (w':World):Prop:=Fr [P] w w'∧match r with
 | .ok x s'=>∃ v xs ft,e=.returned (.tuple #[.string (ba x.1),v])∧RowZ w' 34 7 w.heap.size v x.2.length xs∧NdsM w' x.2 xs ft∧Apt w.heap.size (v.ownBlock.toList++ft)∧Pr w' P g c ts s'
 | .bad x=>e=.panicked [{ v:=thrown x,recovered:=false }]
def PostWT (P g c:Nat) (ts:Ts) (w:World) (r:Rs (Bs × Ts)) (e:Ending) (w':World):Prop:=Fr [P] w w'∧match r with
 | .ok x s'=>∃ v,e=.returned (.tuple #[.string (ba x.1),v])∧RowZ w' 54 4 w.heap.size v x.2.length (tcs x.2)∧Pr w' P g c ts s'
 | .bad x=>e=.panicked [{ v:=thrown x,recovered:=false }]
theorem words_step (us:Ts) (i:Nat) (hi:i < us.length) (l:Bs) (s:Ps):wordsP i l (us.drop i) s=wordsP (i+1) (l++(us.getD i noTk).1.text++[58]) (us.drop (i+1)) (if 96 < (l++(us.getD i noTk).1.text++[58]).length∨8≤i then passP 73 (us.getD i noTk).2 s else s):=by
 have e:us.drop i=us.getD i noTk :: us.drop (i+1):=by
  rw [List.drop_eq_getElem_cons hi,List.getD_eq_getElem?_getD,List.getElem?_eq_getElem hi]; rfl
 rw [e]
 rfl
structure Kl (P g c:Nat) (ts us:Ts) (s1:Ps) (B0:Nat) (vw:Value) (w4 wr:World) (i:Nat) (l:Bs) (s:Ps):Prop where
 eq:wordsP 0 [] us s1=wordsP i l (us.drop i) s
 pr:Pr wr P g c ts s
 ok:Okq ts s
 fr:Fr [P] w4 wr
 b0:Box wr B0 (.pointer (some ⟨P,0,none⟩)) 62
 rd:RdT wr vw us
 len:l.length≤i * 4097
theorem RdT.frP {w w':World} {base:Nat} {v:Value} {us:Ts} {P:Nat} (h:w.ownsRow base 54 4 v us.length (tcs us)) (f:Fr [P] w w') (hP:P < base):RdT w' v us :=
 RdT.own (base:=base) (own_congr h (fun k hk=>f.block k (own_lt h k hk).2 (by have:=(own_lt h k hk).1; simp; omega)))
theorem keywordsN_ok {ts:Ts} (f:Nat) (fo:Nat) (pre caps all:Array Value) (eo:Enters Tryz.prog fo) (hal:pre++caps=all) (pone:Ps→Option (Rs Nd)) (hpg:∀ s,Okq ts s→Pq ts s (pone s)) (P g c:Nat) (s:Ps) (w:World) (r:Rs (Bs × List Nd)) (Gk:List Nat) (hGk:∀ b∈Gk,b≠P∧b < w.heap.size)
  (hO:∀ V s r,(∀ b∈Gk,V.heap[b]?=w.heap[b]?)→Pr V P g c ts s→Okq ts s→pone s=some r→Calls Tryz.prog fo all V (PostN P g c ts V r)) (h:Pr w P g c ts s) (hok:Okq ts s) (hr:keywordsP ts pone f s=some r) :
  Calls Tryz.prog 179 #[.pointer (some ⟨P,0,none⟩),.func (.func fo) pre caps] w (PostWN P g c ts w r):=by
 have hpl:=h.lt
 have hgl:=h.glt (by have:=hok.lt; omega)
 obtain ⟨W1,hW1⟩:∃ X,w.alloc (.cells #[.pointer (some ⟨P,0,none⟩)] 62)=X:=⟨_,rfl⟩
 obtain ⟨W2,hW2⟩:∃ X,W1.alloc (.cells #[.func (.func fo) pre caps] 127)=X:=⟨_,rfl⟩
 obtain ⟨W3,hW3⟩:∃ X,W2.alloc (.cells #[.slice none 0 0] 50)=X:=⟨_,rfl⟩
 have s1':W1.heap.size=w.heap.size+1:=by rw [← hW1]; simp
 have s2':W2.heap.size=w.heap.size+2:=by rw [← hW2]; simp [s1']
 have s3':W3.heap.size=w.heap.size+3:=by rw [← hW3]; simp [s2']
 have B1:Bl w W1:=hW1▸Bl.alloc _ _
 have B2:Bl W1 W2:=hW2▸Bl.alloc _ _
 have B3:Bl W2 W3:=hW3▸Bl.alloc _ _
 have bw3:=(B1.trans B2).trans B3
 have x1:Box W3 w.heap.size (.pointer (some ⟨P,0,none⟩)) 62:=((show Box W1 w.heap.size _ 62 from hW1▸heap_alloc_new w _).bl B2).bl B3
 have x2:Box W3 W1.heap.size (.func (.func fo) pre caps) 127:=(show Box W2 W1.heap.size _ 127 from hW2▸heap_alloc_new W1 _).bl B3
 have x3:Box W3 W2.heap.size (.slice none 0 0) 50:=hW3▸heap_alloc_new W2 _
 have HAp:Hid (Apy P g w.heap.size W1.heap.size W2.heap.size Gk W3):=mkHid ⟨by omega,by omega,by omega,by omega,by omega,by omega,by omega,by omega,by omega,by omega,by omega,fun b hb=>⟨(hGk b hb).1,by have:=(hGk b hb).2; omega,by have:=(hGk b hb).2; omega⟩⟩
 have HI:Hid ((I3 (β:=Nd) P g c ts w.heap.size W1.heap.size W2.heap.size (.func (.func fo) pre caps) 127 Gk W3) W3 [P,W2.heap.size] [] s):=mkHid ⟨h.keep bw3,hok,fun b hb=>rfl,Nat.le_refl _,x1,x2,.slice none 0 0,x3,⟨World.ownsRow_nil _ _ _ _,fun _=>rfl⟩,rfl⟩
 have F3:Hid (Fr [P] w W3):=mkHid (bl_fr bw3)
 have c1:=x1.cell
 have HZ:Hid (w.heap.size≤W3.heap.size∧P < w.heap.size∧w.heap.size≤W2.heap.size):=mkHid ⟨by omega,hpl,by omega⟩
 have hO3:∀ V s r,(∀ b∈Gk,V.heap[b]?=W3.heap[b]?)→Pr V P g c ts s→Okq ts s→pone s=some r→Calls Tryz.prog fo all V (PostN P g c ts V r):=fun V s r g1 p1 o1 e1=>hO V s r (fun b hb=>(g1 b hb).trans (bw3.block b (hGk b hb).2)) p1 o1 e1
 unfold keywordsP at hr
 have hp1:∀ (acc:List ((Tok × Nat) × Nd)) (s:Ps),Okq ts s→(decide (rankT (hdT ts s)=3),s).1=true→Pg ts s ((fun (_:List ((Tok × Nat) × Nd)) s=>bindP (pone (takeP ts s)) (fun a s2=>some (.ok (hdT ts s,a) s2))) acc s):=by
  intro acc s hs hth
  have hk:rankT (hdT ts s)=3:=by simpa using hth
  have ht:=hs.take (rank_kind (by rw [hk]; decide))
  exact Pg.tk (Pq.bind (hpg _ ht) (fun a s1 _ h1=>Pq.ok h1))
 cases e1:listA ts 0 (fun s=>(decide (rankT (hdT ts s)=3),s)) (fun (_:List ((Tok × Nat) × Nd)) s=>bindP (pone (takeP ts s)) (fun a s2=>some (.ok (hdT ts s,a) s2))) f [] s with
 | none=>rw [e1] at hr; cases hr
 | some rl =>
  rw [e1] at hr
  have HL:=mkHid (listN_ok (fun a=>a.2) P ([g,w.heap.size,W1.heap.size]++Gk) ts 0 (fun s=>(decide (rankT (hdT ts s)=3),s)) (fun (_:List ((Tok × Nat) × Nd)) s=>bindP (pone (takeP ts s)) (fun a s2=>some (.ok (hdT ts s,a) s2))) (by decide) (fun s hs=>⟨Nat.le_refl _,hs⟩) hp1 (I3 (β:=Nd) P g c ts w.heap.size W1.heap.size W2.heap.size (.func (.func fo) pre caps) 127 Gk W3) (I3.invok HAp.out) 191 192 #[] #[.pointer (some ⟨w.heap.size,0,none⟩)] #[] #[.pointer (some ⟨W2.heap.size,0,none⟩),.pointer (some ⟨w.heap.size,0,none⟩),.pointer (some ⟨W1.heap.size,0,none⟩)] (ent 191 _ _ Tryz.func191 (by kernel_rfl) rfl) (ent 192 _ _ Tryz.func192 (by kernel_rfl) rfl)
   (fun W F acc s i=>by rw [show (#[]:Array Value)++#[.pointer (some ⟨w.heap.size,0,none⟩)]=#[.pointer (some ⟨w.heap.size,0,none⟩)] by simp]; exact clo191_ok W F acc s i HAp.out)
   (fun W F acc s r i _ hth hl e=>by rw [show (#[]:Array Value)++#[.pointer (some ⟨W2.heap.size,0,none⟩),.pointer (some ⟨w.heap.size,0,none⟩),.pointer (some ⟨W1.heap.size,0,none⟩)]=#[.pointer (some ⟨W2.heap.size,0,none⟩),.pointer (some ⟨w.heap.size,0,none⟩),.pointer (some ⟨W1.heap.size,0,none⟩)] by simp]; exact clo192_ok fo pre caps all eo hal pone hpg hO3 W F acc s r i HAp.out (by omega) (by simpa using hth) e)
   (fun W F acc s i=>skip3_ok HAp.out 0 (by decide) W F acc s i) f s W3 [P,W2.heap.size] HI.out rl e1)
  cases rl with
  | bad x =>
   injection hr with hr
   subst hr
   clear h hok hpl hgl s1' s2' s3' B1 B2 B3 bw3 x1 x2 x3 e1 hp1 hO hO3 hGk hpg
   go_enter Tryz.func179,Tryz.ntmps179
   go_wp2_with (go_at_call 88; refine HL.out.mono ?_; rintro e w2 ⟨f2,rfl⟩; have F4:Hid (Fr [P] w w2):=mkHid (F3.out.trans f2 (fun b hb=>by have:=HZ.out; simp at hb; rcases hb with rfl | rfl; exact Or.inl (by simp); exact Or.inr (by omega))); clear f2)
   exact ⟨rfl,F4.out,rfl⟩
  | ok ll s1 =>
   have hr2:some (Rs.ok ((wordsP 0 [] (ll.map (·.1)) s1).1,ll.map (·.2)) (wordsP 0 [] (ll.map (·.1)) s1).2)=some r:=hr
   injection hr2 with hr2
   subst hr2
   have hu:=listA_all (there:=fun s=>(decide (rankT (hdT ts s)=3),s)) (one:=fun (_:List ((Tok × Nat) × Nd)) s=>bindP (pone (takeP ts s)) (fun a s2=>some (.ok (hdT ts s,a) s2))) (Q:=fun a=>a.1.1.text.length≤4096∧a.1.2≤4096) (btw:=0) (by decide) (fun s hs=>⟨Nat.le_refl _,hs⟩) hp1 (fun acc s a s' hs hth e=>by
    obtain ⟨b,s1,e1,e2⟩:=bindP_ok e
    injection e2 with e2; injection e2 with e2 e3; subst e2
    exact hs.txt) f [] s ll s1 hok (by simp) e1
   have HU:Hid (∀ x∈ll.map (·.1),x.1.text.length≤4096∧x.2≤4096):=mkHid (fun x hx=>by obtain ⟨a,ha,rfl⟩:=List.mem_map.1 hx; exact hu a ha)
   have hlen:=listA_len (there:=fun s=>(decide (rankT (hdT ts s)=3),s)) (one:=fun (_:List ((Tok × Nat) × Nd)) s=>bindP (pone (takeP ts s)) (fun a s2=>some (.ok (hdT ts s,a) s2))) (btw:=0) (by decide) (fun s hs=>⟨Nat.le_refl _,hs⟩) hp1 f [] s ll s1 hok (Nat.zero_le _) e1
   have hq1:=((listA_pg (there:=fun s=>(decide (rankT (hdT ts s)=3),s)) (one:=fun (_:List ((Tok × Nat) × Nd)) s=>bindP (pone (takeP ts s)) (fun a s2=>some (.ok (hdT ts s,a) s2))) (btw:=0) (by decide) (fun s hs=>⟨Nat.le_refl _,hs⟩) hp1 f [] s hok).1 ll s1 e1).2
   obtain ⟨us,hus⟩:∃ us,ll.map (·.1)=us:=⟨_,rfl⟩
   have hul:us.length=ll.length:=by rw [← hus,List.length_map]
   have HUl:Hid (us.length≤4097):=mkHid (by have:=hq1.lt; have:=hq1.len; omega)
   rw [hus] at HU ⊢
   have HUs:=mkHid hus
   have HULn:=mkHid hul
   have HQ1:=mkHid hq1
   have HB0P:Hid (w.heap.size ∉ [P]):=mkHid (by simp; omega)
   clear h hok hpl hgl s1' s2' s3' B1 B2 B3 bw3 x1 x2 x3 e1 hp1 hO hO3 hGk hpg hr hu hlen hq1 hus hul
   go_enter Tryz.func179,Tryz.ntmps179
   go_wp2_with (first
    | (
     go_at_call 88; refine HL.out.mono ?_; rintro e w4 ⟨f2,v,F',rfl,l2⟩
     have F4:Hid (Fr [P] w w4):=mkHid (F3.out.trans f2 (fun b hb=>by have:=HZ.out; simp at hb; rcases hb with rfl | rfl; exact Or.inl (by simp); exact Or.inr (by omega)))
     have L4:=mkHid l2
     obtain ⟨vw,h1,h2,h3⟩:=l2.inv.ex
     obtain ⟨pw,cw,rfl⟩:=own_slice h2.1
     rw [HUs.out,← HULn.out] at h2
     have k2:=h1.cell
     rw [← HULn.out] at k2
     have hzz:=HZ.out
     have HRd:Hid (∀ w6,Fr [P] w4 w6→RdT w6 (.slice pw us.length cw) us):=mkHid (fun w6 f6=>RdT.frP h2.1 f6 (by omega))
     have HS:Hid (Kl P g c ts us s1 w.heap.size (.slice pw us.length cw) w4 w4 0 [] s1):=mkHid ⟨rfl,l2.inv.pr,HQ1.out,Fr.refl _ _,l2.inv.b0,HRd.out w4 (Fr.refl _ _),Nat.zero_le _⟩
     clear f2 l2 h1 h2 h3 hzz))
   go_loopw [4,15] (fun q i wr=>∃ (j:Nat) (l:Bs) (s:Ps),j≤us.length∧i=.int .i64 j∧q=.string (ba l)∧Hid (Kl P g c ts us s1 w.heap.size (.slice pw us.length cw) w4 wr j l s)) (fun _ i _=>us.length - (intOf i).toNat)
   case atStart=>exact ⟨0,[],s1,Nat.zero_le _,rfl,rfl,HS⟩
   case round =>
    obtain ⟨i,l,s,hi,rfl,rfl,hk⟩:=hrel
    clear HS
    have i0:(0:Int)≤(i:Int):=by omega
    by_cases hlt:i < us.length
    ·have i3:(i:Int) < (us.length:Int):=by omega
     obtain ⟨pw',cw',ew,hq⟩:=hk.out.rd.at_
     injection ew with ew1 ew2 ew3
     subst ew1
     subst ew3
     obtain ⟨gw,ow,rfl,hgw,hcw⟩:=hq (by omega)
     obtain ⟨x0,x1,x2,x3⟩:=hcw i hlt
     have hst:=words_step us i hlt l s
     have hmem:us.getD i noTk∈us:=by
      rw [List.getD_eq_getElem?_getD,List.getElem?_eq_getElem hlt]; exact List.getElem_mem hlt
     obtain ⟨hx1,hx2⟩:=HU.out _ hmem
     have hbx:=hk.out.b0.cell
     have hlen:=hk.out.len
     have hun:=HUl.out
     rw [show noT=noTk from rfl] at x0 x1 x2 x3
     generalize us.getD i noTk=x at *
     obtain ⟨⟨tk,tt,tn⟩,tp⟩:=x
     dsimp only at *
     have hz1:(ba l).size=l.length:=by rw [← lst_len,lst_ba]
     have hz2:(ba tt).size=tt.length:=by rw [← lst_len,lst_ba]
     have HE:Hid (ba l++(ba tt++⟨#[58]⟩)=ba (l++tt++[58])):=mkHid (by rw [← ba_app,← ba_app,ByteArray.append_assoc]; rfl)
     have hmul:i * 4097≤4097 * 4097:=Nat.mul_le_mul_right _ (by omega)
     have hln:(l++tt++[58]).length=l.length+tt.length+1:=by simp; omega
     have g1:¬ 9223372036854775807 < (ba tt).size+1:=by omega
     have g2:¬ 9223372036854775807 < (ba l).size+((ba tt).size+1):=by omega
     have HP:=mkHid (fun V p=>pass_ok P g c ts s 73 tp V p (by have:=hk.out.ok.ok.place; omega))
     obtain ⟨W5,hW5⟩:∃ X,wr.alloc (.cells #[.int .i64 tk,.string (ba tt),.int .i64 tn,.int .i64 tp] 54)=X:=⟨_,rfl⟩
     have b5:Bl wr W5:=hW5▸Bl.alloc _ _
     have g5:W5.heap[wr.heap.size]?=some (.cells #[.int .i64 tk,.string (ba tt),.int .i64 tn,.int .i64 tp] 54 (0,0)):=hW5▸heap_alloc_new wr _
     obtain ⟨y0,y1,y2,y3⟩:=cells4 g5
     have hb5:=(hk.out.b0.bl b5).cell
     have K5:Hid (Kl P g c ts us s1 w.heap.size (.slice (some ⟨gw,ow,none⟩) us.length cw) w4 W5 i l s):=mkHid ⟨hk.out.eq,hk.out.pr.keep b5,hk.out.ok,fr_tr hk.out.fr (bl_fr b5),hk.out.b0.bl b5,hk.out.rd.keep b5,hlen⟩
     have G5:=mkHid g5
     have HBd:Hid (i < us.length∧l.length≤i * 4097∧tt.length≤4096∧tp≤4096):=mkHid ⟨hlt,hlen,hx1,hx2⟩
     by_cases hc:96 < (l++tt++[58]).length∨8≤i
     ·rw [if_pos hc] at hst
      have HSt:=mkHid hst
      have KK:(96 < (ba l).size+((ba tt).size+1))∨(¬ 96 < (ba l).size+((ba tt).size+1)∧8≤i):=by
       by_cases h9:96 < (ba l).size+((ba tt).size+1)
       ·exact Or.inl h9
       ·refine Or.inr ⟨h9,?_⟩; rcases hc with h | h; omega; exact h
      clear hc hst hmem hgw hcw hq hlen hz1 hz2 hmul hln hx1 hx2 b5 g5 hbx hk
      have STEP:Hid (∀ w6,Pr w6 P g c ts (passP 73 tp s)→Fr [P] W5 w6→Kl P g c ts us s1 w.heap.size (.slice (some ⟨gw,ow,none⟩) us.length cw) w4 w6 (i+1) (l++tt++[58]) (passP 73 tp s)):=mkHid (fun w6 p6 f6=>⟨K5.out.eq.trans HSt.out,p6,K5.out.ok.pass HBd.out.2.2.2,fr_tr K5.out.fr f6,K5.out.b0.fr f6 HB0P.out,HRd.out w6 (fr_tr K5.out.fr f6),by have:=HBd.out; simp only [List.length_append,List.length_singleton]; rw [Nat.add_mul]; omega⟩)
      rcases KK with KK | ⟨KK,K8⟩
      ·have k1:(96:Int) < ((ba l).size:Int)+(((ba tt).size:Int)+1):=by omega
       clear KK
       go_wp2_with (first
        | (go_at_call 116; refine (HP.out _ K5.out.pr).mono ?_; rintro e w6 ⟨rfl,p6,f6⟩; have K6:=mkHid (STEP.out w6 p6 f6); clear p6 f6))
       go_roundw
       case rel=>exact ⟨i+1,_,_,by omega,by go_num,by rw [HE.out],K6⟩
       case measure=>simp [intOf]; omega
      ·have k1:¬ (96:Int) < ((ba l).size:Int)+(((ba tt).size:Int)+1):=by omega
       have k2:(8:Int)≤i:=by omega
       clear KK K8
       go_wp2_with (first
        | (go_at_call 116; refine (HP.out _ K5.out.pr).mono ?_; rintro e w6 ⟨rfl,p6,f6⟩; have K6:=mkHid (STEP.out w6 p6 f6); clear p6 f6))
       go_roundw
       case rel=>exact ⟨i+1,_,_,by omega,by go_num,by rw [HE.out],K6⟩
       case measure=>simp [intOf]; omega
     ·rw [if_neg hc] at hst
      have HSt:=mkHid hst
      have k1:¬ (96:Int) < ((ba l).size:Int)+(((ba tt).size:Int)+1):=by omega
      have k2:¬ (8:Int)≤i:=by omega
      clear hc hst hmem hgw hcw hq hlen hz1 hz2 hmul hln hx1 hx2 b5 g5 hbx hk HP
      have K6:Hid (Kl P g c ts us s1 w.heap.size (.slice (some ⟨gw,ow,none⟩) us.length cw) w4 W5 (i+1) (l++tt++[58]) s):=mkHid ⟨K5.out.eq.trans HSt.out,K5.out.pr,K5.out.ok,K5.out.fr,K5.out.b0,K5.out.rd,by have:=HBd.out; simp only [List.length_append,List.length_singleton]; rw [Nat.add_mul]; omega⟩
      go_wp2_with fail
      go_roundw
      case rel=>exact ⟨i+1,_,_,by omega,by go_num,by rw [HE.out],K6⟩
      case measure=>simp [intOf]; omega
    ·have i3:¬ (i:Int) < (us.length:Int):=by omega
     have hie:i=us.length:=by omega
     have hw:wordsP 0 [] us s1=(l,s):=by
      have:=hk.out.eq
      rw [hie,List.drop_length] at this
      exact this
     have HW:=mkHid hw
     clear hw hie
     go_wp2_with fail
     refine bodyPost_ret (v:=.tuple #[.string (ba l),v]) (by simp [results,Tryz.results179,go_sem]) rfl ?_
     have hf:=hk.out.fr
     have hz:=HZ.out
     obtain ⟨xs,ft,h1,h2,h3,h4⟩:=L4.out.ex
     have hnp:∀ b∈v.ownBlock.toList++ft,b ∉ [P]:=fun b hb=>by have:=h3.lo b hb; simp; omega
     refine ⟨fr_tr F4.out hf,?_⟩
     rw [HW.out]
     refine ⟨v,xs,ft,rfl,?_,h2.fr hf (fun b hb=>hnp b (by simp [hb])),h3.mono (by omega),hk.out.pr⟩
     show RowZ wr 34 7 w.heap.size v (ll.map (·.2)).length xs
     rw [List.length_map]
     exact ⟨own_congr (ownR_base h1.1 (by omega)) (fun k hk=>hf.block k (own_lt h1.1 k hk).2 (hnp k (by simp [hk]))),h1.2⟩
end Go.Proofs.YtfhkhmgodkheaaaGreatDoor
