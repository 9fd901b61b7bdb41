import Derived.Test.YtfhkhmgodkheaaaGreatDoorQCG40UBk
import Derived.Test.YtfhkhmgodkheaaaGreatDoorQCG10PReg
import Derived.Test.YtfhkhmgodkheaaaGreatDoorQCG21PMes
import Derived.Test.YtfhkhmgodkheaaaGreatDoorQCG14PBdy
import Derived.Test.YtfhkhmgodkheaaaGreatDoorQCG27TNm
import Derived.Deep.DeepCutAuto
import Derived.Test.YtfhkhmgodkheaaaGreatDoorQCG05PAhead
import Derived.Laws.IdiomStrings
import Derived.Laws.BytesArg
import Derived.Deep.AppendLies
set_option linter.unusedSimpArgs false
set_option linter.unusedVariables false
namespace Go.Proofs.YtfhkhmgodkheaaaGreatDoor
def jQ:Nat→Bs
 | 3=>[116,32,43,32,40]
 | 4=>[116,32,97,116,58,32,40]
 | 5=>[116,32,58,61,32,40]
 | _=>[40]
def headT:Nat→Ts
 | 3=>[(⟨1,[116],0⟩,0),(⟨3,[43],0⟩,2),(⟨8,[],0⟩,4)]
 | 4=>[(⟨1,[116],0⟩,0),(⟨2,[97,116],0⟩,2),(⟨8,[],0⟩,6)]
 | 5=>[(⟨1,[116],0⟩,0),(⟨14,[],0⟩,2),(⟨8,[],0⟩,5)]
 | _=>[(⟨8,[],0⟩,0)]
def tailB:Nat→Bs
 | 1=>[41,32,102,111,111]
 | 2=>[41,32,43,32,116]
 | _=>[41]
def postT:Nat→Nat→Ts
 | 1,q=>[(⟨1,[102,111,111],0⟩,q+2)]
 | 2,q=>[(⟨3,[43],0⟩,q+2),(⟨1,[116],0⟩,q+4)]
 | _,_=>[]
theorem head_lx (i:Nat) {R:Bs} {ts:Ts} {e:Option Nat} (h:Lx (jQ i).length R ts e):Lx 0 (jQ i++R) (headT i++ts) e:=by
 match i,h with
 | 3,h =>
  refine Lx.tok _ _ ⟨1,[116],0⟩ 1 _ _ (by rfl) ?_
  refine Lx.pass _ _ 1 _ _ (by unfold cut; rfl) ?_
  refine Lx.tok _ _ ⟨3,[43],0⟩ 1 _ _ (by rfl) ?_
  refine Lx.pass _ _ 1 _ _ (by unfold cut; rfl) ?_
  exact Lx.tok _ _ ⟨8,[],0⟩ 1 _ _ (by rfl) h
 | 4,h =>
  refine Lx.tok _ _ ⟨1,[116],0⟩ 1 _ _ (by rfl) ?_
  refine Lx.pass _ _ 1 _ _ (by unfold cut; rfl) ?_
  refine Lx.tok _ _ ⟨2,[97,116],0⟩ 3 _ _ (by rfl) ?_
  refine Lx.pass _ _ 1 _ _ (by unfold cut; rfl) ?_
  exact Lx.tok _ _ ⟨8,[],0⟩ 1 _ _ (by rfl) h
 | 5,h =>
  refine Lx.tok _ _ ⟨1,[116],0⟩ 1 _ _ (by rfl) ?_
  refine Lx.pass _ _ 1 _ _ (by unfold cut; rfl) ?_
  refine Lx.tok _ _ ⟨14,[],0⟩ 2 _ _ (by rfl) ?_
  refine Lx.pass _ _ 1 _ _ (by unfold cut; rfl) ?_
  exact Lx.tok _ _ ⟨8,[],0⟩ 1 _ _ (by rfl) h
 | 0,h=>exact Lx.tok _ _ ⟨8,[],0⟩ 1 _ _ (by rfl) h
 | 1,h=>exact Lx.tok _ _ ⟨8,[],0⟩ 1 _ _ (by rfl) h
 | 2,h=>exact Lx.tok _ _ ⟨8,[],0⟩ 1 _ _ (by rfl) h
 | _+6,h=>exact Lx.tok _ _ ⟨8,[],0⟩ 1 _ _ (by rfl) h
theorem tail_lx (i q:Nat):Lx q (tailB i) ((⟨9,[],0⟩,q) :: postT i q) none:=by
 match i with
 | 1 =>
  refine Lx.tok _ _ ⟨9,[],0⟩ 1 _ _ (by rfl) ?_
  refine Lx.pass _ _ 1 _ _ (by unfold cut; rfl) ?_
  exact Lx.tok _ _ ⟨1,[102,111,111],0⟩ 3 _ _ (by rfl) (Lx.stop _)
 | 2 =>
  refine Lx.tok _ _ ⟨9,[],0⟩ 1 _ _ (by rfl) ?_
  refine Lx.pass _ _ 1 _ _ (by unfold cut; rfl) ?_
  refine Lx.tok _ _ ⟨3,[43],0⟩ 1 _ _ (by rfl) ?_
  refine Lx.pass _ _ 1 _ _ (by unfold cut; rfl) ?_
  exact Lx.tok _ _ ⟨1,[116],0⟩ 1 _ _ (by rfl) (Lx.stop _)
 | 0=>exact Lx.tok _ _ ⟨9,[],0⟩ 1 _ _ (by rfl) (Lx.stop _)
 | _+3=>exact Lx.tok _ _ ⟨9,[],0⟩ 1 _ _ (by rfl) (Lx.stop _)
theorem head_le (i:Nat):(jQ i).length≤7:=by
 match i with
 | 0 | 1 | 2 | 3 | 4 | 5=>decide
 | _+6=>show 1≤7; decide
theorem tail_le (i:Nat):(tailB i).length≤5:=by
 match i with
 | 0 | 1 | 2=>decide
 | _+3=>show 1≤5; decide
def wholeT (i:Nat) (us:Ts) (L z:Nat):Ts:=headT i++(Lx.sh (jQ i).length us++(((⟨9,[],0⟩:Tok),(jQ i).length+L+1) :: (postT i ((jQ i).length+L+1)++[(zx,z)])))
theorem whole_lex (i:Nat) {l1:Bs} {us:Ts} (hx:Lx 0 l1 us none) (hl:l1.length+20≤4096):∃ z,LexR (jQ i++(l1++(32 :: tailB i))) (wholeT i us l1.length z) 0 0:=by
 refine ⟨(jQ i++(l1++(32 :: tailB i))).length,?_⟩
 have h1:Lx (jQ i).length (l1++(32 :: tailB i)) (Lx.sh (jQ i).length us++(((⟨9,[],0⟩:Tok),(jQ i).length+l1.length+1) :: postT i ((jQ i).length+l1.length+1))) none:=by
  have h2:=hx.shift (jQ i).length;rw [Nat.zero_add] at h2;exact h2.join (gs_blank _) rfl (blank_lx _ (tail_lx i _))
 have h3:=LexR.mkU (by rw [List.length_append,List.length_append,List.length_cons]; have:=head_le i; have:=tail_le i; omega) (head_lx i h1)
 unfold wholeT
 rw [List.append_assoc,List.append_assoc,List.cons_append] at h3
 exact h3
theorem at_post {pre post us:Ts} {q j:Nat} {y:Tok × Nat}:(pre++(Lx.sh q us++y :: post)).getD (pre.length+us.length+1+j) zj=post.getD j zj:=by
 rw [show pre.length+us.length+1+j=pre.length+((Lx.sh q us).length+(1+j)) by rw [sh_len]; omega,getD_app2,getD_app2,Nat.add_comm 1 j]
 rfl
theorem hd_at2 {ts:Ts} {s:Ps} {x:Tok × Nat} {i:Nat} (h:s.pos=i) (hx:ts.getD i zj=x):hdT ts s=x:=by unfold hdT; rw [h,hx]
theorem take_is {ts:Ts} {s:Ps} {x:Tok × Nat} (h:hdT ts s=x) (hb:qW x s=s):qj ts s={ s with pos:=s.pos+1 }:=by
 unfold qj; rw [h,hb]
theorem bound_name (t:Bs) (ht:t.length≤32) (v q:Nat) (s:Ps):qW (⟨1,t,v⟩,q) s=s:=by
 unfold qW jM
 rw [if_pos (Or.inl rfl),if_neg (by show ¬ 32 < t.length; omega)]
theorem bound_key (t:Bs) (ht:t.length≤32) (v q:Nat) (s:Ps):qW (⟨2,t,v⟩,q) s=s:=by
 unfold qW jM
 rw [if_pos (Or.inr rfl),if_neg (by show ¬ 32 < t.length; omega)]
theorem doit_ex {l:Bs} {ts:Ts} {m:Nd} {sF:Ps} (hL:LexR l ts 0 0) (h12:(ts.getD 0 zj).1.kind≠12∧(ts.getD 0 zj).1.kind≠15∧(ts.getD 0 zj).1.kind≠18) (hE:Ex ts s0 m sF) (hF:(hdT ts sF).1.kind=18):∃ r a,Reads false l r sF.code a∧(sF.code=0→∃ t,r=some t∧t.body=[m]):=by
 have hd0:hdT ts s0=ts.getD 0 zj:=rfl
 have h15:qi ts 15 s0=false:=by unfold qi; rw [hd0]; exact decide_eq_false h12.2.1
 have h18:qi ts 18 s0=false:=by unfold qi; rw [hd0]; exact decide_eq_false h12.2.2
 have h16:qi ts 16 sF=false:=by unfold qi; rw [hF]; rfl
 obtain ⟨f,hf⟩:=Ls.last (ts:=ts) (btw:=16) (there:=thr ts) (one:=oneSt ts) (acc:=[]) (s:=s0) (s1:=s0) (up_st ts) (by decide) (by show (!qi ts 18 s0,s0)=_; rw [h18]; rfl) (oneSt.mk rfl (Sm.expr h15 hE)) h16
 have hR:=doit_of hL (f:=f) (temporaries_none (by rw [hd0]; exact h12.1)) hf (by unfold qi; rw [hF]; rfl)
 refine ⟨_,_,hR,fun h=>?_⟩
 rw [if_pos h]
 exact ⟨_,rfl,rfl⟩
def whereB (i:Nat) (m n:Nt):Prop:=(i=0→m=n)∧(i≠0→(if i=3∨i=4 then 1 else 0) < m.kids.length∧m.kids.getD (if i=3∨i=4 then 1 else 0) qE=n)
theorem bound_op (t:Bs) (v q:Nat) (s:Ps):qW (⟨3,t,v⟩,q) s=s:=by first | rfl | simp [qW]
theorem bound_as (t:Bs) (v q:Nat) (s:Ps):qW (⟨14,t,v⟩,q) s=s:=by first | rfl | simp [qW]
theorem named_t {ts:Ts} {most:Nat} {s:Ps} {q:Nat} (h:hdT ts s=(⟨1,[116],0⟩,q)):jf ts most s=.ok (.mk 6 [116] 0 q [] [] []) (qj ts s):=by
 unfold jf
 rw [h]
 dsimp only
 rw [if_neg (by decide),if_pos (by decide)]
theorem rank_stop (z:Nat):qy (zx,z)=0:=rfl
theorem rank_foo (q:Nat):qy (⟨1,[102,111,111],0⟩,q)=1:=by show qI [102,111,111]=1; decide
theorem rank_plus (q:Nat):qy (⟨3,[43],0⟩,q)=2:=by show qI [43]=2; decide
theorem rank_at (q:Nat):qy (⟨2,[97,116],0⟩,q)=3:=by show qI [97,116,58]=3; decide
theorem brack_pure {l1:Bs} {ts1:Ts} {a:Src} {n:Nd} {r:Option Src} {a':Nat} (h1:LexR l1 ts1 0 0) (r1:Reads false l1 (some a) 0 0) (hb:a.body=[n]) (hk:n.kind≠13) (hbar:(ts1.getD 0 zj).1.kind≠12) (hx:Reads false (l1++[32,46,32,120]) r 0 a') (hl1:l1.length+20≤4096) (i:Nat) (hi:i < 6) :
  ∃ r c a,Reads false (jQ i++(l1++(32 :: tailB i))) r c a∧(c=72∨(c=0∧∃ t m,r=some t∧t.body=[m]∧whereB i (trN m) (trN n))):=by
 obtain ⟨us1,f,s1,hx1,rfl,e1,e2,e3,e4⟩:=one_expr h1 r1 hb hk hbar hx (by omega)
 obtain ⟨z,hL⟩:=whole_lex i hx1 hl1
 have hokk:=h1.okq.1
 obtain ⟨q,hq⟩:∃ q,q=(jQ i).length+l1.length+1:=⟨_,rfl⟩
 obtain ⟨T,hT⟩:∃ T,T=wholeT i us1 l1.length z:=⟨_,rfl⟩
 have hT2:T=headT i++(Lx.sh (jQ i).length us1++((⟨9,[],0⟩:Tok),q) :: (postT i q++[(zx,z)])):=by rw [hT,hq]; rfl
 have P:∀ s:Ps,s.pos+1=(headT i).length→(hdT T s).1.kind=8→s.opn=0→s.code=0→∃ n' s3,(∀ most,Pm T most s n' s3)∧trN n'=trN n∧s3.pos=(headT i).length+us1.length+1∧(s3.code=0∨s3.code=72):=by
  intro s hs h8 hso hsc;rw [hT2] at h8 ⊢;exact in_paren hokk e1 e2 e3 e4 _ _ _ _ rfl s hs h8 hso hsc
 have post:∀ j (s:Ps),s.pos=(headT i).length+us1.length+1+j→hdT T s=(postT i q++[(zx,z)]).getD j zj:=fun j s hs=>by
  rw [hT2];exact hd_at2 hs at_post
 have front:∀ j (s:Ps) (x:Tok × Nat),s.pos=j→(headT i)[j]?=some x→hdT T s=x:=fun j s x hs hj=>by
  rw [hT2];refine hd_at2 hs ?_;rw [List.getD_eq_getElem?_getD,List.getElem?_append_left (by obtain ⟨h,_⟩:=List.getElem?_eq_some_iff.1 hj; exact h),hj]
  rfl
 rw [← hT] at hL
 have fin:∀ m sF,Ex T s0 m sF→hdT T sF=(zx,z)→(sF.code=0∨sF.code=72)→whereB i (trN m) (trN n)→((hdT T s0).1.kind≠12∧(hdT T s0).1.kind≠15∧(hdT T s0).1.kind≠18) →
   ∃ r c a,Reads false (jQ i++(l1++(32 :: tailB i))) r c a∧(c=72∨(c=0∧∃ t m,r=some t∧t.body=[m]∧whereB i (trN m) (trN n))):=by
  intro m sF hE hF hc hw h0;obtain ⟨r,a,hR,hb⟩:=doit_ex hL h0 hE (by rw [hF]; rfl)
  refine ⟨r,sF.code,a,hR,?_⟩
  rcases hc with h | h
  ·obtain ⟨t,q1,q2⟩:=hb h
   exact Or.inr ⟨h,t,m,q1,q2,hw⟩
  ·exact Or.inl h
 clear hT2 hT hL hx h1 r1 hbar
 have no17:∀ s,hdT T s=(zx,z)→qi T 17 s=false:=fun s h=>by unfold qi; rw [h]; rfl
 have low:∀ s k,hdT T s=(zx,z)→1≤k→qy (hdT T s) < k:=fun s k h hk=>by rw [h,rank_stop]; omega
 have hcases:i=0∨i=1∨i=2∨i=3∨i=4∨i=5:=by omega
 rcases hcases with rfl | rfl | rfl | rfl | rfl | rfl
 ·have h0:=front 0 s0 _ rfl rfl
  obtain ⟨n',s3,p1,p2,p3,p4⟩:=P s0 rfl (by rw [h0]) rfl rfl
  have hs3:hdT T s3=(zx,z):=post 0 s3 (by rw [p3])
  exact fin n' s3 (Ex.casc (fun h=>by have:=qk h.1; rw [h0] at this; cases this) (Ca.one (Se.mk (p1 3) (Ra.stop (Or.inl (low _ _ hs3 (by omega))))) (no17 _ hs3))) hs3 p4 ⟨fun _=>p2,fun h=>absurd rfl h⟩ (by rw [h0]; decide)
 ·have h0:=front 0 s0 _ rfl rfl
  obtain ⟨n',s3,p1,p2,p3,p4⟩:=P s0 rfl (by rw [h0]) rfl rfl
  have hs3:hdT T s3=(⟨1,[102,111,111],0⟩,q+2):=post 0 s3 (by rw [p3])
  have tk:=take_is hs3 (bound_name _ (by decide) _ _ _)
  have hs4:hdT T (qj T s3)=(zx,z):=post 1 _ (by rw [tk]; show s3.pos+1=_; rw [p3])
  have hr:qy (hdT T s3)=1:=by rw [hs3]; exact rank_foo _
  exact fin _ _ (Ex.casc (fun h=>by have:=qk h.1; rw [h0] at this; cases this) (Ca.one (Se.mk (p1 3) (Ra.msg hr (by omega) (Ms.unary hr) (Ra.stop (Or.inl (low _ _ hs4 (by omega)))))) (no17 _ hs4))) hs4 (by rw [tk]; exact p4) ⟨fun h=>(by cases h),fun _=>⟨Nat.zero_lt_succ _,p2⟩⟩ (by rw [h0]; decide)
 ·have h0:=front 0 s0 _ rfl rfl
  obtain ⟨n',s3,p1,p2,p3,p4⟩:=P s0 rfl (by rw [h0]) rfl rfl
  have hs3:hdT T s3=(⟨3,[43],0⟩,q+2):=post 0 s3 (by rw [p3])
  have tk:=take_is hs3 (bound_op _ _ _ _);have hs4:hdT T (qj T s3)=(⟨1,[116],0⟩,q+4):=post 1 _ (by rw [tk]; show s3.pos+1=_; rw [p3])
  have tk2:=take_is hs4 (bound_name _ (by decide) _ _ _)
  have hs5:hdT T (qj T (qj T s3))=(zx,z):=post 2 _ (by rw [tk2,tk]; show s3.pos+1+1=_; rw [p3])
  have hr:qy (hdT T s3)=2:=by rw [hs3]; exact rank_plus _
  exact fin _ _ (Ex.casc (fun h=>by have:=qk h.1; rw [h0] at this; cases this) (Ca.one (Se.mk (p1 3) (Ra.from (rank':=2) (by omega) (by omega) hr (Ra.msg hr (by omega) (Ms.binary hr (Se.mk (Pm.named (by rw [hs4]) (named_t hs4)) (Ra.stop (Or.inl (low _ _ hs5 (by omega)))))) (Ra.stop (Or.inl (low _ _ hs5 (by omega))))))) (no17 _ hs5))) hs5 (by rw [tk2,tk]; exact p4) ⟨fun h=>(by cases h),fun _=>⟨Nat.zero_lt_succ _,p2⟩⟩ (by rw [h0]; decide)
 ·have h0:=front 0 s0 _ rfl rfl
  have tk0:=take_is h0 (bound_name _ (by decide) _ _ _)
  have hA:=front 1 (qj T s0) _ (by rw [tk0]; rfl) rfl
  have tkA:=take_is hA (bound_op _ _ _ _);have hB:=front 2 (qj T (qj T s0)) _ (by rw [tkA,tk0]; rfl) rfl
  obtain ⟨n',s3,p1,p2,p3,p4⟩:=P (qj T (qj T s0)) (by rw [tkA,tk0]; rfl) (by rw [hB]) (by rw [tkA,tk0]; rfl) (by rw [tkA,tk0]; rfl)
  have hs3:hdT T s3=(zx,z):=post 0 s3 (by rw [p3])
  have hr:qy (hdT T (qj T s0))=2:=by rw [hA]; exact rank_plus _
  exact fin _ _ (Ex.casc (fun h=>by have:=qk h.2; rw [hA] at this; cases this) (Ca.one (Se.mk (Pm.named (by rw [h0]) (named_t h0)) (Ra.from (rank':=2) (by omega) (by omega) hr (Ra.msg hr (by omega) (Ms.binary hr (Se.mk (p1 1) (Ra.stop (Or.inl (low _ _ hs3 (by omega)))))) (Ra.stop (Or.inl (low _ _ hs3 (by omega))))))) (no17 _ hs3))) hs3 p4 ⟨fun h=>(by cases h),fun _=>⟨Nat.succ_lt_succ (Nat.zero_lt_succ _),p2⟩⟩ (by rw [h0]; decide)
 ·have h0:=front 0 s0 _ rfl rfl
  have tk0:=take_is h0 (bound_name _ (by decide) _ _ _)
  have hA:=front 1 (qj T s0) _ (by rw [tk0]; rfl) rfl
  have tkA:=take_is hA (bound_key _ (by decide) _ _ _)
  have hB:=front 2 (qj T (qj T s0)) _ (by rw [tkA,tk0]; rfl) rfl
  obtain ⟨n',s3,p1,p2,p3,p4⟩:=P (qj T (qj T s0)) (by rw [tkA,tk0]; rfl) (by rw [hB]) (by rw [tkA,tk0]; rfl) (by rw [tkA,tk0]; rfl)
  have hs3:hdT T s3=(zx,z):=post 0 s3 (by rw [p3])
  have hr:qy (hdT T (qj T s0))=3:=by rw [hA]; exact rank_at _
  have hkw:=Ms.keys hr (Ls.cons0 (up_kw T) rfl (by show (decide (qy (hdT T (qj T s0))=3),_)=_; rw [hr]; rfl) (oneKw.mk (Se.mk (p1 2) (Ra.stop (Or.inl (low _ _ hs3 (by omega)))))) (Ls.nil (by show (decide (qy (hdT T s3)=3),_)=_; rw [hs3,rank_stop]; rfl)))
  have hwd:(zH 0 [] (([]++[(hdT T (qj T s0),n')]:List ((Tok × Nat) × Nd)).map (fun x=>x.1)) s3)=([97,116,58],s3):=by rw [hA]; rfl
  rw [hwd] at hkw;exact fin _ _ (Ex.casc (fun h=>by have:=qk h.2; rw [hA] at this; cases this) (Ca.one (Se.mk (Pm.named (by rw [h0]) (named_t h0)) (Ra.from (rank':=3) (by omega) (by omega) hr (Ra.msg hr (by omega) hkw (Ra.stop (Or.inl (low _ _ hs3 (by omega))))))) (no17 _ hs3))) hs3 p4 ⟨fun h=>(by cases h),fun _=>⟨Nat.succ_lt_succ (Nat.zero_lt_succ _),p2⟩⟩ (by rw [h0]; decide)
 ·have h0:=front 0 s0 _ rfl rfl
  have tk0:=take_is h0 (bound_name _ (by decide) _ _ _)
  have hA:=front 1 (qj T s0) _ (by rw [tk0]; rfl) rfl
  have tkA:=take_is hA (bound_as _ _ _ _);have hB:=front 2 (qj T (qj T s0)) _ (by rw [tkA,tk0]; rfl) rfl
  obtain ⟨n',s3,p1,p2,p3,p4⟩:=P (qj T (qj T s0)) (by rw [tkA,tk0]; rfl) (by rw [hB]) (by rw [tkA,tk0]; rfl) (by rw [tkA,tk0]; rfl)
  have hs3:hdT T s3=(zx,z):=post 0 s3 (by rw [p3])
  exact fin _ _ (Ex.assign (by unfold qi; rw [h0]; rfl) (by unfold qi; rw [hA]; rfl) (Ex.casc (fun h=>by have:=qk h.1; rw [hB] at this; cases this) (Ca.one (Se.mk (p1 3) (Ra.stop (Or.inl (low _ _ hs3 (by omega))))) (no17 _ hs3)))) hs3 p4 ⟨fun h=>(by cases h),fun _=>⟨Nat.zero_lt_succ _,p2⟩⟩ (by rw [h0]; decide)
end Go.Proofs.YtfhkhmgodkheaaaGreatDoor
namespace Go.Proofs.YtfhkhmgodkheaaaGreatDoor
open Go.RowKit Go.Maps
theorem threeH {P:Program} {md:Region.Mode} {ops:Array Oper} {Q:Exit→Act→World→Prop} {S:World→Prop} {i j k:Nat} {oi oj ok:Oper} {fuel:Nat} {listed:Array Bool} {a:Act} {w:World} (hr:Region.ready md ops listed=[i,j,k]) (hi:ops[i]?=some oi) (hj:ops[j]?=some oj) (hk:ops[k]?=some ok)
  (h1:∀ K':Act→World→Prop,Hid (∀ a w,S w→(S w→wpAnyH P md ops Q S fuel (listed.setIfInBounds i true) a w)→K' a w)→if Region.wanted oi (yielded ops a.tmps)=true then Oper.wp P oi a w K' Q else K' (a.put oi.dst undef) w)
  (h2:∀ K':Act→World→Prop,Hid (∀ a w,S w→(S w→wpAnyH P md ops Q S fuel (listed.setIfInBounds j true) a w)→K' a w)→if Region.wanted oj (yielded ops a.tmps)=true then Oper.wp P oj a w K' Q else K' (a.put oj.dst undef) w)
  (h3:∀ K':Act→World→Prop,Hid (∀ a w,S w→(S w→wpAnyH P md ops Q S fuel (listed.setIfInBounds k true) a w)→K' a w)→if Region.wanted ok (yielded ops a.tmps)=true then Oper.wp P ok a w K' Q else K' (a.put ok.dst undef) w):wpAnyH P md ops Q S (fuel+1) listed a w:=by
 refine ⟨fun h0=>(by rw [hr] at h0; cases h0),fun l hl=>?_⟩
 rw [hr] at hl
 have e:l=i∨l=j∨l=k:=by simpa using hl
 rcases e with e | e | e
 ·subst e
  exact wpOp_step hi (fun K' hK=>h1 K' (fun a w hS hW=>hK a w ⟨hS,hW hS⟩))
 ·subst e
  exact wpOp_step hj (fun K' hK=>h2 K' (fun a w hS hW=>hK a w ⟨hS,hW hS⟩))
 ·subst e
  exact wpOp_step hk (fun K' hK=>h3 K' (fun a w hS hW=>hK a w ⟨hS,hW hS⟩))
abbrev zA:Obj:=.cells #[.string ⟨#[]⟩,.int .i64 0,.int .i64 0,.slice none 0 0,.slice none 0 0,.slice none 0 0] 27 (0,0)
abbrev zB:Obj:=.cells #[.int .i64 0,.int .i64 0] 30 (0,0)
structure R18 (X V:World) (A B:Option Nat) (U:Option (Array Value)) (r:Option Src):Prop where
 bl:Bl X V
 a:∀ x,A=some x→X.heap.size≤x∧V.heap[x]?=some zA
 b:∀ x,B=some x→X.heap.size≤x∧V.heap[x]?=some zB
 u:∀ u,U=some u→u.all (·.oneCell')=true∧∀ t,r=some t→∃ ft,SrM V t (.agg u) ft∧(∀ x,A=some x→x ∉ ft)∧(∀ x,B=some x→x ∉ ft)
theorem R18.mk0 {X V:World} (b:Bl X V) (r:Option Src):R18 X V none none none r:=⟨b,fun x h=>(by cases h),fun x h=>(by cases h),fun u h=>(by cases h)⟩
theorem R18.allocA {X V:World} {B:Option Nat} {U:Option (Array Value)} {r:Option Src} (h:R18 X V none B U r):R18 X (V.alloc (.cells #[.string ⟨#[]⟩,.int .i64 0,.int .i64 0,.slice none 0 0,.slice none 0 0,.slice none 0 0] 27)) (some V.heap.size) B U r:=by
 have b:=Bl.alloc V (.cells #[.string ⟨#[]⟩,.int .i64 0,.int .i64 0,.slice none 0 0,.slice none 0 0,.slice none 0 0] 27)
 refine ⟨h.bl.trans b,fun x e=>?_,fun x e=>?_,fun u e=>?_⟩
 ·injection e with e; subst e; exact ⟨h.bl.size,heap_alloc_new _ _⟩
 ·obtain ⟨h1,h2⟩:=h.b x e
  exact ⟨h1,(b.block _ (qf h2)).trans h2⟩
 ·obtain ⟨h1,h2⟩:=h.u u e
  refine ⟨h1,fun t ht=>?_⟩
  obtain ⟨ft,hs,_,h4⟩:=h2 t ht;exact ⟨ft,hs.fr (Fr.ofBl b []) (by simp),fun x e hx=>by injection e with e; subst e; exact absurd (hs.lt _ hx) (by omega),h4⟩
theorem R18.allocB {X V:World} {A:Option Nat} {U:Option (Array Value)} {r:Option Src} (h:R18 X V A none U r):R18 X (V.alloc (.cells #[.int .i64 0,.int .i64 0] 30)) A (some V.heap.size) U r:=by
 have b:=Bl.alloc V (.cells #[.int .i64 0,.int .i64 0] 30)
 refine ⟨h.bl.trans b,fun x e=>?_,fun x e=>?_,fun u e=>?_⟩
 ·obtain ⟨h1,h2⟩:=h.a x e
  exact ⟨h1,(b.block _ (qf h2)).trans h2⟩
 ·injection e with e; subst e; exact ⟨h.bl.size,heap_alloc_new _ _⟩
 ·obtain ⟨h1,h2⟩:=h.u u e
  refine ⟨h1,fun t ht=>?_⟩
  obtain ⟨ft,hs,h4,_⟩:=h2 t ht;exact ⟨ft,hs.fr (Fr.ofBl b []) (by simp),h4,fun x e hx=>by injection e with e; subst e; exact absurd (hs.lt _ hx) (by omega)⟩
theorem R18.call {X V w:World} {A B:Option Nat} {r:Option Src} {u:Array Value} (h:R18 X V A B none r) (b:Bl V w) (hall:u.all (·.oneCell')=true) (hT:∀ t,r=some t→∃ ft,SrM w t (.agg u) ft∧Apt V.heap.size ft):R18 X w A B (some u) r:=by
 refine ⟨h.bl.trans b,fun x e=>?_,fun x e=>?_,fun u' e=>?_⟩
 ·obtain ⟨h1,h2⟩:=h.a x e
  exact ⟨h1,(b.block _ (qf h2)).trans h2⟩
 ·obtain ⟨h1,h2⟩:=h.b x e
  exact ⟨h1,(b.block _ (qf h2)).trans h2⟩
 ·injection e with e
  subst e;refine ⟨hall,fun t ht=>?_⟩
  obtain ⟨ft,hs,ha⟩:=hT t ht;refine ⟨ft,hs,fun x e hx=>?_,fun x e hx=>?_⟩
  ·have:=qf (h.a x e).2
   have:=ha.lo x hx;omega
  ·have:=qf (h.b x e).2
   have:=ha.lo x hx;omega
theorem R18.fin {X V:World} {x y:Nat} {r:Option Src} {u v:Array Value} (h:R18 X V (some x) (some y) (some u) r) :
  x≠y∧((V.setRow x u).setRow y v).heap[x]?=some (.cells u 27 (0,0))∧((V.setRow x u).setRow y v).heap[y]?=some (.cells v 30 (0,0))∧(V.setRow x u).heap[y]?=some zB∧Bl X ((V.setRow x u).setRow y v)∧∀ t,r=some t→∃ ft,SrM ((V.setRow x u).setRow y v) t (.agg u) ft:=by
 obtain ⟨a1,a2⟩:=h.a x rfl
 obtain ⟨b1,b2⟩:=h.b y rfl
 have hne:x≠y:=by
  intro e;subst e;rw [a2] at b2;injection b2 with b2
  injection b2 with b2 b3
  cases b3
 have f1:Fr [x] V (V.setRow x u):=qG _ _ _
 have k1:(V.setRow x u).heap[x]?=some (.cells u 27 (0,0)):=setRow_heap _ _ _ _ 27 (0,0) a2
 have k2:(V.setRow x u).heap[y]?=some zB:=(f1.block _ (qf b2) (by simp; exact fun e=>hne e.symm)).trans b2
 have f2:Fr [y] (V.setRow x u) ((V.setRow x u).setRow y v):=qG _ _ _
 refine ⟨hne,(f2.block _ (qf k1) (by simpa using hne)).trans k1,setRow_heap _ _ _ _ 30 (0,0) k2,k2,?_,fun t ht=>?_⟩
 ·have hf:=(((Fr.ofBl h.bl []).trans f1 (fun b hb=>Or.inr (by have:=List.mem_singleton.1 hb; omega))).trans f2 (fun b hb=>Or.inr (by have:=List.mem_singleton.1 hb; omega)))
  exact hf.bl (by simp)
 ·obtain ⟨ft,hs,h3,h4⟩:=(h.u u rfl).2 t ht
  exact ⟨ft,(hs.fr f1 (fun b hb hm=>h3 x rfl (List.mem_singleton.1 hm▸hb))).fr f2 (fun b hb hm=>h4 y rfl (List.mem_singleton.1 hm▸hb))⟩
theorem doit_v (src:ByteArray) (r:Option Src) (c a:Nat) (w:World) (hE:Env w) (hs:src.size≤140737488355328) (h:Reads false (lst src) r c a):Calls Tryz.prog 10 #[.string src] w (PostV w r c a):=reads_top false src r c a w hE hs h
theorem reads_total (m:Bool) (l:Bs):∃ r c a,Reads m l r c a:=by
 obtain ⟨ts,c,a,h,_⟩:=LexR.total l
 exact Reads.all m h
theorem reads_c0 {m:Bool} {l:Bs} {r:Option Src} {a:Nat} (h:Reads m l r 0 a):∃ t,r=some t∧a=0:=Reads.code0 h
theorem sz_app (a b:ByteArray):(a++b).size=a.size+b.size:=ByteArray.size_append
theorem rem_place (z:Int) (n:Nat) (hn:n≤4097) (h0:0 < n):∃ r:Int,IntKind.i64.wrap (z.tmod (n:Int))=r∧z.tmod (n:Int)=r∧∃ k:Nat,k < n∧((r < 0∧IntKind.i64.wrap (r+(n:Int))=k)∨(¬ r < 0∧r=k)):=by
 have h1:=Int.tmod_lt_of_pos z (show (0:Int) < (n:Int) by omega)
 have h2:-(n:Int) < z.tmod (n:Int):=by
  have:=Int.tmod_lt_of_pos (-z) (show (0:Int) < (n:Int) by omega)
  rw [Int.neg_tmod] at this;omega
 refine ⟨z.tmod (n:Int),zP _ (by omega) (by omega),rfl,?_⟩
 by_cases hr:z.tmod (n:Int) < 0
 ·exact ⟨(z.tmod (n:Int)+(n:Int)).toNat,by omega,Or.inl ⟨hr,by rw [zP _ (by omega) (by omega)]; omega⟩⟩
 ·exact ⟨(z.tmod (n:Int)).toNat,by omega,Or.inr ⟨hr,by omega⟩⟩
end Go.Proofs.YtfhkhmgodkheaaaGreatDoor
