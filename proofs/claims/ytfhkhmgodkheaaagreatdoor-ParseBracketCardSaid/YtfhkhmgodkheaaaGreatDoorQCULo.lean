import Derived.Test.YtfhkhmgodkheaaaGreatDoorQCG27TNm
import Derived.Test.YtfhkhmgodkheaaaGreatDoorQCG36TBr
set_option linter.unusedSimpArgs false
set_option linter.unusedVariables false
namespace Go.Proofs.YtfhkhmgodkheaaaGreatDoor
theorem trL_map:∀ l:List Nd,trL l=l.map trN:=by
 intro l
 induction l with
 | nil=>rfl
 | cons n r ih=>rw [trL,ih]; rfl
theorem jd (k:Nat) (t:Bs) (n:Int) (p:Nat) (ns:List Bs) (ps:List Nat) (ks:List Nd):trN (.mk k t n p ns ps ks)=.mk k t n ns (ks.map trN):=by rw [trN,trL_map]
def Lk (a b:Nd):Prop:=trN a=trN b
def LkL (a b:List Nd):Prop:=a.map trN=b.map trN
theorem Lk.kids {a b:Nd} (h:Lk a b):LkL a.kids b.kids∧a.text=b.text∧a.num=b.num∧a.names=b.names∧a.kind=b.kind:=by
 cases a; cases b
 unfold Lk at h
 rw [jd,jd] at h
 injection h with h1 h2 h3 h4 h5
 exact ⟨h5,h2,h3,h4,by exact_mod_cast h1⟩
theorem LkL.last {l m:List Nd} (h:LkL l m):retd l=retd m:=by
 unfold retd
 have e:=congrArg List.getLast? h
 rw [List.getLast?_map,List.getLast?_map] at e
 cases h1:l.getLast? with
 | none=>rw [h1] at e; cases h2:m.getLast? with
  | none=>rfl
  | some b=>rw [h2] at e; cases e
 | some a=>rw [h1] at e; cases h2:m.getLast? with
  | none=>rw [h2] at e; cases e
  | some b =>
   rw [h2] at e;injection e with e
   dsimp only;rw [(Lk.kids e).2.2.2.2]
def term (k:Nat):Prop:=k=9∨k=11∨k=16∨k=18
structure Lo (ts ts':Ts) (lo d e:Nat):Prop where
 tok:∀ i,lo≤i→i < e→(ts'.getD (i+d) zj).1=(ts.getD i zj).1
 adj:∀ i,lo≤i→i+1 < e→((ts'.getD (i+1+d) zj).2=(ts'.getD (i+d) zj).2+1 ↔ (ts.getD (i+1) zj).2=(ts.getD i zj).2+1)
 e1:term (ts.getD e zj).1.kind
 e2:term (ts'.getD (e+d) zj).1.kind
structure SR (lo d:Nat) (o:Bool) (s s':Ps):Prop where
 lo:lo≤s.pos
 pos:s'.pos=s.pos+d
 opn:s'.opn=s.opn+(if o=true then 1 else 0)
 code:s.code=0→s'.code=0∨(o=true∧s'.code=72)
theorem term.ne {k n:Nat} (h:term k) (hn:¬ term n):k≠n:=fun e=>hn (e▸h)
theorem passP_code {c p:Nat} (hc:c≠0) {s:Ps}:(qR c p s).code=0 ↔ False:=by
 unfold qR
 split
 ·exact ⟨fun h=>hc h,False.elim⟩
 ·rename_i h
  exact ⟨fun h0=>h (Or.inl h0),False.elim⟩
theorem passP_rest {c p:Nat} {s:Ps}:(qR c p s).pos=s.pos∧(qR c p s).opn=s.opn:=by
 unfold qR
 split <;> exact ⟨rfl,rfl⟩
namespace SR
variable {lo d:Nat} {o:Bool} {s s':Ps}
theorem pass (h:SR lo d o s s') {c p q:Nat} (hc:c≠0):SR lo d o (qR c p s) (qR c q s') :=
 ⟨by rw [passP_rest.1]; exact h.lo,by rw [passP_rest.1,passP_rest.1]; exact h.pos,by rw [passP_rest.2,passP_rest.2]; exact h.opn,fun h0=>(((passP_code hc).1 h0)).elim⟩
theorem most (h:SR lo d o s s') {x x':Tok × Nat} (hx:x'.1=x.1) (n:Nat):SR lo d o (jM x n s) (jM x' n s'):=by
 unfold jM
 rw [hx]
 split
 ·exact h.pass (by decide)
 ·exact h
theorem bound (h:SR lo d o s s') {x x':Tok × Nat} (hx:x'.1=x.1):SR lo d o (qW x s) (qW x' s'):=by
 unfold qW
 rw [hx]
 split
 ·exact h.most hx _
 split
 ·exact h.most hx _
 split
 ·exact h.most hx _
 split
 ·have hop:=h.opn
  by_cases h24:24≤s.opn
  ·have h24':24≤s'.opn:=by rw [hop]; split <;> omega
   rw [if_pos h24,if_pos h24'];have:=h.pass (c:=72) (p:=x.2) (q:=x'.2) (by decide)
   exact ⟨this.lo,this.pos,by show s'.opn+1=s.opn+1+_; rw [hop]; omega,this.code⟩
  ·rw [if_neg h24]
   by_cases h24':24≤s'.opn
   ·rw [if_pos h24']
    have ho:o=true:=by
     cases o with
     | true=>rfl
     | false=>rw [hop,if_neg (by decide)] at h24'; omega
    refine ⟨h.lo,by show (qR 72 x'.2 s').pos=s.pos+d; rw [passP_rest.1]; exact h.pos,by show s'.opn+1=s.opn+1+_; rw [hop]; omega,fun h0=>Or.inr ⟨ho,?_⟩⟩
    show (qR 72 x'.2 s').code=72
    unfold qR
    split
    ·rfl
    ·rename_i hn
     rcases h.code h0 with h1 | ⟨_,h1⟩
     ·exact (hn (Or.inl h1)).elim
     ·exact h1
   ·rw [if_neg h24']
    exact ⟨h.lo,h.pos,by show s'.opn+1=s.opn+1+_; rw [hop]; omega,h.code⟩
 split
 ·have hop:=h.opn
  exact ⟨h.lo,h.pos,by show s'.opn - 1=s.opn - 1+_; rw [hop]; omega,h.code⟩
 ·exact h
end SR
namespace Lo
variable {ts ts':Ts} {lo d e:Nat} {o:Bool} {s s':Ps}
theorem hdp (h:SR lo d o s s'):hdT ts' s'=ts'.getD (s.pos+d) zj:=by unfold hdT; rw [h.pos]
theorem tk (H:Lo ts ts' lo d e) (h:SR lo d o s s') (hs:s.pos < e):(hdT ts' s').1=(hdT ts s).1:=by
 rw [hdp h]; exact H.tok _ h.lo hs
theorem tk1 (H:Lo ts ts' lo d e) (h:SR lo d o s s') (hs:s.pos+1 < e):(ts'.getD (s'.pos+1) zj).1=(ts.getD (s.pos+1) zj).1:=by
 rw [h.pos,show s.pos+d+1=s.pos+1+d by omega]
 exact H.tok _ (by have:=h.lo; omega) hs
theorem take (H:Lo ts ts' lo d e) (h:SR lo d o s s') (hs:s.pos < e):SR lo d o (qj ts s) (qj ts' s'):=by
 have hb:=h.bound (H.tk h hs)
 exact ⟨by show lo≤s.pos+1; have:=h.lo; omega,by show s'.pos+1=s.pos+1+d; rw [h.pos]; omega,hb.opn,hb.code⟩
theorem stands (H:Lo ts ts' lo d e) (h:SR lo d o s s') (hs:s.pos≤e) {k:Nat} (hk:¬ term k):qi ts' k s'=qi ts k s:=by
 unfold qi
 by_cases he:s.pos < e
 ·rw [H.tk h he]
 ·have:s.pos=e:=by omega
  have a1:(hdT ts s).1.kind≠k:=by unfold hdT; rw [this]; exact H.e1.ne hk
  have a2:(hdT ts' s').1.kind≠k:=by rw [hdp h,this]; exact H.e2.ne hk
  rw [decide_eq_false a1,decide_eq_false a2]
theorem stands_lt (H:Lo ts ts' lo d e) (h:SR lo d o s s') (hs:s.pos < e) (k:Nat):qi ts' k s'=qi ts k s:=by
 unfold qi
 rw [H.tk h hs]
theorem rank0 {x:Tok × Nat} (h:term x.1.kind):qy x=0:=by
 unfold qy
 rcases h with h | h | h | h <;> rw [h] <;> rfl
theorem rank (H:Lo ts ts' lo d e) (h:SR lo d o s s') (hs:s.pos≤e):qy (hdT ts' s')=qy (hdT ts s):=by
 by_cases he:s.pos < e
 ·unfold qy; rw [H.tk h he]
 ·have:s.pos=e:=by omega
  rw [rank0 (x:=hdT ts s) (by unfold hdT; rw [this]; exact H.e1),rank0 (x:=hdT ts' s') (by rw [hdp h,this]; exact H.e2)]
end Lo
def LR {α γ:Type} (g:α→γ) (lo d e:Nat) (o:Bool) (r r':Option (Rs α)):Prop:=∀ a s1,r=some (.ok a s1)→s1.pos≤e→∃ a' s1',r'=some (.ok a' s1')∧g a'=g a∧SR lo d o s1 s1'
namespace LR
variable {ts ts':Ts} {lo d e:Nat} {o:Bool}
theorem bind {α β γ δ:Type} {g:α→γ} {g2:β→δ} {r r':Option (Rs α)} {k k':α→Ps→Option (Rs β)} (hr:LR g lo d e o r r') (hq:∀ a s1,r=some (.ok a s1)→Pq ts s1 (k a s1)) (hk:∀ a s1 a' s1',r=some (.ok a s1)→g a'=g a→SR lo d o s1 s1'→LR g2 lo d e o (k a s1) (k' a' s1')):LR g2 lo d e o (qF r k) (qF r' k'):=by
 intro b s2 eb hs2
 obtain ⟨a,s1,e1,e2⟩:=qQ eb
 have hp:=(hq a s1 e1 b s2 e2).1
 obtain ⟨a',s1',e1',hE,hS⟩:=hr a s1 e1 (by omega)
 obtain ⟨b',s2',e2',hE2,hS2⟩:=hk a s1 a' s1' e1 hE hS b s2 e2 hs2
 exact ⟨b',s2',by rw [e1']; exact e2',hE2,hS2⟩
theorem ok {α γ:Type} {g:α→γ} {a a':α} {s s':Ps} (h:g a'=g a) (hS:s.pos≤e→SR lo d o s s'):LR g lo d e o (some (.ok a s)) (some (.ok a' s')):=by
 intro b s1 eb hs1
 injection eb with eb; injection eb with e1 e2; subst e1; subst e2
 exact ⟨a',s',rfl,h,hS hs1⟩
theorem bad {α γ:Type} {g:α→γ} {x:Tok × Nat} {r':Option (Rs α)}:LR g lo d e o (some (.bad x)) r':=by
 intro b s1 eb _
 injection eb with eb; cases eb
theorem no {α γ:Type} {g:α→γ} {r':Option (Rs α)}:LR g lo d e o none r':=by
 intro b s1 eb _; cases eb
theorem mono {α γ:Type} {g:α→γ} {b:Nat} {r r':Option (Rs α)} (h:LR g lo d e o r r') (hb:b≤e):LR g lo d b o r r':=fun a s1 e1 h1=>h a s1 e1 (by omega)
theorem need {β δ:Type} {g:β→δ} (H:Lo ts ts' lo d e) {s s':Ps} (hS:SR lo d o s s') {k:Nat} {p p':Ps→Option (Rs β)} (hq:qi ts k s=true→Pq ts (qj ts s) (p (qj ts s))) (hp:qi ts k s=true→s.pos < e→SR lo d o (qj ts s) (qj ts' s')→LR g lo d e o (p (qj ts s)) (p' (qj ts' s'))) :
  LR g lo d e o (match qS ts k s with | .bad x=>some (.bad x) | .ok _ s2=>p s2:Option (Rs β)) (match qS ts' k s' with | .bad x=>some (.bad x) | .ok _ s2=>p' s2:Option (Rs β)):=by
 intro b s2 eb hs2
 unfold qS at eb
 by_cases hst:qi ts k s=true
 ·rw [if_pos hst] at eb
  have hpos:=(hq hst b s2 eb).1;rw [zC] at hpos;have hlt:s.pos < e:=by omega
  obtain ⟨b',s2',e',hE,hS2⟩:=hp hst hlt (H.take hS hlt) b s2 eb hs2;refine ⟨b',s2',?_,hE,hS2⟩;unfold qS;rw [H.stands_lt hS hlt,if_pos hst];exact e'
 ·rw [if_neg hst] at eb
  injection eb with eb; cases eb
end LR
theorem listA_lo {α γ:Type} {g:α→γ} {ts ts':Ts} {lo d e b:Nat} {o:Bool} (H:Lo ts ts' lo d e) {btw:Nat} {there there':Ps→Bool × Ps} {one one':List α→Ps→Option (Rs α)} (hb:btw≠18) (hbe:b≤e) (hbtw:btw≠0→b < e∨¬ term btw) (ht:∀ s,Okq ts s→s.pos≤(there s).2.pos∧Okq ts (there s).2)
  (ho:∀ acc s,Okq ts s→(there s).1=true→Pg ts s (one acc (there s).2))
  (hm:∀ acc s a s2,Okq ts s→(there s).1=true→one acc (there s).2=some (.ok a s2)→(there s).2.pos≤s2.pos)
  (ht2:∀ s s',Okq ts s→SR lo d o s s'→s.pos≤b→(there' s').1=(there s).1∧((there s).2.pos≤b→SR lo d o (there s).2 (there' s').2))
  (ho2:∀ acc acc' s s',acc'.map g=acc.map g→Okq ts s→(there s).1=true→s.pos≤b→SR lo d o s s'→SR lo d o (there s).2 (there' s').2→LR g lo d b o (one acc (there s).2) (one' acc' (there' s').2)):∀ (n n':Nat) (acc acc':List α) (s s':Ps),n≤n'→acc'.map g=acc.map g→Okq ts s→SR lo d o s s'→LR (List.map g) lo d b o (qY ts btw there one n acc s) (qY ts' btw there' one' n' acc' s'):=by
 intro n
 induction n with
 | zero=>intro n' acc acc' s s' _ _ _ _; exact LR.no
 | succ n ih =>
  intro n' acc acc' s s' hn hacc hs hS;obtain ⟨n',rfl⟩:∃ m,n'=m+1:=⟨n' - 1,by omega⟩
  intro l s1 el hl;have hq:=(zh (ts:=ts) (btw:=btw) hb ht ho (n+1) acc s hs).1 l s1 el;have hsb:s.pos≤b:=by omega
  obtain ⟨t1,t2⟩:=ht2 s s' hs hS hsb;have hts:=ht s hs;unfold qY at el ⊢;rw [show there s=((there s).1,(there s).2) from rfl] at el
  rw [show there' s'=((there' s').1,(there' s').2) from rfl,t1]
  cases hth:(there s).1 with
  | false =>
   rw [hth] at el;injection el with el; injection el with e1 e2; subst e1; subst e2
   exact ⟨acc',_,rfl,hacc,t2 hl⟩
  | true =>
   rw [hth] at el;dsimp only at el ⊢
   cases e1:one acc (there s).2 with
   | none=>rw [e1] at el; cases el
   | some x =>
    rw [e1] at el
    cases x with
    | bad x=>injection el with el; cases el
    | ok a s2 =>
     dsimp only at el;obtain ⟨p1,p2⟩:=ho acc s hs hth a s2 e1;have hpos:s2.pos≤s1.pos:=by
      by_cases hz:btw=0
      ·rw [if_pos hz] at el
       exact ((zh (ts:=ts) (btw:=btw) hb ht ho n _ s2 p2).1 l s1 el).1
      ·rw [if_neg hz] at el
       have hp3:=zD ts btw s2;have hk3:=p2.skip (k:=btw) hb
       cases e3:qN ts btw s2 with
       | mk bb s3 =>
        rw [e3] at el hp3 hk3
        cases bb with
        | false=>injection el with el; injection el with _ el; subst el; exact hp3
        | true=>exact Nat.le_trans hp3 ((zh (ts:=ts) (btw:=btw) hb ht ho n _ s3 hk3).1 l s1 el).1
     have hth2:=hm acc s a s2 hs hth e1;obtain ⟨a',s2',e1',hE,hS2⟩:=ho2 acc acc' s s' hacc hs hth hsb hS (t2 (by omega)) a s2 e1 (by omega)
     rw [e1'];dsimp only;have hacc2:(acc'++[a']).map g=(acc++[a]).map g:=by rw [List.map_append,List.map_append,hacc,List.map_cons,List.map_cons,hE]
     by_cases hz:btw=0
     ·rw [if_pos hz] at el ⊢
      exact ih n' _ _ s2 s2' (by omega) hacc2 p2 hS2 l s1 el hl
     ·rw [if_neg hz] at el ⊢
      have hk3:=p2.skip (k:=btw) hb;have hp3:=zD ts btw s2;have hend:(qN ts btw s2).2.pos≤s1.pos:=by
       cases e3:qN ts btw s2 with
       | mk bb s3 =>
        rw [e3] at el hk3
        cases bb with
        | false=>injection el with el; injection el with _ el; subst el; exact Nat.le_refl _
        | true=>exact (zh (ts:=ts) (btw:=btw) hb ht ho n _ s3 hk3).1 l s1 el |>.1
      have e4:(qN ts' btw s2').1=(qN ts btw s2).1∧SR lo d o (qN ts btw s2).2 (qN ts' btw s2').2:=by
       have hst:qi ts' btw s2'=qi ts btw s2:=by
        rcases hbtw hz with hlt | hnt
        ·exact H.stands_lt hS2 (by omega) _
        ·exact H.stands hS2 (by omega) hnt
       unfold qN at hend ⊢;rw [hst]
       by_cases h5:qi ts btw s2=true
       ·rw [if_pos h5] at hend
        rw [zC] at hend;rw [if_pos h5,if_pos h5];exact ⟨rfl,H.take hS2 (by omega)⟩
       ·rw [if_neg h5,if_neg h5]
        exact ⟨rfl,hS2⟩
      rw [show qN ts' btw s2'=((qN ts' btw s2').1,(qN ts' btw s2').2) from rfl,e4.1]
      cases e3:qN ts btw s2 with
      | mk bb s3 =>
       rw [e3] at el hk3 e4
       cases bb with
       | false=>injection el with el; injection el with e5 e6; subst e5; subst e6; exact ⟨_,_,rfl,hacc2,e4.2⟩
       | true=>exact ih n' _ _ s3 _ (by omega) hacc2 hk3 e4.2 l s1 el hl
theorem words_lo {lo d:Nat} {o:Bool}:∀ (us us':Ts) (i:Nat) (l:Bs) (s s':Ps),us'.map Prod.fst=us.map Prod.fst→SR lo d o s s'→(zH i l us' s').1=(zH i l us s).1∧SR lo d o (zH i l us s).2 (zH i l us' s').2:=by
 intro us
 induction us with
 | nil =>
  intro us' i l s s' hu hS;have:us'=[]:=by simpa using hu
  subst this;exact ⟨rfl,hS⟩
 | cons x r ih =>
  intro us' i l s s' hu hS
  cases us' with
  | nil=>cases hu
  | cons x' r' =>
   rw [List.map_cons,List.map_cons] at hu;injection hu with h1 h2
   unfold zH;rw [h1];refine ih r' _ _ _ _ h2 ?_
   split
   ·exact hS.pass (by decide)
   ·exact hS
theorem keywords_lo {α γ:Type} {g:α→γ} {ts ts':Ts} {lo d e:Nat} {o:Bool} (H:Lo ts ts' lo d e) {one one':Ps→Option (Rs α)} (ho:∀ s,Okq ts s→Pq ts s (one s)) (n n':Nat) (hn:n≤n') (ho2:∀ s s',Okq ts s→SR lo d o s s'→LR g lo d e o (one s) (one' s')) (s s':Ps) (hs:Okq ts s) (hS:SR lo d o s s') :
  LR (fun x=>(x.1,x.2.map g)) lo d e o (zv ts one n s) (zv ts' one' n' s'):=by
 unfold zv
 have h1:∀ (acc:List ((Tok × Nat) × α)) (s:Ps),Okq ts s→((fun s=>(decide (qy (hdT ts s)=3),s)) s:Bool × Ps).1=true→Pg ts s ((fun (_:List ((Tok × Nat) × α)) s=>qF (one (qj ts s)) (fun a s2=>some (.ok (hdT ts s,a) s2))) acc s):=fun acc s hs hth=>by
  have hk:qy (hdT ts s)=3:=by simpa using hth
  have ht:=hs.take (zu (by rw [hk]; decide))
  exact Pg.tk (Pq.bind (ho _ ht) (fun a s1 _ h1=>Pq.ok h1))
 have hl:=listA_lo (g:=fun (a:(Tok × Nat) × α)=>(a.1.1,g a.2)) H (o:=o) (b:=e) (btw:=0) (there:=fun s=>(decide (qy (hdT ts s)=3),s)) (there':=fun s=>(decide (qy (hdT ts' s)=3),s))
  (one:=fun (_:List ((Tok × Nat) × α)) s=>qF (one (qj ts s)) (fun a s2=>some (.ok (hdT ts s,a) s2))) (one':=fun (_:List ((Tok × Nat) × α)) s=>qF (one' (qj ts' s)) (fun a s2=>some (.ok (hdT ts' s,a) s2))) (by decide) (Nat.le_refl _) (fun h=>absurd rfl h) (fun s hs=>⟨Nat.le_refl _,hs⟩) h1
  (fun acc s a s2 hs hth e=>Nat.le_of_lt (h1 acc s hs hth a s2 e).1) (fun s s' hs hS hp=>⟨by dsimp only; rw [H.rank hS hp],fun _=>hS⟩) (fun acc acc' s s' hacc hs hth hsb hS _=>by
   have hk:qy (hdT ts s)=3:=by simpa using hth
   have ht:=hs.take (zu (by rw [hk]; decide))
   have hne:s.pos≠e:=fun he=>by
    have:=Lo.rank0 (x:=hdT ts s) (by unfold hdT; rw [he]; exact H.e1)
    omega
   have hlt:s.pos < e:=by omega
   refine LR.bind (ho2 _ _ ht (H.take hS hlt)) (fun a s1 e1=>Pq.ok (ho _ ht a s1 e1).2) (fun a s1 a' s1' _ hE hS1=>LR.ok ?_ (fun _=>hS1))
   dsimp only;rw [hE,H.tk hS hlt]) n n' [] [] s s' hn rfl hs hS
 have hpq:=(zh (there:=fun s=>(decide (qy (hdT ts s)=3),s)) (one:=fun (_:List ((Tok × Nat) × α)) s=>qF (one (qj ts s)) (fun a s2=>some (.ok (hdT ts s,a) s2))) (btw:=0) (by decide) (fun s hs=>⟨Nat.le_refl _,hs⟩) h1 n [] s hs).1
 have h3:=fun l s1=>jx (there:=fun s=>(decide (qy (hdT ts s)=3),s)) (one:=fun (_:List ((Tok × Nat) × α)) s=>qF (one (qj ts s)) (fun a s2=>some (.ok (hdT ts s,a) s2))) (Q:=fun a=>a.1.2≤4096) (btw:=0) (by decide) (fun s hs=>⟨Nat.le_refl _,hs⟩) h1 (fun acc s a s' hs hth e=>by
  obtain ⟨b,s1,e1,e2⟩:=qQ e;injection e2 with e2; injection e2 with e2 e3; subst e2
  exact hs.txt.2) n [] s l s1 hs (by simp)
 refine LR.bind (ts:=ts) hl (fun l s1 e1=>?_) (fun l s1 l' s1' e1 hE hS1=>?_)
 ·have hs1:=(hpq l s1 e1).2
  obtain ⟨q1,q2⟩:=words_pos ts (l.map (·.1)) 0 [] s1 (fun x hx=>by obtain ⟨a,ha,rfl⟩:=List.mem_map.1 hx; exact h3 l s1 e1 a ha) hs1
  intro b s2 e;injection e with e; injection e with e2 e3; subst e3
  exact ⟨by rw [q1]; exact Nat.le_refl _,q2⟩
 ·have e1:(l'.map (·.1)).map Prod.fst=(l.map (·.1)).map Prod.fst:=by
   have:=congrArg (List.map Prod.fst) hE;rw [List.map_map,List.map_map] at this;rw [List.map_map,List.map_map];exact this
  have e2:(l'.map (·.2)).map g=(l.map (·.2)).map g:=by
   have:=congrArg (List.map Prod.snd) hE;rw [List.map_map,List.map_map] at this;rw [List.map_map,List.map_map];exact this
  obtain ⟨w1,w2⟩:=words_lo (lo:=lo) (d:=d) (o:=o) (l.map (·.1)) (l'.map (·.1)) 0 [] s1 s1' e1 hS1
  exact LR.ok (by dsimp only; rw [w1,e2]) (fun _=>w2)
theorem worded_lo {α γ:Type} {g:α→γ} {ts ts':Ts} {lo d e:Nat} {o:Bool} (H:Lo ts ts' lo d e) {one one':Nat→Ps→Option (Rs α)} (ho:∀ k s,k≤3→Okq ts s→Pq ts s (one k s)) (n n':Nat) (hn:n≤n') (ho2:∀ k s s',k≤3→Okq ts s→SR lo d o s s'→LR g lo d e o (one k s) (one' k s')) (s s':Ps) (hs:Okq ts s) (hS:SR lo d o s s') (hp:s.pos < e) :
  LR (fun x=>(x.1,x.2.map g)) lo d e o (zt ts one n s) (zt ts' one' n' s'):=by
 unfold zt
 rw [H.rank hS (Nat.le_of_lt hp),H.tk hS hp]
 by_cases r1:qy (hdT ts s)=1
 ·rw [if_pos r1,if_pos r1]
  exact LR.ok rfl (fun _=>H.take hS hp)
 rw [if_neg r1,if_neg r1]
 by_cases r2:qy (hdT ts s)=2
 ·rw [if_pos r2,if_pos r2]
  have ht:=hs.take (zu (by rw [r2]; decide))
  exact LR.bind (ho2 2 _ _ (by decide) ht (H.take hS hp)) (fun a s1 e1=>Pq.ok (ho 2 _ (by decide) ht a s1 e1).2) (fun a s1 a' s1' _ hE hS1=>LR.ok (by dsimp only; rw [List.map_cons,List.map_cons,hE]) (fun _=>hS1))
 rw [if_neg r2,if_neg r2]
 by_cases r3:qy (hdT ts s)=3
 ·rw [if_pos r3,if_pos r3]
  exact keywords_lo H (ho 3 · (by decide)) n n' hn (fun s s'=>ho2 3 s s' (by decide)) s s' hs hS
 ·rw [if_neg r3,if_neg r3]
  exact LR.bad
theorem integer_lo {ts ts':Ts} {lo d e:Nat} {o:Bool} (H:Lo ts ts' lo d e) {s s':Ps} (hs:Okq ts s) (hS:SR lo d o s s') (hp:s.pos < e):LR trN lo d e o (some (jc ts s)) (some (jc ts' s')):=by
 have hT:=H.take hS hp
 have h4:qi ts' 4 (qj ts' s')=qi ts 4 (qj ts s):=H.stands hT (by rw [zC]; omega) (by rintro (h | h | h | h) <;> cases h)
 unfold jc
 dsimp only
 rw [H.tk hS hp,h4]
 by_cases c1:(hdT ts s).1.kind=4∧(hdT ts s).1.num≤1073741823
 ·rw [if_pos c1,if_pos c1]
  exact LR.ok rfl (fun _=>hT)
 rw [if_neg c1,if_neg c1]
 by_cases c2:(hdT ts s).1.text=[45]∧qi ts 4 (qj ts s)=true∧(hdT ts (qj ts s)).2=(hdT ts s).2+1
 ·rw [if_pos c2]
  intro n s1 e1 hs1;injection e1 with e1; injection e1 with e1 e2; subst e1; subst e2
  rw [zC,zC] at hs1;have hlt:(qj ts s).pos < e:=by rw [zC]; omega
  have ha:(hdT ts' (qj ts' s')).2=(hdT ts' s').2+1:=by
   rw [Lo.hdp hT,Lo.hdp hS,zC,show s.pos+1+d=s.pos+1+d from rfl]
   exact (H.adj s.pos hS.lo (by rw [zC] at hlt; omega)).2 c2.2.2
  rw [if_pos ⟨c2.1,c2.2.1,ha⟩];refine ⟨_,_,rfl,?_,H.take hT hlt⟩;rw [jd,jd,H.tk hT hlt]
 ·rw [if_neg c2]
  exact LR.bad
theorem named_lo {ts ts':Ts} {lo d e:Nat} {o:Bool} (H:Lo ts ts' lo d e) {s s':Ps} (most:Nat) (hS:SR lo d o s s') (hp:s.pos < e):LR trN lo d e o (some (jf ts most s)) (some (jf ts' most s')):=by
 have hT:=H.take hS hp
 have hr:qy (hdT ts' (qj ts' s'))=qy (hdT ts (qj ts s)):=H.rank hT (by rw [zC]; omega)
 unfold jf
 dsimp only
 rw [H.tk hS hp,hr]
 by_cases c1:constB (hdT ts s).1.text=true
 ·rw [if_pos c1,if_pos c1]; exact LR.ok rfl (fun _=>hT)
 rw [if_neg c1,if_neg c1]
 by_cases c2:(hdT ts s).1.text≠[115,117,112,101,114]
 ·rw [if_pos c2,if_pos c2]; exact LR.ok rfl (fun _=>hT)
 rw [if_neg c2,if_neg c2]
 by_cases c3:qy (hdT ts (qj ts s))=0∨most < qy (hdT ts (qj ts s))
 ·rw [if_pos c3]; exact LR.bad
 ·rw [if_neg c3,if_neg c3]; exact LR.ok rfl (fun _=>hT)
theorem tks_pg {ts:Ts} (acc:Ts) (s:Ps) (hs:Okq ts s) (hth:((fun s=>(qi ts 1 s,s)) s:Bool × Ps).1=true):Pg ts s ((fun (_:Ts) s=>some (.ok (hdT ts s) (qj ts s))) acc s):=Pg.tk (Pq.ok (hs.take (by rw [qk hth]; decide)))
theorem nterm1:¬ term 1:=by rintro (h | h | h | h) <;> cases h
theorem nterm12:¬ term 12:=by rintro (h | h | h | h) <;> cases h
theorem nterm13:¬ term 13:=by rintro (h | h | h | h) <;> cases h
theorem nterm17:¬ term 17:=by rintro (h | h | h | h) <;> cases h
theorem temporaries_lo {ts ts':Ts} {lo d e:Nat} {o:Bool} (H:Lo ts ts' lo d e) (n n':Nat) (hn:n≤n') {s s':Ps} (hs:Okq ts s) (hS:SR lo d o s s'):LR (List.map Prod.fst) lo d e o (qv ts n s) (qv ts' n' s'):=by
 by_cases hle:s.pos≤e
 rotate_left
 ·intro l s1 e1 h1
  have:=(qZ n hs l s1 e1).1;omega
 unfold qv
 have hst:=H.stands hS hle nterm12
 unfold qN
 rw [hst]
 by_cases c:qi ts 12 s=true
 ·rw [if_pos c,if_pos c]
  dsimp only;have hlt:s.pos < e:=by
   by_cases h6:s.pos < e
   ·exact h6
   ·exfalso
    apply nterm12
    rw [← qk c];unfold hdT;rw [show s.pos=e by omega]
    exact H.e1
  have hs1:=hs.take (by rw [qk c]; decide)
  have hl:=listA_lo (α:=Tok × Nat) (g:=Prod.fst) H (o:=o) (b:=e) (btw:=0) (there:=fun s=>(qi ts 1 s,s)) (there':=fun s=>(qi ts' 1 s,s)) (one:=fun _ s=>some (.ok (hdT ts s) (qj ts s))) (one':=fun _ s=>some (.ok (hdT ts' s) (qj ts' s))) (by decide) (Nat.le_refl _) (fun h=>absurd rfl h) (fun s hs=>⟨Nat.le_refl _,hs⟩) tks_pg
   (fun acc s a s2 hs hth e=>Nat.le_of_lt (tks_pg acc s hs hth a s2 e).1) (fun s s' hs hS hp=>⟨H.stands hS hp nterm1,fun _=>hS⟩) (fun acc acc' s s' hacc hs hth hsb hS _=>by
    have hlt:s.pos < e:=by
     by_cases h6:s.pos < e
     ·exact h6
     ·exfalso
      apply nterm1
      rw [← qk hth];unfold hdT;rw [show s.pos=e by omega]
      exact H.e1
    exact LR.ok (H.tk hS hlt) (fun _=>H.take hS hlt)) n n' [] [] _ _ hn rfl hs1 (H.take hS hlt)
  have hq:=(zh (α:=Tok × Nat) (btw:=0) (there:=fun s=>(qi ts 1 s,s)) (one:=fun _ s=>some (.ok (hdT ts s) (qj ts s))) (by decide) (fun s hs=>⟨Nat.le_refl _,hs⟩) tks_pg n [] _ hs1).1
  refine LR.bind (ts:=ts) hl (fun l s2 e2=>(need_pq (hq l s2 e2).2 (by decide)).q) (fun l s2 l' s2' e2 hE hS2=>LR.need H hS2 (fun hst=>Pq.ok ((hq l s2 e2).2.take (by rw [qk hst]; decide))) (fun _ _ hT=>LR.ok hE (fun _=>hT)))
 ·rw [if_neg c,if_neg c]
  exact LR.ok rfl (fun _=>hS)
structure LoAll (ts ts':Ts) (lo d e:Nat) (o:Bool) (n:Nat):Prop where
 expr:∀ n' s s',n≤n'→Okq ts s→SR lo d o s s'→LR trN lo d e o (qD ts n s) (qD ts' n' s')
 casc:∀ n' s s',n≤n'→Okq ts s→SR lo d o s s'→LR trN lo d e o (zi ts n s) (zi ts' n' s')
 sends:∀ n' most s s',n≤n'→Okq ts s→SR lo d o s s'→LR (fun x=>(trN x.1,x.2)) lo d e o (zm ts n most s) (zm ts' n' most s')
 ranks:∀ n' most rank m m' sent s s',n≤n'→trN m'=trN m→Okq ts s→SR lo d o s s'→LR (fun x=>(trN x.1,x.2)) lo d e o (zn ts n most rank m sent s) (zn ts' n' most rank m' sent s')
 msg:∀ n' s s',n≤n'→Okq ts s→SR lo d o s s'→LR trN lo d e o (qM ts n s) (qM ts' n' s')
 prim:∀ n' most s s',n≤n'→Okq ts s→SR lo d o s s'→LR trN lo d e o (ze ts n most s) (ze ts' n' most s')
 lit:∀ n' s s',n≤n'→Okq ts s→SR lo d o s s'→LR trN lo d e o (zb ts n s) (zb ts' n' s')
 elem:∀ n' s s',n≤n'→Okq ts s→SR lo d o s s'→LR trN lo d e o (qX ts n s) (qX ts' n' s')
 blk:∀ n' s s',n≤n'→Okq ts s→(hdT ts s).1.kind=10→SR lo d o s s'→LR trN lo d e o (zO ts n s) (zO ts' n' s')
 stmt:∀ n' s s',n≤n'→Okq ts s→SR lo d o s s'→LR trN lo d e o (qA ts n s) (qA ts' n' s')
 body:∀ n' fin s s',fin≠18→n≤n'→Okq ts s→SR lo d o s s'→LR (List.map trN) lo d e o (zg ts n fin s) (zg ts' n' fin s')
theorem LR.start {α γ:Type} {g:α→γ} {ts:Ts} {lo d e:Nat} {o:Bool} {s:Ps} {r r':Option (Rs α)} (hp:Pg ts s r) (h:s.pos < e→LR g lo d e o r r'):LR g lo d e o r r':=by
 intro a s1 e1 h1
 have:=(hp a s1 e1).1
 exact h (by omega) a s1 e1 h1
theorem LR.startq {α γ:Type} {g:α→γ} {ts:Ts} {lo d e:Nat} {o:Bool} {s:Ps} {r r':Option (Rs α)} (hp:Pq ts s r) (h:s.pos≤e→LR g lo d e o r r'):LR g lo d e o r r':=by
 intro a s1 e1 h1
 have:=(hp a s1 e1).1
 exact h (by omega) a s1 e1 h1
theorem trN_send {r r' m m':Nd} (hr:trN r'=trN r) (hm:trN m'=trN m):trN (sendN r' m')=trN (sendN r m):=by
 obtain ⟨a1,a2,a3,a4,a5⟩:=Lk.kids (a:=m') (b:=m) hm
 unfold sendN
 rw [jd,jd,a2,a3,a4,List.map_cons,List.map_cons,hr,a1]
theorem stmt_pg {ts:Ts} {n:Nat} (fin:Nat) (acc:List Nd) (s:Ps) (hs:Okq ts s) (hth:((fun s=>(!qi ts fin s,s)) s:Bool × Ps).1=true):Pg ts s ((fun acc s=>if retd acc=true then some (.bad (hdT ts s)) else qA ts n s) acc s):=by
 dsimp only
 split
 ·exact Pg.bad
 ·exact (zS ts n).stmt s hs
theorem lo_all {ts ts':Ts} {lo d e:Nat} {o:Bool} (H:Lo ts ts' lo d e):∀ n,LoAll ts ts' lo d e o n:=by
 intro n
 induction n with
 | zero =>
  refine ⟨fun _ s _ _ _ _=>?_,fun _ s _ _ _ _=>?_,fun _ _ s _ _ _ _=>?_,fun _ _ _ _ _ _ s _ _ _ _ _=>?_,fun _ s _ _ _ _=>?_,fun _ _ s _ _ _ _=>?_,fun _ s _ _ _ _=>?_,fun _ s _ _ _ _=>?_,fun _ s _ _ _ _ _=>?_,fun _ s _ _ _ _=>?_,fun _ _ s _ _ _ _ _=>?_⟩ <;> first | (unfold qD; exact LR.no) | (unfold zi; exact LR.no) | (unfold zm; exact LR.no) | (unfold zn; exact LR.no) | (unfold qM; exact LR.no) | (unfold ze; exact LR.no) | (unfold zb; exact LR.no) | (unfold qX; exact LR.no) | (unfold zO; exact LR.no) | (unfold qA; exact LR.no) | (unfold zg; exact LR.no)
 | succ n ih =>
  have pg:=zS ts n;have pgs:=zS ts (n+1);refine ⟨?_,?_,?_,?_,?_,?_,?_,?_,?_,?_,?_⟩
  ·intro n' s s' hn hs hS
   obtain ⟨n',rfl⟩:∃ m,n'=m+1:=⟨n' - 1,by omega⟩
   refine LR.start (pgs.expr s hs) (fun hp=>?_)
   have ht:(ts'.getD (s'.pos+1) zj).1.kind=14 ↔ (ts.getD (s.pos+1) zj).1.kind=14:=by
    by_cases h6:s.pos+1 < e
    ·rw [H.tk1 hS h6]
    ·have h7:s.pos+1=e:=by omega
     rw [hS.pos,show s.pos+d+1=s.pos+1+d by omega,h7]
     have nt:¬ term 14:=by rintro (h | h | h | h) <;> cases h
     exact ⟨fun h=>absurd h (H.e2.ne nt),fun h=>absurd h (H.e1.ne nt)⟩
   unfold qD;rw [H.stands_lt hS hp]
   by_cases c:qi ts 1 s=true∧(ts.getD (s.pos+1) zj).1.kind=14
   ·rw [if_pos c,if_pos ⟨c.1,ht.2 c.2⟩]
    have h1:=hs.take (by rw [qk c.1]; decide)
    have hk:hdT ts (qj ts s)=ts.getD (s.pos+1) zj:=rfl;have h2:=h1.take (by rw [hk,c.2]; decide)
    have hT:=H.take hS hp;have hp2:s.pos+1 < e:=by
     by_cases h6:s.pos+1 < e
     ·exact h6
     ·exfalso
      have h7:s.pos+1=e:=by omega
      have nt:¬ term 14:=by rintro (h | h | h | h) <;> cases h
      rw [h7] at c;exact H.e1.ne nt c.2
    refine LR.bind (ih.expr n' _ _ (by omega) h2 (H.take hT (by rw [zC]; exact hp2))) (fun m s1 e1=>Pq.ok (pg.expr _ h2 m s1 e1).2) (fun m s1 m' s1' _ hE hS1=>LR.ok ?_ (fun _=>hS1))
    rw [jd,jd,H.tk hS hp,List.map_cons,List.map_cons,hE]
   ·rw [if_neg c,if_neg (fun h=>c ⟨h.1,ht.1 h.2⟩)]
    exact ih.casc n' s s' (by omega) hs hS
  ·intro n' s s' hn hs hS
   obtain ⟨n',rfl⟩:∃ m,n'=m+1:=⟨n' - 1,by omega⟩
   have key:=pgs.casc s hs;unfold zi at key ⊢;have hq:∀ (x:Nd × Bool) (s1:Ps),Okq ts s1→Pq ts s1 (if qi ts 17 s1=false then some (.ok x.1 s1) else if x.2=false then some (.bad (hdT ts s1)) else qF (qY ts 17 (fun s=>(true,s)) (fun _=>qM ts n) n [] (qj ts s1)) fun l s2=>match x.1.kids with | []=>none | r :: ks=>some (.ok (Nd.mk 10 [] 0 (hdT ts s1).2 [] [] (r :: .mk 11 x.1.text x.1.num x.1.place x.1.names x.1.places ks :: l)) s2)):=by
    intro x s1 h1
    split
    ·exact Pq.ok h1
    rename_i hst
    split
    ·exact Pg.bad.q
    have h2:=h1.take (by rw [qk (by simpa using hst)]; decide)
    refine (Pg.tk (Pq.bind (zh (btw:=17) (by decide) (fun s hs=>⟨Nat.le_refl _,hs⟩) (fun acc s hs _=>pg.msg s hs) n [] _ h2).1 (fun l s3 _ h3=>?_))).q
    cases x.1.kids with
    | nil=>exact Pg.none.q
    | cons r ks=>exact Pq.ok h3
   refine LR.bind (ih.sends n' 3 s s' (by omega) hs hS) (fun x s1 e1=>hq x s1 (pg.sends 3 s hs x s1 e1).2) (fun x s1 x' s1' e1 hE hS1=>?_)
   have h1:=(pg.sends 3 s hs x s1 e1).2;refine LR.startq (hq x s1 h1) (fun hp1=>?_)
   injection hE with hE1 hE2
   rw [H.stands hS1 hp1 nterm17,hE2]
   by_cases c1:qi ts 17 s1=false
   ·rw [if_pos c1,if_pos c1]; exact LR.ok hE1 (fun _=>hS1)
   rw [if_neg c1,if_neg c1]
   by_cases c2:x.2=false
   ·rw [if_pos c2]; exact LR.bad
   rw [if_neg c2,if_neg c2];have hst:qi ts 17 s1=true:=by simpa using c1
   have h2:=h1.take (by rw [qk hst]; decide)
   have hlt:s1.pos < e:=by
    by_cases h6:s1.pos < e
    ·exact h6
    ·exfalso
     apply nterm17
     rw [← qk hst];unfold hdT;rw [show s1.pos=e by omega]
     exact H.e1
   have hl:=listA_lo (g:=trN) H (o:=o) (b:=e) (btw:=17) (there:=fun s=>(true,s)) (there':=fun s=>(true,s)) (one:=fun _=>qM ts n) (one':=fun _=>qM ts' n') (by decide) (Nat.le_refl _) (fun _=>Or.inr nterm17) (fun s hs=>⟨Nat.le_refl _,hs⟩) (fun acc s hs _=>pg.msg s hs) (fun acc s a s2 hs _ e=>Nat.le_of_lt (pg.msg s hs a s2 e).1) (fun s s' hs hS hp=>⟨rfl,fun _=>hS⟩) (fun acc acc' s s' hacc hs hth hsb hS _=>ih.msg n' s s' (by omega) hs hS) n n' [] [] _ _ (by omega) rfl h2 (H.take hS1 hlt)
   refine LR.bind (ts:=ts) hl (fun l s3 e3=>?_) (fun l s3 l' s3' e3 hl2 hS3=>?_)
   ·have h3:=((zh (btw:=17) (there:=fun s=>(true,s)) (by decide) (fun s hs=>⟨Nat.le_refl _,hs⟩) (fun acc s hs _=>pg.msg s hs) n [] _ h2).1 l s3 e3).2
    cases x.1.kids with
    | nil=>exact Pg.none.q
    | cons r ks=>exact Pq.ok h3
   obtain ⟨a1,a2,a3,a4,a5⟩:=Lk.kids (a:=x'.1) (b:=x.1) hE1;unfold LkL at a1;rw [a2,a3,a4]
   cases hk:x.1.kids with
   | nil=>exact LR.no
   | cons r ks =>
    cases hk':x'.1.kids with
    | nil=>rw [hk,hk'] at a1; cases a1
    | cons r' ks' =>
     rw [hk,hk',List.map_cons,List.map_cons] at a1;injection a1 with a6 a7
     refine LR.ok ?_ (fun _=>hS3)
     rw [jd,jd,List.map_cons,List.map_cons,List.map_cons,List.map_cons,jd,jd,a6,a7,hl2]
  ·intro n' most s s' hn hs hS
   obtain ⟨n',rfl⟩:∃ m,n'=m+1:=⟨n' - 1,by omega⟩
   unfold zm;exact LR.bind (ih.prim n' most s s' (by omega) hs hS) (fun m s1 e1=>pg.ranks most 1 m false s1 (pg.prim most s hs m s1 e1).2) (fun m s1 m' s1' e1 hE hS1=>ih.ranks n' most 1 m m' false s1 s1' (by omega) hE (pg.prim most s hs m s1 e1).2 hS1)
  ·intro n' most rank m m' sent s s' hn hm hs hS
   obtain ⟨n',rfl⟩:∃ m,n'=m+1:=⟨n' - 1,by omega⟩
   refine LR.startq (pgs.ranks most rank m sent s hs) (fun hp=>?_)
   unfold zn;rw [H.rank hS hp]
   by_cases c1:most < rank
   ·rw [if_pos c1,if_pos c1]
    exact LR.ok (by dsimp only; rw [hm]) (fun _=>hS)
   rw [if_neg c1,if_neg c1]
   by_cases c2:qy (hdT ts s)=rank
   ·rw [if_pos c2,if_pos c2]
    exact LR.bind (ih.msg n' s s' (by omega) hs hS) (fun a s1 e1=>pg.ranks most rank _ true s1 (pg.msg s hs a s1 e1).2) (fun a s1 a' s1' e1 hE hS1=>ih.ranks n' most rank _ _ true s1 s1' (by omega) (trN_send hm hE) (pg.msg s hs a s1 e1).2 hS1)
   ·rw [if_neg c2,if_neg c2]
    exact ih.ranks n' most (rank+1) m m' sent s s' (by omega) hm hs hS
  ·intro n' s s' hn hs hS
   obtain ⟨n',rfl⟩:∃ m,n'=m+1:=⟨n' - 1,by omega⟩
   refine LR.start (pgs.msg s hs) (fun hp=>?_)
   unfold qM;have ho:∀ k s,k≤3→Okq ts s→Pq ts s (qF (zm ts n (k - 1) s) fun x s1=>some (.ok x.1 s1)):=fun k s _ hs=>(Pg.bind (pg.sends (k - 1) s hs) (fun x s1 _ h1=>Pq.ok h1)).q
   refine LR.bind (worded_lo (g:=trN) H ho n n' (by omega) (fun k s s' _ hs hS=>?_) s s' hs hS hp) (fun x s1 e1=>Pq.ok (worded_pg ho n s hs x s1 e1).2) (fun x s1 x' s1' _ hE hS1=>LR.ok ?_ (fun _=>hS1))
   ·exact LR.bind (ih.sends n' (k - 1) s s' (by omega) hs hS) (fun x s1 e1=>Pq.ok (pg.sends (k - 1) s hs x s1 e1).2) (fun x s1 x' s1' _ hE hS1=>LR.ok (by injection hE) (fun _=>hS1))
   ·injection hE with hE1 hE2
    rw [jd,jd,hE1,hE2]
  ·intro n' most s s' hn hs hS
   obtain ⟨n',rfl⟩:∃ m,n'=m+1:=⟨n' - 1,by omega⟩
   refine LR.start (pgs.prim most s hs) (fun hp=>?_)
   unfold ze;rw [H.tk hS hp]
   by_cases c1:(hdT ts s).1.kind=1
   ·rw [if_pos c1,if_pos c1]; exact named_lo H most hS hp
   rw [if_neg c1,if_neg c1]
   by_cases c2:(hdT ts s).1.kind=8
   ·rw [if_pos c2,if_pos c2]
    have h1:=hs.take (by rw [c2]; decide)
    exact LR.bind (ih.expr n' _ _ (by omega) h1 (H.take hS hp)) (fun m s1 e1=>(need_pq (pg.expr _ h1 m s1 e1).2 (by decide)).q) (fun m s1 m' s1' e1 hE hS1=>LR.need H hS1 (fun hst=>Pq.ok ((pg.expr _ h1 m s1 e1).2.take (by rw [qk hst]; decide))) (fun _ _ hT=>LR.ok hE (fun _=>hT)))
   rw [if_neg c2,if_neg c2]
   by_cases c3:(hdT ts s).1.kind=10
   ·rw [if_pos c3,if_pos c3]; exact ih.blk n' s s' (by omega) hs c3 hS
   ·rw [if_neg c3,if_neg c3]; exact ih.lit n' s s' (by omega) hs hS
  ·intro n' s s' hn hs hS
   obtain ⟨n',rfl⟩:∃ m,n'=m+1:=⟨n' - 1,by omega⟩
   refine LR.start (pgs.lit s hs) (fun hp=>?_)
   unfold zb;rw [H.tk hS hp]
   by_cases c1:(hdT ts s).1.kind=4∨(hdT ts s).1.kind=3
   ·rw [if_pos c1,if_pos c1]; exact integer_lo H hs hS hp
   rw [if_neg c1,if_neg c1]
   by_cases c2:(hdT ts s).1.kind=6
   ·rw [if_pos c2,if_pos c2]; exact LR.ok rfl (fun _=>H.take hS hp)
   rw [if_neg c2,if_neg c2]
   by_cases c3:(hdT ts s).1.kind=5
   ·rw [if_pos c3,if_pos c3]; exact LR.ok rfl (fun _=>H.take hS hp)
   rw [if_neg c3,if_neg c3]
   by_cases c4:(hdT ts s).1.kind=7
   rotate_left
   ·rw [if_neg c4]; exact LR.bad
   rw [if_pos c4,if_pos c4];have h1:=hs.take (by rw [c4]; decide)
   intro m s2 em hs2;obtain ⟨l,s1,el,ek⟩:=qQ em;have hlq:=(zh (btw:=0) (there:=fun s=>(!qi ts 9 s,s)) (by decide) (fun s hs=>⟨Nat.le_refl _,hs⟩) (fun acc s hs _=>pg.elem s hs) n [] _ h1).1 l s1 el
   have hp2:=places_getD (elems_place pg.elem h1 el) 32;have hq:Okq ts (if 32 < l.length then qR 73 ((l.map Nd.place).getD 32 0) s1 else s1)∧(if 32 < l.length then qR 73 ((l.map Nd.place).getD 32 0) s1 else s1).pos=s1.pos:=by
    split
    ·exact ⟨hlq.2.pass hp2,passP_rest.1⟩
    ·exact ⟨hlq.2,rfl⟩
   have hlt:s1.pos < e:=by
    have:=(need_pq hq.1 (by decide) (α:=Nd) m s2 ek).1
    omega
   obtain ⟨l',s1',el',hE,hS1⟩:=listA_lo (g:=trN) H (o:=o) (b:=e - 1) (btw:=0) (there:=fun s=>(!qi ts 9 s,s)) (there':=fun s=>(!qi ts' 9 s,s)) (one:=fun _=>qX ts n) (one':=fun _=>qX ts' n') (by decide) (by omega) (fun h=>absurd rfl h) (fun s hs=>⟨Nat.le_refl _,hs⟩) (fun acc s hs _=>pg.elem s hs) (fun acc s a s2 hs _ e=>Nat.le_of_lt (pg.elem s hs a s2 e).1) (fun s s' hs hS hp=>⟨by dsimp only; rw [H.stands_lt hS (by omega)],fun _=>hS⟩) (fun acc acc' s s' hacc hs hth hsb hS _=>(ih.elem n' s s' (by omega) hs hS).mono (by omega)) n n' [] [] _ _ (by omega) rfl h1 (H.take hS hp) l s1 el (by omega)
   have hll:l'.length=l.length:=by have:=congrArg List.length hE; simpa using this
   refine LR.need H (s:=if 32 < l.length then qR 73 ((l.map Nd.place).getD 32 0) s1 else s1) (s':=if 32 < l'.length then qR 73 ((l'.map Nd.place).getD 32 0) s1' else s1') (k:=9) (g:=trN) (p:=fun s2=>some (.ok (Nd.mk 4 [] 0 (hdT ts s).2 [] [] l) s2)) (p':=fun s2=>some (.ok (Nd.mk 4 [] 0 (hdT ts' s').2 [] [] l') s2)) ?_ (fun hst=>Pq.ok (hq.1.take (by rw [qk hst]; decide))) (fun _ _ hT=>LR.ok (by rw [jd,jd,hE]) (fun _=>hT)) m s2 ek hs2 |> fun ⟨m',s2',e',hE2,hS2⟩=>⟨m',s2',by rw [el']; exact e',hE2,hS2⟩
   rw [hll]
   split
   ·exact hS1.pass (by decide)
   ·exact hS1
  ·intro n' s s' hn hs hS
   obtain ⟨n',rfl⟩:∃ m,n'=m+1:=⟨n' - 1,by omega⟩
   refine LR.start (pgs.elem s hs) (fun hp=>?_)
   unfold qX;rw [H.tk hS hp]
   by_cases c:(hdT ts s).1.kind=1∧constB (hdT ts s).1.text=true
   ·rw [if_pos c,if_pos c]; exact named_lo H 0 hS hp
   ·rw [if_neg c,if_neg c]; exact ih.lit n' s s' (by omega) hs hS
  ·intro n' s s' hn hs hk hS
   obtain ⟨n',rfl⟩:∃ m,n'=m+1:=⟨n' - 1,by omega⟩
   refine LR.start (pgs.blk s hs hk) (fun hp=>?_)
   unfold zO;have h1:=hs.take (by rw [hk]; decide)
   obtain ⟨p1,p2⟩:=params_pg n h1;have hp1:∀ (acc:Ts) (s:Ps),Okq ts s→(qN ts 13 s).1=true→Pg ts s ((fun (_:Ts) s=>some (qS ts 1 s)) acc (qN ts 13 s).2):=fun acc s hs _ a s' e=>by
    obtain ⟨q1,q2⟩:=Pg.need (hs.skip (k:=13) (by decide)) (k:=1) (by decide) a s' e
    exact ⟨Nat.lt_of_le_of_lt (zD ts 13 s) q1,q2⟩
   have mid_pq:∀ (ps:Ts) (s2:Ps),Okq ts s2→Pg ts s2 (match (if 0 < ps.length∧qi ts 11 s2=false then qS ts 12 s2 else .ok zj s2) with
    | .bad x=>some (.bad x)
    | .ok _ s3=>qF (qv ts n s3) fun tm s4=>qF (zg ts n 11 s4) fun l s5 =>
     some (.ok (Nd.mk 12 [] ps.length (hdT ts s).2 ((ps++tm).map (·.1.text)) ((ps++tm).map (·.2)) l) s5)):=by
    intro ps s2 h2;have hr:∀ s3,Okq ts s3→Pg ts s3 (qF (qv ts n s3) fun tm s4=>qF (zg ts n 11 s4) fun l s5 =>
     some (.ok (Nd.mk 12 [] ps.length (hdT ts s).2 ((ps++tm).map (·.1.text)) ((ps++tm).map (·.2)) l) s5)):=fun s3 h3=>Pq.bindG (qZ n h3) (fun tm s4 _ h4=>Pg.bind (pg.body 11 s4 (by decide) h4) (fun l s5 _ h5=>Pq.ok h5))
    by_cases hc:0 < ps.length∧qi ts 11 s2=false
    ·rw [if_pos hc]
     unfold qS
     by_cases hb:qi ts 12 s2=true
     ·rw [if_pos hb]
      have:=h2.take (by rw [qk hb]; decide)
      intro b s' e;obtain ⟨q1,q2⟩:=hr _ this b s' e;rw [zC] at q1;exact ⟨by omega,q2⟩
     ·rw [if_neg hb]; exact Pg.bad
    ·rw [if_neg hc]
     exact hr _ h2
   have hl:=listA_lo (α:=Tok × Nat) (g:=Prod.fst) H (o:=o) (b:=e) (btw:=0) (there:=fun s=>qN ts 13 s) (there':=fun s=>qN ts' 13 s) (one:=fun _ s=>some (qS ts 1 s)) (one':=fun _ s=>some (qS ts' 1 s)) (by decide) (Nat.le_refl _) (fun h=>absurd rfl h) (fun s hs=>⟨zD ts 13 s,hs.skip (by decide)⟩) hp1
    (fun acc s a s2 hs hth e=>by
     injection e with e
     unfold qS at e
     split at e
     ·injection e with e1 e2; subst e2; rw [zC]; omega
     ·cases e) (fun s s' hs hS hp=>by
     have hst:=H.stands hS hp nterm13;unfold qN;rw [hst]
     by_cases c:qi ts 13 s=true
     ·rw [if_pos c,if_pos c]
      exact ⟨rfl,fun hle=>H.take hS (by rw [zC] at hle; omega)⟩
     ·rw [if_neg c,if_neg c]
      exact ⟨rfl,fun _=>hS⟩) (fun acc acc' s s' hacc hs hth hsb hS hS2=>by
     intro a s2 ea hs2;injection ea with ea
     unfold qS at ea
     split at ea
     ·rename_i hst
      injection ea with e1 e2; subst e1; subst e2
      rw [zC] at hs2;refine ⟨hdT ts' (qN ts' 13 s').2,_,?_,H.tk hS2 (by omega),H.take hS2 (by omega)⟩
      unfold qS;rw [H.stands_lt hS2 (by omega),if_pos hst]
     ·cases ea) n n' [] [] _ _ (by omega) rfl h1 (H.take hS hp)
   have hS2f:∀ (ps:Ts) (s1:Ps),Okq ts s1→(ps.getD 8 zj).2≤4096→Okq ts (if 8 < ps.length then qR 73 (ps.getD 8 zj).2 s1 else s1)∧(if 8 < ps.length then qR 73 (ps.getD 8 zj).2 s1 else s1).pos=s1.pos:=by
    intro ps s1 h hp
    split
    ·exact ⟨h.pass hp,passP_rest.1⟩
    ·exact ⟨h,rfl⟩
   refine LR.bind (ts:=ts) hl (fun ps s1 e1=>?_) (fun ps s1 ps' s1' e1 hE hS1=>?_)
   ·obtain ⟨a1,a2⟩:=hS2f ps s1 (p1 ps s1 e1).2 (toks_getD (p2 ps s1 e1) 8)
    intro b s2 eb;have:=(mid_pq ps _ a1).q b s2 eb;exact ⟨by omega,this.2⟩
   obtain ⟨a1,a2⟩:=hS2f ps s1 (p1 ps s1 e1).2 (toks_getD (p2 ps s1 e1) 8);have hll:ps'.length=ps.length:=by have:=congrArg List.length hE; simpa using this
   have hS2:SR lo d o (if 8 < ps.length then qR 73 (ps.getD 8 zj).2 s1 else s1) (if 8 < ps'.length then qR 73 (ps'.getD 8 zj).2 s1' else s1'):=by
    rw [hll]
    split
    ·exact hS1.pass (by decide)
    ·exact hS1
   dsimp only;generalize (if 8 < ps.length then qR 73 (ps.getD 8 zj).2 s1 else s1)=s2 at *
   generalize (if 8 < ps'.length then qR 73 (ps'.getD 8 zj).2 s1' else s1')=s2' at *
   have rest:∀ s3 s3',Okq ts s3→SR lo d o s3 s3'→LR trN lo d e o (qF (qv ts n s3) fun tm s4=>qF (zg ts n 11 s4) fun l s5 =>
     some (.ok (Nd.mk 12 [] ps.length (hdT ts s).2 ((ps++tm).map (·.1.text)) ((ps++tm).map (·.2)) l) s5)) (qF (qv ts' n' s3') fun tm s4=>qF (zg ts' n' 11 s4) fun l s5 =>
     some (.ok (Nd.mk 12 [] ps.length (hdT ts' s').2 ((ps'++tm).map (·.1.text)) ((ps'++tm).map (·.2)) l) s5)):=fun s3 s3' h3 hS3=>by
    refine LR.bind (ts:=ts) (temporaries_lo H n n' (by omega) h3 hS3) (fun tm s4 e4=>?_) (fun tm s4 tm' s4' e4 hE4 hS4=>?_)
    ·exact (Pg.bind (pg.body 11 s4 (by decide) (qZ n h3 tm s4 e4).2) (fun l s5 _ h5=>Pq.ok h5)).q
    ·have h4:=(qZ n h3 tm s4 e4).2
     refine LR.bind (ih.body n' 11 s4 s4' (by decide) (by omega) h4 hS4) (fun l s5 e5=>Pq.ok (pg.body 11 s4 (by decide) h4 l s5 e5).2) (fun l s5 l' s5' _ hE5 hS5=>LR.ok ?_ (fun _=>hS5))
     have en:(ps'++tm').map (·.1.text)=(ps++tm).map (·.1.text):=by
      have e6:(ps'++tm').map Prod.fst=(ps++tm).map Prod.fst:=by rw [List.map_append,List.map_append,hE,hE4]
      have:=congrArg (List.map Tok.text) e6;rw [List.map_map,List.map_map] at this;exact this
     rw [jd,jd,en,hE5]
   refine LR.start (ts:=ts) (s:=s2) (mid_pq ps s2 a1) (fun hp2=>?_)
   rw [hll,H.stands_lt hS2 hp2]
   by_cases hc:0 < ps.length∧qi ts 11 s2=false
   ·rw [if_pos hc,if_pos hc]
    unfold qS;rw [H.stands_lt hS2 hp2]
    by_cases hb:qi ts 12 s2=true
    ·rw [if_pos hb,if_pos hb]
     exact rest _ _ (a1.take (by rw [qk hb]; decide)) (H.take hS2 hp2)
    ·rw [if_neg hb,if_neg hb]; exact LR.bad
   ·rw [if_neg hc,if_neg hc]
    exact rest _ _ a1 hS2
  ·intro n' s s' hn hs hS
   obtain ⟨n',rfl⟩:∃ m,n'=m+1:=⟨n' - 1,by omega⟩
   refine LR.start (pgs.stmt s hs) (fun hp=>?_)
   unfold qA;rw [H.stands_lt hS hp]
   by_cases c:qi ts 15 s=true
   ·rw [if_pos c,if_pos c]
    have h1:=hs.take (by rw [qk c]; decide)
    exact LR.bind (ih.expr n' _ _ (by omega) h1 (H.take hS hp)) (fun m s1 e1=>Pq.ok (pg.expr _ h1 m s1 e1).2) (fun m s1 m' s1' _ hE hS1=>LR.ok (by rw [jd,jd,List.map_cons,List.map_cons,hE]) (fun _=>hS1))
   ·rw [if_neg c,if_neg c]
    exact ih.expr n' s s' (by omega) hs hS
  ·intro n' fin s s' hf hn hs hS
   obtain ⟨n',rfl⟩:∃ m,n'=m+1:=⟨n' - 1,by omega⟩
   unfold zg;intro l s2 eb hs2;obtain ⟨l0,s1,el,ek⟩:=qQ eb;have hlq:=(zh (btw:=16) (by decide) (fun s hs=>⟨Nat.le_refl _,hs⟩) (stmt_pg (n:=n) fin) n [] s hs).1 l0 s1 el
   have hlt:s1.pos < e:=by
    have:=(need_pq hlq.2 hf (α:=List Nd) l s2 ek).1;omega
   obtain ⟨l',s1',el',hE,hS1⟩:=listA_lo (g:=trN) H (o:=o) (b:=e - 1) (btw:=16) (there:=fun s=>(!qi ts fin s,s)) (there':=fun s=>(!qi ts' fin s,s)) (one:=fun acc s=>if retd acc=true then some (.bad (hdT ts s)) else qA ts n s) (one':=fun acc s=>if retd acc=true then some (.bad (hdT ts' s)) else qA ts' n' s) (by decide) (by omega) (fun _=>Or.inl (by omega)) (fun s hs=>⟨Nat.le_refl _,hs⟩) (stmt_pg fin) (fun acc s a s2 hs hth e=>Nat.le_of_lt (stmt_pg fin acc s hs hth a s2 e).1) (fun s s' hs hS hp=>⟨by dsimp only; rw [H.stands_lt hS (by omega)],fun _=>hS⟩) (fun acc acc' s s' hacc hs hth hsb hS _=>by
     dsimp only;rw [LkL.last (l:=acc') (m:=acc) hacc]
     split
     ·exact LR.bad
     ·exact (ih.stmt n' s s' (by omega) hs hS).mono (by omega)) n n' [] [] _ _ (by omega) rfl hs hS l0 s1 el (by omega)
   obtain ⟨m',s2',e',hE2,hS2⟩:=LR.need H hS1 (k:=fin) (g:=List.map trN) (p:=fun s2=>some (.ok l0 s2)) (p':=fun s2=>some (.ok l' s2)) (fun hst=>Pq.ok (hlq.2.take (by rw [qk hst]; exact hf))) (fun _ _ hT=>LR.ok hE (fun _=>hT)) l s2 ek hs2
   exact ⟨m',s2',by rw [el']; exact e',hE2,hS2⟩
end Go.Proofs.YtfhkhmgodkheaaaGreatDoor
