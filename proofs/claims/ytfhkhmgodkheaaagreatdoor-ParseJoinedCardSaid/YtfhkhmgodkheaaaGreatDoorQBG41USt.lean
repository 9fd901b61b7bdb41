import Derived.Test.YtfhkhmgodkheaaaGreatDoorQBG40UBal
import Derived.Test.YtfhkhmgodkheaaaGreatDoorQBG37UNv
import Derived.BigQuiet
import Derived.Deep.QuietTactic
set_option linter.unusedSimpArgs false
set_option linter.unusedVariables false
set_option maxRecDepth 1000000
set_option maxHeartbeats 16000000
namespace Go.Proofs.YtfhkhmgodkheaaaGreatDoor
/-! tokens of joined sources -/
theorem sh_get' (a:Nat) (us:Ts) (i:Nat) (hi:i < us.length):(Lx.sh a us)[i]?=some ((us[i]).1,(us[i]).2+a):=by
 unfold Lx.sh
 rw [List.getElem?_map,List.getElem?_eq_getElem hi]
 rfl
theorem sh_len (a:Nat) (us:Ts):(Lx.sh a us).length=us.length:=by simp [Lx.sh]
theorem Lo.of {us pre post rest:Ts} {a:Nat} {x y:Tok × Nat} (hx:term x.1.kind) (hy:term y.1.kind):Lo (us++x :: rest) (pre++(Lx.sh a us++y :: post)) 0 pre.length us.length:=by
 have g1:∀ i (hi:i < us.length),(us++x :: rest).getD i noTk=us[i]:=fun i hi=>by
  rw [List.getD_eq_getElem?_getD,List.getElem?_append_left hi,List.getElem?_eq_getElem hi]; rfl
 have g2:∀ i (hi:i < us.length),(pre++(Lx.sh a us++y :: post)).getD (i+pre.length) noTk=(us[i].1,us[i].2+a):=fun i hi=>by
  rw [List.getD_eq_getElem?_getD,List.getElem?_append_right (by omega),Nat.add_sub_cancel,List.getElem?_append_left (by rw [sh_len]; exact hi),sh_get' a us i hi]
  rfl
 refine ⟨fun i _ hi=>by rw [g1 i hi,g2 i hi],fun i _ hi=>?_,?_,?_⟩
 ·rw [g1 i (by omega),g1 (i+1) hi,g2 i (by omega),g2 (i+1) hi]
  show us[i+1].2+a=us[i].2+a+1 ↔ us[i+1].2=us[i].2+1
  omega
 ·rw [List.getD_eq_getElem?_getD,List.getElem?_append_right (Nat.le_refl _),Nat.sub_self]
  exact hx
 ·rw [List.getD_eq_getElem?_getD,List.getElem?_append_right (by omega),Nat.add_sub_cancel,List.getElem?_append_right (by rw [sh_len]; exact Nat.le_refl _),sh_len,Nat.sub_self]
  exact hy
theorem Lo.pred {ts ts':Ts} {d e:Nat} (H:Lo ts ts' 0 d e) (h0:0 < e) (hk:(ts.getD (e - 1) noTk).1.kind=16):Lo ts ts' 0 d (e - 1) :=
 ⟨fun i h1 h2=>H.tok i h1 (by omega),fun i h1 h2=>H.adj i h1 (by omega),by rw [hk]; exact Or.inr (Or.inr (Or.inl rfl)),by
  rw [H.tok (e - 1) (Nat.zero_le _) (by omega),hk]; exact Or.inr (Or.inr (Or.inl rfl))⟩
theorem LexR.tok {l:Bs} {ts:Ts} (h:LexR l ts 0 0):l.length≤4096∧∃ us,Lx 0 l us Option.none∧ts=us++[(stopT,l.length)]:=by
 rcases h with ⟨_,_,h,_⟩ | ⟨hl,us,er,hx,hr⟩
 ·cases h
 rcases hr with ⟨rfl,rfl,_,_⟩ | ⟨p,_,_,h,_⟩
 ·exact ⟨hl,us,hx,rfl⟩
 ·cases h
theorem LexR.mkU {l:Bs} {us:Ts} (hl:l.length≤4096) (h:Lx 0 l us Option.none):LexR l (us++[(stopT,l.length)]) 0 0:=Or.inr ⟨hl,us,Option.none,h,Or.inl ⟨rfl,rfl,rfl,rfl⟩⟩
theorem term18:term 18:=Or.inr (Or.inr (Or.inr rfl))
theorem term16:term 16:=Or.inr (Or.inr (Or.inl rfl))
def thr (ts:Ts) (s:Ps):Bool × Ps:=(!standsP ts 18 s,s)
theorem listA_acc {α:Type} {ts:Ts} {btw:Nat} {there:Ps→Bool × Ps} {one:List α→Ps→Option (Rs α)}:∀ (n:Nat) (acc:List α) (s:Ps) (l:List α) (s1:Ps),listA ts btw there one n acc s=some (.ok l s1)→(∃ r,l=acc++r)∧((there s).1=true→l.length≠acc.length):=by
 intro n
 induction n with
 | zero=>intro acc s l s1 h; cases h
 | succ n ih =>
  intro acc s l s1 h
  unfold listA at h
  cases ht:there s with
  | mk b s0 =>
   rw [ht] at h
   cases b with
   | false =>
    injection h with h; injection h with h1 h2; subst h1
    exact ⟨⟨[],by simp⟩,fun h=>by cases h⟩
   | true =>
    dsimp only at h
    cases e:one acc s0 with
    | none=>rw [e] at h; cases h
    | some x =>
     rw [e] at h
     cases x with
     | bad x=>injection h with h; cases h
     | ok a s2 =>
      dsimp only at h
      have key:∀ s3,listA ts btw there one n (acc++[a]) s3=some (.ok l s1)→(∃ r,l=acc++r)∧((true=true)→l.length≠acc.length):=by
       intro s3 h3
       obtain ⟨⟨r,hr⟩,_⟩:=ih _ _ _ _ h3
       exact ⟨⟨a :: r,by rw [hr]; simp⟩,fun _=>by rw [hr]; simp⟩
      by_cases hz:btw=0
      ·rw [if_pos hz] at h; exact key _ h
      ·rw [if_neg hz] at h
       cases e2:skipP ts btw s2 with
       | mk bb s3 =>
        rw [e2] at h
        cases bb with
        | false=>injection h with h; injection h with h1 h2; subst h1; exact ⟨⟨[a],rfl⟩,fun _=>by simp⟩
        | true=>exact key _ h
theorem retd_snocU (l:List Nd) (a:Nd):retd (l++[a])=decide (a.kind=13):=by
 unfold retd
 rw [List.getLast?_append]
 simp
theorem thr_pg {ts:Ts} {f:Nat} (acc:List Nd) (s:Ps) (hs:Okq ts s) (hth:(thr ts s).1=true):Pg ts s (oneSt ts f acc (thr ts s).2):=stmt_pg 18 acc s hs hth
theorem list_pg {ts:Ts} (f n:Nat) (acc:List Nd) (s:Ps) (hs:Okq ts s):Pq ts s (listA ts 16 (thr ts) (oneSt ts f) n acc s):=(listA_pg (btw:=16) (there:=thr ts) (by decide) (fun s hs=>⟨Nat.le_refl _,hs⟩) thr_pg n acc s hs).1
theorem pre_list {ts:Ts} {e f:Nat} (h18:∀ i,i < e→(ts.getD i noTk).1.kind≠18) (he:(ts.getD e noTk).1.kind=18) {s1:Ps} (hs1:s1.pos=e) {l:List Nd}:∀ (n:Nat) (acc:List Nd) (s:Ps),listA ts 16 (thr ts) (oneSt ts f) n acc s=some (.ok l s1)→Okq ts s→l.length≠acc.length →
  ∃ p:Bool,(p=true→0 < e∧(ts.getD (e - 1) noTk).1.kind=16)∧∀ (ts':Ts) (d:Nat) (o:Bool) (f' n':Nat) (acc':List Nd) (s':Ps),Lo ts ts' 0 d (if p=true then e - 1 else e)→(p=true→(ts'.getD (e - 1+d) noTk).1.kind=16)→f≤f'→n≤n'→retd acc'=retd acc→SR 0 d o s s' →
   ∃ r r' s2 s2' k,l=acc++r∧r≠[]∧r'.map trN=r.map trN∧SR 0 d o s2 s2'∧n'≤k+n ∧
    ((p=false∧s2=s1∧listA ts' 16 (thr ts') (oneSt ts' f') n' acc' s'=(if standsP ts' 16 s2'=true then listA ts' 16 (thr ts') (oneSt ts' f') k (acc'++r') (takeP ts' s2') else some (.ok (acc'++r') s2'))) ∨
    (p=true∧s2.pos+1=e∧standsP ts 16 s2=true∧s1=takeP ts s2∧listA ts' 16 (thr ts') (oneSt ts' f') n' acc' s'=listA ts' 16 (thr ts') (oneSt ts' f') k (acc'++r') (takeP ts' s2'))):=by
 intro n
 induction n with
 | zero=>intro acc s h; cases h
 | succ n ih =>
  intro acc s h hs hne
  have hle:=(list_pg f (n+1) acc s hs l s1 h).1
  unfold listA at h
  rw [show thr ts s=(!standsP ts 18 s,s) from rfl] at h
  cases h18s:standsP ts 18 s with
  | true =>
   rw [h18s] at h
   injection h with h; injection h with h1 h2; subst h1
   exact absurd rfl hne
  | false =>
   rw [h18s] at h
   rw [Bool.not_false] at h
   dsimp only at h
   cases e1:oneSt ts f acc s with
   | none=>rw [e1] at h; cases h
   | some x =>
    rw [e1] at h
    cases x with
    | bad x=>injection h with h; cases h
    | ok a s2 =>
     dsimp only at h
     rw [if_neg (by decide)] at h
     obtain ⟨p1,p2⟩:=thr_pg (f:=f) acc s hs (by show (!standsP ts 18 s)=true; rw [h18s]; rfl) a s2 e1
     have hretd:retd acc=false:=by
      unfold oneSt at e1
      cases hr:retd acc with
      | true=>rw [hr] at e1; injection e1 with e1; cases e1
      | false=>rfl
     have est:statementP ts f s=some (.ok a s2):=by
      unfold oneSt at e1
      rw [if_neg (by rw [hretd]; decide)] at e1
      exact e1
     have step:∀ e0,s2.pos≤e0→∀ (ts':Ts) (d:Nat) (o:Bool) (f' n':Nat) (acc':List Nd) (s':Ps),Lo ts ts' 0 d e0→f≤f'→n+1≤n'→retd acc'=retd acc→SR 0 d o s s' →
       ∃ a' s2',trN a'=trN a∧SR 0 d o s2 s2'∧listA ts' 16 (thr ts') (oneSt ts' f') n' acc' s'=(if standsP ts' 16 s2'=true then listA ts' 16 (thr ts') (oneSt ts' f') (n' - 1) (acc'++[a']) (takeP ts' s2') else some (.ok (acc'++[a']) s2')):=by
      intro e0 hp2 ts' d o f' n' acc' s' H hf hn hra hS
      obtain ⟨a',s2',ea,hE,hS2⟩:=(lo_all (o:=o) H f).stmt f' s s' hf hs hS a s2 est hp2
      refine ⟨a',s2',hE,hS2,?_⟩
      obtain ⟨n',rfl⟩:∃ m,n'=m+1:=⟨n' - 1,by omega⟩
      have ht:thr ts' s'=(true,s'):=by
       unfold thr
       rw [H.stands_lt hS (by omega),h18s]
       rfl
      have eo:oneSt ts' f' acc' s'=some (.ok a' s2'):=by
       unfold oneSt
       rw [if_neg (by rw [hra,hretd]; decide)]
       exact ea
      conv=>lhs; unfold listA
      rw [ht]
      dsimp only
      rw [eo]
      dsimp only
      rw [if_neg (by decide)]
      unfold skipP
      by_cases c:standsP ts' 16 s2'=true
      ·rw [if_pos c,if_pos c]; rfl
      ·rw [if_neg c,if_neg c]
     unfold skipP at h
     by_cases c16:standsP ts 16 s2=true
     ·rw [if_pos c16] at h
      dsimp only at h
      have h3:=p2.take (by rw [stands_kind c16]; decide)
      have hle3:=(list_pg f n (acc++[a]) _ h3 l s1 h).1
      rw [take_pos] at hle3
      by_cases c18:standsP ts 18 (takeP ts s2)=true
      ·-- the list ends behind the point
       obtain ⟨n,rfl⟩:∃ m,n=m+1:=by
        cases n with
        | zero=>cases h
        | succ m=>exact ⟨m,rfl⟩
       unfold listA at h
       rw [show thr ts (takeP ts s2)=(!standsP ts 18 (takeP ts s2),takeP ts s2) from rfl,c18] at h
       injection h with h; injection h with h1 h2
       have hpe:s2.pos+1=e:=by rw [← hs1,← h2,take_pos]
       refine ⟨true,fun _=>⟨by omega,?_⟩,fun ts' d o f' n' acc' s' H hpt hf hn hra hS=>?_⟩
       ·have:=stands_kind c16
        unfold hdT at this
        rw [show e - 1=s2.pos by omega]
        exact this
       rw [if_pos rfl] at H
       obtain ⟨a',s2',hE,hS2,eq⟩:=step (e - 1) (by omega) ts' d o f' n' acc' s' H hf hn hra hS
       refine ⟨[a],[a'],s2,s2',n' - 1,h1.symm,by simp,by simp [hE],hS2,by omega,Or.inr ⟨rfl,hpe,c16,h2.symm,?_⟩⟩
       have h16':standsP ts' 16 s2'=true:=by
        unfold standsP
        rw [Lo.hdp hS2,show s2.pos=e - 1 by omega]
        exact decide_eq_true (hpt rfl)
       rw [eq,if_pos h16']
      ·have hth:(thr ts (takeP ts s2)).1=true:=by
        unfold thr
        have:standsP ts 18 (takeP ts s2)=false:=by simpa using c18
        rw [this]; rfl
       have hlen:=(listA_acc n _ _ _ _ h).2 hth
       obtain ⟨p,hp16,hall⟩:=ih (acc++[a]) _ h h3 hlen
       refine ⟨p,hp16,fun ts' d o f' n' acc' s' H hpt hf hn hra hS=>?_⟩
       have hstr:=((listA_pg (btw:=16) (there:=thr ts) (one:=oneSt ts f) (by decide) (fun s hs=>⟨Nat.le_refl _,hs⟩) thr_pg n (acc++[a]) _ h3).2 hth l s1 h).1
       rw [take_pos] at hstr
       have he0:s2.pos < (if p=true then e - 1 else e):=by split <;> omega
       obtain ⟨a',s2',hE,hS2,eq⟩:=step _ (Nat.le_of_lt he0) ts' d o f' n' acc' s' H hf hn hra hS
       have hk:a'.kind=a.kind:=(Lk.kids (a:=a') (b:=a) hE).2.2.2.2
       obtain ⟨r,r',s3,s3',k,q1,q2,q3,q4,q5,q6⟩:=hall ts' d o f' (n' - 1) (acc'++[a']) (takeP ts' s2') H hpt hf (by omega) (by rw [retd_snocU,retd_snocU,hk]) (H.take hS2 he0)
       refine ⟨a :: r,a' :: r',s3,s3',k,by rw [q1]; simp,by simp,by rw [List.map_cons,List.map_cons,hE,q3],q4,by omega,?_⟩
       have eq2:listA ts' 16 (thr ts') (oneSt ts' f') n' acc' s'=listA ts' 16 (thr ts') (oneSt ts' f') (n' - 1) (acc'++[a']) (takeP ts' s2'):=by
        rw [eq,if_pos (by rw [H.stands_lt hS2 he0]; exact c16)]
       rw [eq2]
       rw [show acc'++[a']++r'=acc'++a' :: r' by simp] at q6
       exact q6
     ·rw [if_neg c16] at h
      injection h with h; injection h with h1 h2
      refine ⟨false,fun h=>by (cases h),fun ts' d o f' n' acc' s' H hpt hf hn hra hS=>?_⟩
      obtain ⟨a',s2',hE,hS2,eq⟩:=step e (by rw [h2]; omega) ts' d o f' n' acc' s' H hf hn hra hS
      exact ⟨[a],[a'],s2,s2',n' - 1,h1.symm,by simp,by simp [hE],hS2,by omega,Or.inl ⟨rfl,h2,eq⟩⟩
theorem take_stop {ts:Ts} {s:Ps} (h:(hdT ts s).1.kind=18∨(hdT ts s).1.kind=16∨(hdT ts s).1.kind=9):(takeP ts s).code=s.code∧(takeP ts s).place=s.place:=by
 show (boundP (hdT ts s) s).code=s.code∧(boundP (hdT ts s) s).place=s.place
 unfold boundP
 rw [if_neg (by omega),if_neg (by omega),if_neg (by omega),if_neg (by omega)]
 split <;> exact ⟨rfl,rfl⟩
theorem doit_run {l:Bs} {ts:Ts} {t:Src} (h:LexR l ts 0 0) (hr:Reads false l (some t) 0 0):∃ f tm st s1,temporariesP ts (f+1) s0=some (.ok tm st)∧listA ts 16 (thr ts) (oneSt ts f) f [] st=some (.ok t.body s1)∧standsP ts 18 s1=true∧s1.code=0∧t.names=tm.map (·.1.text)∧Okq ts st∧Okq ts s1∧s1.opn=0:=by
 obtain ⟨ts2,c0,a0,h1,h2⟩:=hr
 obtain ⟨rfl,rfl,rfl⟩:=h.unique h1
 rcases h2 with ⟨h2,_⟩ | ⟨_,h2⟩
 ·exact absurd rfl h2
 rcases readP_cases h2 with ⟨x,_,h3,_⟩ | ⟨t',s,hx,hc⟩
 ·cases h3
 rcases hc with ⟨hc,h3,_,_⟩ | ⟨_,h3,_⟩
 rotate_left
 ·cases h3
 injection h3 with h3; subst h3
 have e:restP ts2 (fuelT ts2) [] s0=some (.ok t s):=hx
 obtain ⟨f,hf⟩:∃ f,fuelT ts2=f+1:=⟨fuelT ts2 - 1,by unfold fuelT; omega⟩
 rw [hf] at e
 unfold restP at e
 obtain ⟨tm,st,e1,e2⟩:=bindP_ok e
 obtain ⟨b,s2,e3,e4⟩:=bindP_ok e2
 injection e4 with e4; injection e4 with e4 e5
 subst e4; subst e5
 have hok:=h.okq.1
 have hst:=(temporaries_pq (f+1) hok tm st e1).2
 unfold bodyP at e3
 obtain ⟨b',s1,e5,e6⟩:=bindP_ok e3
 have e5':listA ts2 16 (thr ts2) (oneSt ts2 f) f [] st=some (.ok b' s1):=e5
 have hs1:=(list_pg f f [] st hst b' s1 e5').2
 unfold needP at e6
 by_cases c:standsP ts2 18 s1=true
 ·rw [if_pos c] at e6
  injection e6 with e6; injection e6 with e6 e7
  subst e6; subst e7
  refine ⟨f,tm,st,s1,e1,e5',c,?_,?_,hst,hs1,?_⟩
  ·rw [← (take_stop (ts:=ts2) (s:=s1) (Or.inl (stands_kind c))).1]; exact hc
  ·rfl
  ·have b1:=temporaries_bal (f+1) s0 tm st e1
   have b2:=listA_bal (btw:=16) (there:=thr ts2) (one:=oneSt ts2 f) (by decide) (fun s=>rfl) (fun acc s _=>by
    unfold oneSt
    split
    ·exact Bal.bad
    ·exact (bal_all ts2 f).stmt s) f [] st b' s1 e5'
   rw [b2,b1]; rfl
 ·rw [if_neg c] at e6; injection e6 with e6; cases e6
theorem doit_of {l:Bs} {ts:Ts} (h:LexR l ts 0 0) {f:Nat} {tm:Ts} {st s1:Ps} {b:List Nd} (h1:temporariesP ts (f+1) s0=some (.ok tm st)) (h2:listA ts 16 (thr ts) (oneSt ts f) f [] st=some (.ok b s1)) (h3:standsP ts 18 s1=true) :
  Reads false l (if s1.code=0 then some ⟨[],0,0,tm.map (·.1.text),tm.map (·.2),b⟩ else none) s1.code (if s1.code=0 then 0 else s1.place):=by
 have hw:wholeP false ts (f+1) s0=some (.ok ⟨[],0,0,tm.map (·.1.text),tm.map (·.2),b⟩ (takeP ts s1)):=by
  show restP ts (f+1) [] s0=_
  unfold restP
  rw [h1]
  show bindP (bodyP ts (f+1) 18 st) _=_
  have e:bodyP ts (f+1) 18 st=some (.ok b (takeP ts s1)):=by
   unfold bodyP
   have h2':listA ts 16 (fun s=>(!standsP ts 18 s,s)) (fun acc s=>if retd acc=true then some (.bad (hdT ts s)) else statementP ts f s) f [] st=some (.ok b s1):=h2
   rw [h2']
   show (match needP ts 18 s1 with | .bad x=>_ | .ok _ s2=>_)=_
   unfold needP
   rw [if_pos h3]
  rw [e]
  rfl
 have:=Reads.of h hw
 obtain ⟨k1,k2⟩:=take_stop (ts:=ts) (s:=s1) (Or.inl (stands_kind h3))
 rw [k1,k2] at this
 exact this
theorem list_up {ts:Ts} {f f' n n':Nat} {acc:List Nd} {s:Ps} {x:Rs (List Nd)} (hf:f≤f') (hn:n≤n') (h:listA ts 16 (thr ts) (oneSt ts f) n acc s=some x):listA ts 16 (thr ts) (oneSt ts f') n' acc s=some x:=listA_up (fun acc s x h=>up_st ts f f' acc s x hf h) n n' acc s x hn h
theorem sh_zero (us:Ts):Lx.sh 0 us=us:=by
 unfold Lx.sh
 induction us with
 | nil=>rfl
 | cons x r ih=>rw [List.map_cons,ih]; rfl
theorem getD_app1 (us:Ts) (x:Tok × Nat) (r:Ts):(us++x :: r).getD us.length noTk=x:=by
 rw [List.getD_eq_getElem?_getD,List.getElem?_append_right (Nat.le_refl _),Nat.sub_self]; rfl
theorem getD_app0 (us r:Ts) (i:Nat) (hi:i < us.length):(us++r).getD i noTk=us[i]:=by
 rw [List.getD_eq_getElem?_getD,List.getElem?_append_left hi,List.getElem?_eq_getElem hi]; rfl
theorem getD_app2 (us r:Ts) (i:Nat):(us++r).getD (us.length+i) noTk=r.getD i noTk:=by
 rw [List.getD_eq_getElem?_getD,List.getElem?_append_right (by omega),List.getD_eq_getElem?_getD,Nat.add_sub_cancel_left]
theorem hd_atU {ts:Ts} {s:Ps} {i:Nat} (h:s.pos=i):hdT ts s=ts.getD i noTk:=by unfold hdT; rw [h]
theorem stands_at {ts:Ts} {s:Ps} {i k:Nat} (h:s.pos=i):standsP ts k s=decide ((ts.getD i noTk).1.kind=k):=by unfold standsP hdT; rw [h]
theorem Lx.kinds {p:Nat} {l:Bs} {us:Ts} {e:Option Nat} (h:Lx p l us e) (i:Nat) (hi:i < us.length):1≤us[i].1.kind∧us[i].1.kind≤17:=by have c2:=(h.can us[i] (List.getElem_mem hi)).2; omega
theorem point_lx (q:Nat) {R:Bs} {ts:Ts} {e:Option Nat} (h:Lx (q+3) R ts e):Lx q (32 :: 46 :: 32 :: R) ((⟨16,[],0⟩,q+1) :: ts) e:=by
 refine Lx.pass _ _ 1 _ _ (by unfold cut; rfl) ?_
 refine Lx.tok _ _ ⟨16,[],0⟩ 1 _ _ (by rfl) ?_
 exact Lx.pass _ _ 1 _ _ (by unfold cut; rfl) h
theorem blank_lx (q:Nat) {R:Bs} {ts:Ts} {e:Option Nat} (h:Lx (q+1) R ts e):Lx q (32 :: R) ts e:=Lx.pass _ _ 1 _ _ (by unfold cut; rfl) h
theorem gs_blank (R:Bs):Gs (32 :: R):=Or.inr (Or.inl rfl)
theorem stop_pos {us:Ts} {x:Tok × Nat} {s:Ps} (hu:∀ i (hi:i < us.length),us[i].1.kind≠18) (hx:x.1.kind=18) (h:standsP (us++[x]) 18 s=true):s.pos=us.length:=by
 have hk:=stands_kind h
 unfold hdT at hk
 by_cases h1:s.pos < us.length
 ·rw [getD_app0 us _ _ h1] at hk
  exact absurd hk (hu _ h1)
 ·by_cases h2:s.pos=us.length
  ·exact h2
  ·rw [List.getD_eq_getElem?_getD,List.getElem?_eq_none (by simp; omega)] at hk
   cases hk
theorem temporaries_none {ts:Ts} {f:Nat} {s:Ps} (h:(hdT ts s).1.kind≠12):temporariesP ts f s=some (.ok [] s):=by
 unfold temporariesP skipP
 have:standsP ts 12 s=false:=decide_eq_false h
 rw [this]
 rfl
theorem list_stop {ts:Ts} {f k:Nat} {acc:List Nd} {s:Ps} (h:standsP ts 18 s=true) (hk:0 < k):listA ts 16 (thr ts) (oneSt ts f) k acc s=some (.ok acc s):=by
 obtain ⟨k,rfl⟩:∃ m,k=m+1:=⟨k - 1,by omega⟩
 unfold listA
 rw [show thr ts s=(!standsP ts 18 s,s) from rfl,h]
 rfl
def Good (l1 mid l2:Bs) (a b:Src):Prop:=∃ t,Reads false (l1++(mid++l2)) (some t) 0 0∧t.body.map trN=a.body.map trN++b.body.map trN∧t.names.length=a.names.length
theorem second_ok {l2:Bs} {us2:Ts} (h2:LexR l2 (us2++[(stopT,l2.length)]) 0 0) (hx2:Lx 0 l2 us2 Option.none) {b:Src} (r2:Reads false l2 (some b) 0 0) (hb:((us2++[(stopT,l2.length)]).getD 0 noTk).1.kind≠12) :
  ∃ f2,∀ (pre:Ts) (q z:Nat) (f' k:Nat) (acc':List Nd) (s':Ps),f2≤f'→f2≤k→retd acc'=false→s'.pos=pre.length→s'.opn=0→s'.code=0 →
   ∃ r' sF,listA (pre++(Lx.sh q us2++[(stopT,z)])) 16 (thr (pre++(Lx.sh q us2++[(stopT,z)]))) (oneSt (pre++(Lx.sh q us2++[(stopT,z)])) f') k acc' s'=some (.ok (acc'++r') sF)∧r'.map trN=b.body.map trN∧sF.pos=pre.length+us2.length∧sF.code=0:=by
 obtain ⟨f2,tm,st,s1,e1,e2,e3,e4,e5,e6,e7,e8⟩:=doit_run h2 r2
 have hst:hdT (us2++[(stopT,l2.length)]) s0=(us2++[(stopT,l2.length)]).getD 0 noTk:=rfl
 rw [temporaries_none (by rw [hst]; exact hb)] at e1
 injection e1 with e1; injection e1 with e1 e9
 subst e9
 have hu:∀ i (hi:i < us2.length),us2[i].1.kind≠18:=fun i hi=>by have:=hx2.kinds i hi; omega
 have hs1:=stop_pos hu rfl e3
 refine ⟨f2+1,fun pre q z f' k acc' s' hf hk hra hp ho hc=>?_⟩
 have hS:SR 0 pre.length false s0 s':=⟨Nat.zero_le _,by rw [hp]; simp [s0],by rw [ho]; rfl,fun _=>Or.inl hc⟩
 have hend:∀ s:Ps,s.pos=pre.length+us2.length→standsP (pre++(Lx.sh q us2++[(stopT,z)])) 18 s=true∧standsP (pre++(Lx.sh q us2++[(stopT,z)])) 16 s=false:=by
  intro s hs
  rw [stands_at hs,stands_at hs,getD_app2,show us2.length=(Lx.sh q us2).length by rw [sh_len],getD_app1]
  exact ⟨rfl,rfl⟩
 by_cases hl:b.body.length=([]:List Nd).length
 ·have hbn:b.body=[]:=List.length_eq_zero_iff.1 hl
  have hstop:standsP (us2++[(stopT,l2.length)]) 18 s0=true:=by
   by_cases c:standsP (us2++[(stopT,l2.length)]) 18 s0=true
   ·exact c
   ·exfalso
    have c':standsP (us2++[(stopT,l2.length)]) 18 s0=false:=by simpa using c
    exact (listA_acc _ _ _ _ _ e2).2 (by show (!standsP _ 18 s0)=true; rw [c']; rfl) hl
  have h0:=stop_pos hu rfl hstop
  have hpos:s'.pos=pre.length+us2.length:=by rw [hp,← h0]; rfl
  exact ⟨[],s',by rw [list_stop (hend s' hpos).1 (by omega)]; simp,by rw [hbn],hpos,hc⟩
 ·obtain ⟨p,hp16,hall⟩:=pre_list (f:=f2) (e:=us2.length) (ts:=us2++[(stopT,l2.length)]) (fun i hi=>by rw [getD_app0 us2 _ i hi]; exact hu i hi) (by rw [getD_app1]; rfl) hs1 f2 [] s0 e2 e6 hl
  have H:Lo (us2++[(stopT,l2.length)]) (pre++(Lx.sh q us2++[(stopT,z)])) 0 pre.length us2.length:=Lo.of term18 term18
  have H2:Lo (us2++[(stopT,l2.length)]) (pre++(Lx.sh q us2++[(stopT,z)])) 0 pre.length (if p=true then us2.length - 1 else us2.length):=by
   split
   ·rename_i hpt; exact H.pred (hp16 hpt).1 (hp16 hpt).2
   ·exact H
  obtain ⟨r,r',s2,s2',k2,q1,q2,q3,q4,q5,q6⟩:=hall _ _ false f' k acc' s' H2 (fun hpt=>by rw [H.tok _ (Nat.zero_le _) (by have:=hp16 hpt; omega)]; exact (hp16 hpt).2) (by omega) (by omega) hra hS
  rw [List.nil_append] at q1
  rcases q6 with ⟨_,q7,q8⟩ | ⟨_,q7,q8,q9,q10⟩
  ·subst q7
   have hpos:s2'.pos=pre.length+us2.length:=by rw [q4.pos,hs1]; omega
   rw [(hend s2' hpos).2,if_neg (by decide)] at q8
   refine ⟨r',s2',q8,by rw [q3,q1],hpos,?_⟩
   rcases q4.code e4 with h | ⟨h,_⟩
   ·exact h
   ·cases h
  ·have hpos:(takeP (pre++(Lx.sh q us2++[(stopT,z)])) s2').pos=pre.length+us2.length:=by rw [take_pos,q4.pos]; omega
   have hk16:(hdT (pre++(Lx.sh q us2++[(stopT,z)])) s2').1.kind=16:=by
    rw [Lo.hdp q4,H.tok _ (Nat.zero_le _) (by omega)]
    exact stands_kind q8
   refine ⟨r',_,by rw [q10,list_stop (hend _ hpos).1 (by omega)],by rw [q3,q1],hpos,?_⟩
   rw [(take_stop (Or.inr (Or.inl hk16))).1]
   have hc2:s2.code=0:=by rw [← (take_stop (ts:=us2++[(stopT,l2.length)]) (s:=s2) (Or.inr (Or.inl (stands_kind q8)))).1,← q9]; exact e4
   rcases q4.code hc2 with h | ⟨h,_⟩
   ·exact h
   ·cases h
theorem code_up {s s':Ps} {lo d:Nat} (h:SR lo d false s s') (hc:s.code=0):s'.code=0:=by
 rcases h.code hc with h | ⟨h,_⟩
 ·exact h
 ·cases h
theorem stmt_first {ts:Ts} {f:Nat} {s:Ps} {n:Nd} {s1:Ps} (h:statementP ts f s=some (.ok n s1)):(hdT ts s).1.kind≠16:=by
 intro hk
 cases f with
 | zero=>unfold statementP at h; cases h
 | succ f =>
  unfold statementP at h
  rw [if_neg (by unfold standsP; rw [hk]; decide)] at h
  cases f with
  | zero=>unfold expressionP at h; cases h
  | succ f =>
   unfold expressionP at h
   rw [if_neg (fun c=>by have:=stands_kind c.1; omega)] at h
   cases f with
   | zero=>unfold cascadeP at h; cases h
   | succ f =>
    unfold cascadeP at h
    obtain ⟨x,s2,e1,_⟩:=bindP_ok h
    cases f with
    | zero=>unfold sendsP at e1; cases e1
    | succ f =>
     unfold sendsP at e1
     obtain ⟨y,s3,e2,_⟩:=bindP_ok e1
     cases f with
     | zero=>unfold primaryP at e2; cases e2
     | succ f =>
      unfold primaryP at e2
      rw [if_neg (by omega),if_neg (by omega),if_neg (by omega)] at e2
      cases f with
      | zero=>unfold literalP at e2; cases e2
      | succ f =>
       unfold literalP at e2
       rw [if_neg (by omega),if_neg (by omega),if_neg (by omega),if_neg (by omega)] at e2
       injection e2 with e2; cases e2
theorem no_two {ts:Ts} {f k:Nat} {acc l:List Nd} {s s1:Ps} (h16:(hdT ts s).1.kind=16) (h:listA ts 16 (thr ts) (oneSt ts f) k acc s=some (.ok l s1)):False:=by
 cases k with
 | zero=>cases h
 | succ k =>
  unfold listA at h
  rw [show thr ts s=(!standsP ts 18 s,s) from rfl,show standsP ts 18 s=false by unfold standsP; rw [h16]; rfl] at h
  rw [Bool.not_false] at h
  dsimp only at h
  cases e:oneSt ts f acc s with
  | none=>rw [e] at h; cases h
  | some x =>
   rw [e] at h
   cases x with
   | bad x=>injection h with h; cases h
   | ok a s2 =>
    unfold oneSt at e
    split at e
    ·injection e with e; cases e
    ·exact stmt_first e h16
theorem Reads.code0 {m:Bool} {l:Bs} {r:Option Src} {a:Nat} (h:Reads m l r 0 a):∃ t,r=some t∧a=0:=by
 obtain ⟨ts,c0,a0,h1,h2⟩:=h
 rcases h2 with ⟨h2,_,h3,_⟩ | ⟨_,h2⟩
 ·exact absurd h3.symm h2
 rcases readP_cases h2 with ⟨x,_,_,h3,_⟩ | ⟨t,s,_,⟨_,h3,_,h4⟩ | ⟨h3,_,h4,_⟩⟩
 ·cases h3
 ·exact ⟨t,h3,h4⟩
 ·exact absurd h4.symm h3
theorem joined_pure {l1:Bs} {ts1:Ts} {a:Src} (h1:LexR l1 ts1 0 0) (r1:Reads false l1 (some a) 0 0) (ho:a.body≠[]) (hr:retd a.body=false) (hl1:l1.length+4≤4096) :
  ∃ p:Bool,(∀ (l2:Bs) (ts2:Ts) (b:Src),LexR l2 ts2 0 0→Reads false l2 (some b) 0 0→(ts2.getD 0 noTk).1.kind≠12→l1.length+l2.length+3≤4096→(p=false→Good l1 [32,46,32] l2 a b)∧(p=true→Good l1 [32] l2 a b)) ∧
   (p=true→∀ r c a',Reads false (l1++[32,46,32,120]) r c a'→c≠0):=by
 obtain ⟨_,us1,hx1,rfl⟩:=h1.tok
 obtain ⟨f1,tm,st,s1,e1,e2,e3,e4,e5,e6,e7,e8⟩:=doit_run h1 r1
 have hu:∀ i (hi:i < us1.length),us1[i].1.kind≠18:=fun i hi=>by have:=hx1.kinds i hi; omega
 have hs1:=stop_pos hu rfl e3
 have hbl:a.body.length≠([]:List Nd).length:=fun h=>ho (List.length_eq_zero_iff.1 h)
 obtain ⟨p,hp16,hall⟩:=pre_list (f:=f1) (e:=us1.length) (ts:=us1++[(stopT,l1.length)]) (fun i hi=>by rw [getD_app0 us1 _ i hi]; exact hu i hi) (by rw [getD_app1]; rfl) hs1 f1 [] st e2 e6 hbl
 have hstle:st.pos < us1.length:=by
  have:=((listA_pg (btw:=16) (there:=thr (us1++[(stopT,l1.length)])) (one:=oneSt (us1++[(stopT,l1.length)]) f1) (by decide) (fun s hs=>⟨Nat.le_refl _,hs⟩) thr_pg f1 [] st e6).2 ?_ a.body s1 e2).1
  ·omega
  ·by_cases c:standsP (us1++[(stopT,l1.length)]) 18 st=true
   ·exfalso
    have h0:0 < f1:=by
     cases f1 with
     | zero=>cases e2
     | succ n=>omega
    rw [list_stop c h0] at e2
    injection e2 with e2; injection e2 with e2 _
    exact ho e2.symm
   ·have c':standsP (us1++[(stopT,l1.length)]) 18 st=false:=by simpa using c
    show (!standsP _ 18 st)=true
    rw [c']; rfl
 have first:∀ (y:Tok × Nat) (post:Ts),p=false→y.1.kind=16→∀ F,f1≤F→∃ tm' st' r' s' k,temporariesP (us1++y :: post) (F+1) s0=some (.ok tm' st')∧tm'.length=tm.length∧r'.map trN=a.body.map trN∧s'.pos=us1.length+1∧s'.opn=0∧s'.code=0∧F≤k+f1 ∧
   listA (us1++y :: post) 16 (thr (us1++y :: post)) (oneSt (us1++y :: post) F) F [] st'=listA (us1++y :: post) 16 (thr (us1++y :: post)) (oneSt (us1++y :: post) F) k r' s':=by
  intro y post hpf hy F hF
  have H:Lo (us1++[(stopT,l1.length)]) (us1++y :: post) 0 0 us1.length:=by
   have:=Lo.of (us:=us1) (pre:=[]) (post:=post) (rest:=[]) (a:=0) (x:=(stopT,l1.length)) (y:=y) term18 (by rw [hy]; exact term16)
   rw [sh_zero] at this
   exact this
  have hS0:SR 0 0 false s0 s0:=⟨Nat.zero_le _,rfl,rfl,fun h=>Or.inl h⟩
  obtain ⟨tm',st',t1,t2,t3⟩:=temporaries_lo H (f1+1) (F+1) (by omega) h1.okq.1 hS0 tm st e1 (by omega)
  obtain ⟨r,r',s2,s2',k,q1,q2,q3,q4,q5,q6⟩:=hall _ 0 false F F [] st' (by rw [hpf,if_neg (by decide)]; exact H) (fun h=>by rw [hpf] at h; cases h) hF hF rfl t3
  rcases q6 with ⟨_,q7,q8⟩ | ⟨q7,_⟩
  rotate_left
  ·rw [hpf] at q7; cases q7
  subst q7
  have hk:(hdT (us1++y :: post) s2').1.kind=16:=by rw [Lo.hdp q4,hs1,Nat.add_zero,getD_app1]; exact hy
  have hst:standsP (us1++y :: post) 16 s2'=true:=decide_eq_true hk
  rw [hst,if_pos rfl] at q8
  refine ⟨tm',st',r',takeP (us1++y :: post) s2',k,t1,by have:=congrArg List.length t2; simpa using this,by rw [q3]; exact congrArg (List.map trN) q1.symm,by rw [take_pos,q4.pos,hs1],?_,?_,q5,q8⟩
  ·rw [take_opnK hst (by decide),q4.opn,e8]; rfl
  ·rw [(take_stop (Or.inr (Or.inl hk))).1]; exact code_up q4 e4
 have firstP:∀ (rest:Ts),p=true→∀ F,f1≤F→∃ tm' st' r' s' k,temporariesP (us1++rest) (F+1) s0=some (.ok tm' st')∧tm'.length=tm.length∧r'.map trN=a.body.map trN∧s'.pos=us1.length∧s'.opn=0∧s'.code=0∧F≤k+f1 ∧
   listA (us1++rest) 16 (thr (us1++rest)) (oneSt (us1++rest) F) F [] st'=listA (us1++rest) 16 (thr (us1++rest)) (oneSt (us1++rest) F) k r' s':=by
  intro rest hpt F hF
  obtain ⟨hp0,hpk⟩:=hp16 hpt
  rw [getD_app0 us1 _ _ (by omega)] at hpk
  obtain ⟨vs,x,hvs⟩:∃ vs x,us1=vs++[x]:=⟨us1.dropLast,us1.getLast (by rintro rfl; simp at hp0),(List.dropLast_concat_getLast _).symm⟩
  have hxk:x.1.kind=16:=by
   subst hvs
   have:(vs++[x])[(vs++[x]).length - 1]'(by omega)=x:=by simp
   rw [this] at hpk
   exact hpk
  have hvl:us1.length - 1=vs.length:=by rw [hvs]; simp
  have H:Lo (us1++[(stopT,l1.length)]) (us1++rest) 0 0 (us1.length - 1):=by
   have:=Lo.of (us:=vs) (pre:=[]) (post:=rest) (rest:=[(stopT,l1.length)]) (a:=0) (x:=x) (y:=x) (by rw [hxk]; exact term16) (by rw [hxk]; exact term16)
   rw [sh_zero] at this
   rw [hvl,hvs]
   simpa using this
  have hS0:SR 0 0 false s0 s0:=⟨Nat.zero_le _,rfl,rfl,fun h=>Or.inl h⟩
  obtain ⟨tm',st',t1,t2,t3⟩:=temporaries_lo H (f1+1) (F+1) (by omega) h1.okq.1 hS0 tm st e1 (by omega)
  have hpt16:((us1++rest).getD (us1.length - 1+0) noTk).1.kind=16:=by rw [Nat.add_zero,getD_app0 us1 _ _ (by omega)]; exact hpk
  obtain ⟨r,r',s2,s2',k,q1,q2,q3,q4,q5,q6⟩:=hall _ 0 false F F [] st' (by rw [hpt,if_pos rfl]; exact H) (fun _=>hpt16) hF hF rfl t3
  rcases q6 with ⟨q7,_⟩ | ⟨_,q7,q8,q9,q10⟩
  ·rw [hpt] at q7; cases q7
  have hk:(hdT (us1++rest) s2').1.kind=16:=by rw [Lo.hdp q4,show s2.pos=us1.length - 1 by omega]; exact hpt16
  have hst:standsP (us1++rest) 16 s2'=true:=decide_eq_true hk
  have hc2:s2.code=0:=by rw [← (take_stop (ts:=us1++[(stopT,l1.length)]) (s:=s2) (Or.inr (Or.inl (stands_kind q8)))).1,← q9]; exact e4
  have ho2:s2.opn=0:=by rw [← take_opnK q8 (by decide),← q9]; exact e8
  refine ⟨tm',st',r',takeP (us1++rest) s2',k,t1,by have:=congrArg List.length t2; simpa using this,by rw [q3]; exact congrArg (List.map trN) q1.symm,by rw [take_pos,q4.pos]; omega,?_,?_,q5,q10⟩
  ·rw [take_opnK hst (by decide),q4.opn,ho2]; rfl
  ·rw [(take_stop (Or.inr (Or.inl hk))).1]; exact code_up q4 hc2
 have hretd:∀ r':List Nd,r'.map trN=a.body.map trN→retd r'=false:=fun r' h=>by rw [LkL.last (l:=r') (m:=a.body) h]; exact hr
 refine ⟨p,fun l2 ts2 b h2 r2 hb hl=>⟨fun hpf=>?_,fun hpt=>?_⟩,fun hpt r c a' hR hc=>?_⟩
 ·-- a point between
  obtain ⟨_,us2,hx2,rfl⟩:=h2.tok
  obtain ⟨f2,hsec⟩:=second_ok h2 hx2 r2 hb
  have hx:Lx 0 (l1++(32 :: 46 :: 32 :: l2)) (us1++((⟨16,[],0⟩,l1.length+1) :: Lx.sh (l1.length+3) us2)) Option.none:=by
   refine hx1.join (gs_blank _) rfl ?_
   rw [Nat.zero_add]
   have:=hx2.shift (l1.length+3)
   rw [Nat.zero_add] at this
   exact point_lx _ this
  have hL:=LexR.mkU (l:=l1++(32 :: 46 :: 32 :: l2)) (by simp; omega) hx
  obtain ⟨z,hz⟩:∃ z,z=(l1++(32 :: 46 :: 32 :: l2)).length:=⟨_,rfl⟩
  rw [← hz] at hL
  obtain ⟨y,hy⟩:∃ y:Tok × Nat,y=(⟨16,[],0⟩,l1.length+1):=⟨_,rfl⟩
  rw [← hy] at hL
  have ets:us1++(y :: Lx.sh (l1.length+3) us2)++[(stopT,z)]=us1++y :: (Lx.sh (l1.length+3) us2++[(stopT,z)]):=by simp
  rw [ets] at hL
  obtain ⟨tm',st',r',s',k,t1,t2,t3,t4,t5,t6,t7,t8⟩:=first y (Lx.sh (l1.length+3) us2++[(stopT,z)]) hpf (by rw [hy]) (f1+f2) (by omega)
  obtain ⟨r2',sF,u1,u2,u3,u4⟩:=hsec (us1++[y]) (l1.length+3) z (f1+f2) k r' s' (by omega) (by omega) (hretd r' t3) (by rw [t4]; simp) t5 t6
  have ets2:us1++[y]++(Lx.sh (l1.length+3) us2++[(stopT,z)])=us1++y :: (Lx.sh (l1.length+3) us2++[(stopT,z)]):=by simp
  rw [ets2] at u1
  have hend:standsP (us1++y :: (Lx.sh (l1.length+3) us2++[(stopT,z)])) 18 sF=true:=by
   rw [← ets2,stands_at u3,getD_app2,show us2.length=(Lx.sh (l1.length+3) us2).length by rw [sh_len],getD_app1]; rfl
  have hR:=doit_of hL t1 (by rw [t8]; exact u1) hend
  rw [u4] at hR
  refine ⟨_,hR,?_,?_⟩
  ·show (r'++r2').map trN=_
   rw [List.map_append,t3,u2]
  ·show (tm'.map _).length=_
   rw [e5,List.length_map,List.length_map,t2]
 ·-- a blank between
  obtain ⟨_,us2,hx2,rfl⟩:=h2.tok
  obtain ⟨f2,hsec⟩:=second_ok h2 hx2 r2 hb
  have hx:Lx 0 (l1++(32 :: l2)) (us1++Lx.sh (l1.length+1) us2) Option.none:=by
   refine hx1.join (gs_blank _) rfl ?_
   rw [Nat.zero_add]
   have:=hx2.shift (l1.length+1)
   rw [Nat.zero_add] at this
   exact blank_lx _ this
  have hL:=LexR.mkU (l:=l1++(32 :: l2)) (by simp; omega) hx
  obtain ⟨z,hz⟩:∃ z,z=(l1++(32 :: l2)).length:=⟨_,rfl⟩
  rw [← hz] at hL
  rw [List.append_assoc] at hL
  obtain ⟨tm',st',r',s',k,t1,t2,t3,t4,t5,t6,t7,t8⟩:=firstP (Lx.sh (l1.length+1) us2++[(stopT,z)]) hpt (f1+f2) (by omega)
  obtain ⟨r2',sF,u1,u2,u3,u4⟩:=hsec us1 (l1.length+1) z (f1+f2) k r' s' (by omega) (by omega) (hretd r' t3) t4 t5 t6
  have hend:standsP (us1++(Lx.sh (l1.length+1) us2++[(stopT,z)])) 18 sF=true:=by
   rw [stands_at u3,getD_app2,show us2.length=(Lx.sh (l1.length+1) us2).length by rw [sh_len],getD_app1]; rfl
  have hR:=doit_of hL t1 (by rw [t8]; exact u1) hend
  rw [u4] at hR
  refine ⟨_,hR,?_,?_⟩
  ·show (r'++r2').map trN=_
   rw [List.map_append,t3,u2]
  ·show (tm'.map _).length=_
   rw [e5,List.length_map,List.length_map,t2]
 ·-- two points
  subst hc
  obtain ⟨t,rfl,rfl⟩:=hR.code0
  have hx:Lx 0 (l1++[32,46,32,120]) (us1++[(⟨16,[],0⟩,l1.length+1),(⟨1,[120],0⟩,l1.length+3)]) Option.none:=by
   refine hx1.join (gs_blank _) rfl ?_
   rw [Nat.zero_add]
   exact point_lx _ (Lx.tok _ _ ⟨1,[120],0⟩ 1 _ _ (by rfl) (Lx.stop _))
  have hL:=LexR.mkU (l:=l1++[32,46,32,120]) (by simp; omega) hx
  rw [List.append_assoc] at hL
  obtain ⟨fX,tmX,stX,sX,x1,x2,x3,_⟩:=doit_run hL hR
  obtain ⟨tm',st',r',s',k,t1,t2,t3,t4,t5,t6,t7,t8⟩:=firstP _ hpt (f1+fX) (by omega)
  have y1:=temporaries_up (n':=f1+fX+1) (by omega) x1
  rw [t1] at y1
  injection y1 with y1; injection y1 with _ y1; subst y1
  have y2:=list_up (f':=f1+fX) (n':=f1+fX) (by omega) (by omega) x2
  rw [t8] at y2
  refine no_two ?_ y2
  rw [hd_atU t4,List.cons_append,getD_app1]
end Go.Proofs.YtfhkhmgodkheaaaGreatDoor
namespace Go.Proofs.YtfhkhmgodkheaaaGreatDoor
open Go.RowKit Go.Maps
theorem ba_tl (a b:Bs):((ba a).toList == (ba b).toList)=decide (a=b):=by
 rw [tl_lst,tl_lst,lst_ba,lst_ba]
 rw [Bool.eq_iff_iff]
 simp
theorem list_ext_getD {l l':List Bs} (hn:l.length=l'.length) (h:∀ j,j < l.length→l.getD j []=l'.getD j []):l=l':=by
 refine List.ext_getElem hn (fun i h1 h2=>?_)
 have:=h i h1
 rw [List.getD_eq_getElem?_getD,List.getD_eq_getElem?_getD,List.getElem?_eq_getElem h1,List.getElem?_eq_getElem h2] at this
 exact this
theorem sameTexts_ok (v v':Value) (l l':List Bs) (w:World) (h:RdS w v l) (h':RdS w v' l') (hl:l.length≤140737488355328) (hl':l'.length≤140737488355328):Calls Tryz.prog 26 #[v,v'] w (RB (decide (l=l')) w):=by
 obtain ⟨p,c,rfl,hc,hp⟩:=h
 obtain ⟨p',c',rfl,hc',hp'⟩:=h'
 by_cases hn:l.length=l'.length
 rotate_left
 ·have hne:¬ ((l.length:Int)=l'.length):=by omega
  have hne2:((l.length:Int) != l'.length)=true:=by simp; omega
  have hE:Hid (decide (l=l')=false):=mkHid (decide_eq_false (fun e=>hn (by rw [e])))
  generalize l.length=n at *
  generalize l'.length=n' at *
  clear hp hp' hn
  go_enter Tryz.func26,Tryz.ntmps26
  go_wp2_with fail
  go_ret
  exact ⟨by rw [hE.out]; rfl,Bl.refl _⟩
 have HP:=mkHid hp
 have HP':=mkHid hp'
 have HX:=mkHid (@list_ext_getD l l' hn)
 have HL:Hid (∀ j,l.getD j []≠l'.getD j []→decide (l=l')=false):=mkHid (fun j h=>decide_eq_false (fun e=>h (by rw [e])))
 have HD:=mkHid (decide_eq_true (p:=l=l'))
 rw [← hn] at HP' hc' ⊢
 generalize hG:l.length=n at *
 generalize decide (l=l')=BB at *
 clear hp hp' hn
 go_enter Tryz.func26,Tryz.ntmps26
 go_wp2_with fail
 go_loopw [5] (fun q wr=>∃ i:Nat,i≤n∧q=.int .i64 i∧Hid (∀ j,j < i→l.getD j []=l'.getD j [])∧Hid (Bl w wr)) (fun q _=>n - (intOf q).toNat)
 case atStart=>exact ⟨0,Nat.zero_le _,rfl,mkHid (fun j hj=>by omega),mkHid (Bl.refl _)⟩
 case round =>
  obtain ⟨i,hi,rfl,hok,hbl⟩:=hrel
  by_cases hin:i < n
  ·have hii:(i:Int) < n:=by omega
   obtain ⟨b,off,rfl,hb,hcs⟩:=HP.out (by omega)
   obtain ⟨b',off',rfl,hb',hcs'⟩:=HP'.out (by omega)
   have x0:wr.cell? ⟨b,off+i,none⟩=some (.string (ba (l.getD i []))):=by rw [World.cell?_of_block (w:=w) (hbl.out.block b hb)]; exact hcs i hin
   have y0:wr.cell? ⟨b',off'+i,none⟩=some (.string (ba (l'.getD i []))):=by rw [World.cell?_of_block (w:=w) (hbl.out.block b' hb')]; exact hcs' i (by omega)
   have hS:=HL.out i
   have hT:=ba_tl (l.getD i []) (l'.getD i [])
   have hJ:Hid (l.getD i []=l'.getD i []→∀ j,j < i+1→l.getD j []=l'.getD j []):=mkHid (fun h j hj=>by
    by_cases he:j=i
    ·rw [he,h]
    ·exact hok.out j (by omega))
   clear HX HL HP HP' hcs hcs' hok HD
   generalize l.getD i []=s at *
   generalize l'.getD i []=t at *
   by_cases hst:s=t
   ·rw [decide_eq_true hst] at hT
    have hJ2:=mkHid (hJ.out hst)
    clear hJ hS hst hb hb'
    generalize ba s=S at *
    generalize ba t=T at *
    go_wp2_with fail
    go_quiet (fail)
    go_wp2_with fail
    go_roundw
    case rel=>exact ⟨i+1,by omega,by go_num,hJ2,mkHid (hbl.out.trans (Bl.drewN _ _))⟩
    case measure=>simp [intOf]; omega
   ·rw [decide_eq_false hst] at hT
    have hE:=mkHid (hS hst)
    clear hJ hS hst hb hb'
    generalize ba s=S at *
    generalize ba t=T at *
    go_wp2_with fail
    go_quiet (fail)
    go_wp2_with fail
    go_ret
    exact ⟨by rw [hE.out]; rfl,hbl.out.trans (Bl.drewN _ _)⟩
  ·have hie:¬ (i:Int) < n:=by omega
   have hE:Hid (BB=true):=mkHid (HD.out (HX.out (fun j hj=>hok.out j (by omega))))
   clear HX HL HP HP' HD hok
   go_wp2_with fail
   go_ret
   exact ⟨by rw [hE.out]; rfl,hbl.out⟩
end Go.Proofs.YtfhkhmgodkheaaaGreatDoor
