import Derived.Test.YtfhkhmgodkheaaaGreatDoorQBULo
set_option linter.unusedSimpArgs false
set_option linter.unusedVariables false
namespace Go.Proofs.YtfhkhmgodkheaaaGreatDoor
theorem bindP_up {α β:Type} {r r':Option (Rs α)} {k k':α→Ps→Option (Rs β)} (hr:∀ x,r=some x→r'=some x) (hk:∀ a s x,k a s=some x→k' a s=some x) {x:Rs β} (h:bindP r k=some x):bindP r' k'=some x:=by
 cases e:r with
 | none=>rw [e] at h; cases h
 | some y =>
  rw [e] at h
  rw [hr y e]
  cases y with
  | bad z=>exact h
  | ok a s=>exact hk a s x h
theorem listA_up {α:Type} {ts:Ts} {btw:Nat} {there:Ps→Bool × Ps} {one one':List α→Ps→Option (Rs α)} (ho:∀ acc s x,one acc s=some x→one' acc s=some x):∀ (n n':Nat) (acc:List α) (s:Ps) (x:Rs (List α)),n≤n'→listA ts btw there one n acc s=some x→listA ts btw there one' n' acc s=some x:=by
 intro n
 induction n with
 | zero=>intro n' acc s x _ h; cases h
 | succ n ih =>
  intro n' acc s x hn h
  obtain ⟨n',rfl⟩:∃ m,n'=m+1:=⟨n' - 1,by omega⟩
  unfold listA at h ⊢
  cases ht:there s with
  | mk b s1 =>
   rw [ht] at h
   cases b with
   | false=>exact h
   | true =>
    dsimp only at h ⊢
    cases e:one acc s1 with
    | none=>rw [e] at h; cases h
    | some y =>
     rw [e] at h
     rw [ho acc s1 y e]
     cases y with
     | bad z=>exact h
     | ok a s2 =>
      dsimp only at h ⊢
      by_cases hz:btw=0
      ·rw [if_pos hz] at h ⊢
       exact ih n' _ _ _ (by omega) h
      ·rw [if_neg hz] at h ⊢
       cases e2:skipP ts btw s2 with
       | mk bb s3 =>
        rw [e2] at h
        cases bb with
        | false=>exact h
        | true=>exact ih n' _ _ _ (by omega) h
theorem keywords_up {α:Type} {ts:Ts} {one one':Ps→Option (Rs α)} (ho:∀ s x,one s=some x→one' s=some x) {n n':Nat} (hn:n≤n') {s:Ps} {x:Rs (Bs × List α)} (h:keywordsP ts one n s=some x):keywordsP ts one' n' s=some x:=by
 unfold keywordsP at h ⊢
 exact bindP_up (fun x hx=>listA_up (fun acc s x h=>bindP_up (ho _) (fun _ _ _ h=>h) h) n n' [] s x hn hx) (fun _ _ _ h=>h) h
theorem worded_up {α:Type} {ts:Ts} {one one':Nat→Ps→Option (Rs α)} (ho:∀ k s x,one k s=some x→one' k s=some x) {n n':Nat} (hn:n≤n') {s:Ps} {x:Rs (Bs × List α)} (h:wordedP ts one n s=some x):wordedP ts one' n' s=some x:=by
 unfold wordedP at h ⊢
 by_cases r1:rankT (hdT ts s)=1
 ·rw [if_pos r1] at h ⊢; exact h
 rw [if_neg r1] at h ⊢
 by_cases r2:rankT (hdT ts s)=2
 ·rw [if_pos r2] at h ⊢; exact bindP_up (ho 2 _) (fun _ _ _ h=>h) h
 rw [if_neg r2] at h ⊢
 by_cases r3:rankT (hdT ts s)=3
 ·rw [if_pos r3] at h ⊢; exact keywords_up (ho 3) hn h
 rw [if_neg r3] at h ⊢
 exact h
theorem temporaries_up {ts:Ts} {n n':Nat} (hn:n≤n') {s:Ps} {x:Rs Ts} (h:temporariesP ts n s=some x):temporariesP ts n' s=some x:=by
 unfold temporariesP at h ⊢
 cases e:skipP ts 12 s with
 | mk b s1 =>
  rw [e] at h
  cases b with
  | false=>exact h
  | true=>exact bindP_up (fun x hx=>listA_up (fun _ _ _ h=>h) n n' [] s1 x hn hx) (fun _ _ _ h=>h) h
structure UpAll (ts:Ts) (n:Nat):Prop where
 expr:∀ n' s x,n≤n'→expressionP ts n s=some x→expressionP ts n' s=some x
 casc:∀ n' s x,n≤n'→cascadeP ts n s=some x→cascadeP ts n' s=some x
 sends:∀ n' most s x,n≤n'→sendsP ts n most s=some x→sendsP ts n' most s=some x
 ranks:∀ n' most rank m sent s x,n≤n'→ranksP ts n most rank m sent s=some x→ranksP ts n' most rank m sent s=some x
 msg:∀ n' s x,n≤n'→messageP ts n s=some x→messageP ts n' s=some x
 prim:∀ n' most s x,n≤n'→primaryP ts n most s=some x→primaryP ts n' most s=some x
 lit:∀ n' s x,n≤n'→literalP ts n s=some x→literalP ts n' s=some x
 elem:∀ n' s x,n≤n'→elementP ts n s=some x→elementP ts n' s=some x
 blk:∀ n' s x,n≤n'→blockP ts n s=some x→blockP ts n' s=some x
 stmt:∀ n' s x,n≤n'→statementP ts n s=some x→statementP ts n' s=some x
 body:∀ n' fin s x,n≤n'→bodyP ts n fin s=some x→bodyP ts n' fin s=some x
theorem up_all (ts:Ts):∀ n,UpAll ts n:=by
 intro n
 induction n with
 | zero =>
  refine ⟨fun _ s x _ h=>?_,fun _ s x _ h=>?_,fun _ _ s x _ h=>?_,fun _ _ _ _ _ s x _ h=>?_,fun _ s x _ h=>?_,fun _ _ s x _ h=>?_,fun _ s x _ h=>?_,fun _ s x _ h=>?_,fun _ s x _ h=>?_,fun _ s x _ h=>?_,fun _ _ s x _ h=>?_⟩ <;> first | (unfold expressionP at h; cases h) | (unfold cascadeP at h; cases h) | (unfold sendsP at h; cases h) | (unfold ranksP at h; cases h) | (unfold messageP at h; cases h) | (unfold primaryP at h; cases h) | (unfold literalP at h; cases h) | (unfold elementP at h; cases h) | (unfold blockP at h; cases h) | (unfold statementP at h; cases h) | (unfold bodyP at h; cases h)
 | succ n ih =>
  refine ⟨?_,?_,?_,?_,?_,?_,?_,?_,?_,?_,?_⟩
  ·intro n' s x hn h
   obtain ⟨n',rfl⟩:∃ m,n'=m+1:=⟨n' - 1,by omega⟩
   unfold expressionP at h ⊢
   split at h
   ·rename_i c; rw [if_pos c]; exact bindP_up (ih.expr n' _ · (by omega)) (fun _ _ _ h=>h) h
   ·rename_i c; rw [if_neg c]; exact ih.casc n' s x (by omega) h
  ·intro n' s x hn h
   obtain ⟨n',rfl⟩:∃ m,n'=m+1:=⟨n' - 1,by omega⟩
   unfold cascadeP at h ⊢
   refine bindP_up (ih.sends n' 3 s · (by omega)) (fun a s1 x h=>?_) h
   split at h
   ·rename_i c; rw [if_pos c]; exact h
   rename_i c
   rw [if_neg c]
   split at h
   ·rename_i c; rw [if_pos c]; exact h
   rename_i c
   rw [if_neg c]
   exact bindP_up (fun x hx=>listA_up (fun acc s x h=>ih.msg n' s x (by omega) h) n n' [] _ x (by omega) hx) (fun _ _ _ h=>h) h
  ·intro n' most s x hn h
   obtain ⟨n',rfl⟩:∃ m,n'=m+1:=⟨n' - 1,by omega⟩
   unfold sendsP at h ⊢
   exact bindP_up (ih.prim n' most s · (by omega)) (fun a s1 x h=>ih.ranks n' _ _ _ _ _ x (by omega) h) h
  ·intro n' most rank m sent s x hn h
   obtain ⟨n',rfl⟩:∃ m,n'=m+1:=⟨n' - 1,by omega⟩
   unfold ranksP at h ⊢
   split at h
   ·rename_i c; rw [if_pos c]; exact h
   rename_i c
   rw [if_neg c]
   split at h
   ·rename_i c; rw [if_pos c]; exact bindP_up (ih.msg n' s · (by omega)) (fun a s1 x h=>ih.ranks n' _ _ _ _ _ x (by omega) h) h
   ·rename_i c; rw [if_neg c]; exact ih.ranks n' _ _ _ _ _ x (by omega) h
  ·intro n' s x hn h
   obtain ⟨n',rfl⟩:∃ m,n'=m+1:=⟨n' - 1,by omega⟩
   unfold messageP at h ⊢
   exact bindP_up (fun x hx=>worded_up (fun k s x h=>bindP_up (ih.sends n' _ s · (by omega)) (fun _ _ _ h=>h) h) (by omega) hx) (fun _ _ _ h=>h) h
  ·intro n' most s x hn h
   obtain ⟨n',rfl⟩:∃ m,n'=m+1:=⟨n' - 1,by omega⟩
   unfold primaryP at h ⊢
   split at h
   ·rename_i c; rw [if_pos c]; exact h
   rename_i c
   rw [if_neg c]
   split at h
   ·rename_i c; rw [if_pos c]; exact bindP_up (ih.expr n' _ · (by omega)) (fun _ _ _ h=>h) h
   rename_i c
   rw [if_neg c]
   split at h
   ·rename_i c; rw [if_pos c]; exact ih.blk n' s x (by omega) h
   ·rename_i c; rw [if_neg c]; exact ih.lit n' s x (by omega) h
  ·intro n' s x hn h
   obtain ⟨n',rfl⟩:∃ m,n'=m+1:=⟨n' - 1,by omega⟩
   unfold literalP at h ⊢
   split at h
   ·rename_i c; rw [if_pos c]; exact h
   rename_i c
   rw [if_neg c]
   split at h
   ·rename_i c; rw [if_pos c]; exact h
   rename_i c
   rw [if_neg c]
   split at h
   ·rename_i c; rw [if_pos c]; exact h
   rename_i c
   rw [if_neg c]
   split at h
   ·rename_i c
    rw [if_pos c]
    exact bindP_up (fun x hx=>listA_up (fun acc s x h=>ih.elem n' s x (by omega) h) n n' [] _ x (by omega) hx) (fun _ _ _ h=>h) h
   ·rename_i c; rw [if_neg c]; exact h
  ·intro n' s x hn h
   obtain ⟨n',rfl⟩:∃ m,n'=m+1:=⟨n' - 1,by omega⟩
   unfold elementP at h ⊢
   split at h
   ·rename_i c; rw [if_pos c]; exact h
   ·rename_i c; rw [if_neg c]; exact ih.lit n' s x (by omega) h
  ·intro n' s x hn h
   obtain ⟨n',rfl⟩:∃ m,n'=m+1:=⟨n' - 1,by omega⟩
   unfold blockP at h ⊢
   refine bindP_up (fun x hx=>listA_up (fun _ _ _ h=>h) n n' [] _ x (by omega) hx) (fun ps s1 x h=>?_) h
   dsimp only at h ⊢
   split at h
   ·exact h
   ·exact bindP_up (fun x hx=>temporaries_up (by omega) hx) (fun tm s4 x h=>bindP_up (ih.body n' _ _ · (by omega)) (fun _ _ _ h=>h) h) h
  ·intro n' s x hn h
   obtain ⟨n',rfl⟩:∃ m,n'=m+1:=⟨n' - 1,by omega⟩
   unfold statementP at h ⊢
   split at h
   ·rename_i c; rw [if_pos c]; exact bindP_up (ih.expr n' _ · (by omega)) (fun _ _ _ h=>h) h
   ·rename_i c; rw [if_neg c]; exact ih.expr n' s x (by omega) h
  ·intro n' fin s x hn h
   obtain ⟨n',rfl⟩:∃ m,n'=m+1:=⟨n' - 1,by omega⟩
   unfold bodyP at h ⊢
   refine bindP_up (fun x hx=>listA_up (fun acc s x h=>?_) n n' [] _ x (by omega) hx) (fun _ _ _ h=>h) h
   split at h
   ·rename_i c; rw [if_pos c]; exact h
   ·rename_i c; rw [if_neg c]; exact ih.stmt n' s x (by omega) h
theorem rest_up {ts:Ts} {n n':Nat} (hn:n≤n') {ps:Ts} {s:Ps} {x:Rs Src} (h:restP ts n ps s=some x):restP ts n' ps s=some x:=by
 unfold restP at h ⊢
 exact bindP_up (fun x hx=>temporaries_up hn hx) (fun tm s1 x h=>bindP_up ((up_all ts n).body n' _ _ · hn) (fun _ _ _ h=>h) h) h
theorem whole_up {m:Bool} {ts:Ts} {n n':Nat} (hn:n≤n') {s:Ps} {x:Rs Src} (h:wholeP m ts n s=some x):wholeP m ts n' s=some x:=by
 unfold wholeP at h ⊢
 cases m with
 | false=>rw [if_neg (by decide)] at h ⊢; exact rest_up hn h
 | true =>
  rw [if_pos rfl] at h ⊢
  unfold methodP at h ⊢
  exact bindP_up (fun x hx=>worded_up (fun _ _ _ h=>h) hn hx) (fun x s1 y h=>bindP_up (fun z hz=>rest_up hn hz) (fun _ _ _ h=>h) h) h
/-! what is read,whatever the fuel -/
def Ls {α:Type} (ts:Ts) (btw:Nat) (there:Ps→Bool × Ps) (one:Nat→List α→Ps→Option (Rs α)) (acc:List α) (s:Ps) (l:List α) (s1:Ps):Prop:=∃ f,listA ts btw there (one f) f acc s=some (.ok l s1)
def Up {α:Type} (one:Nat→List α→Ps→Option (Rs α)):Prop:=∀ n n' acc s x,n≤n'→one n acc s=some x→one n' acc s=some x
namespace Ls
variable {α:Type} {ts:Ts} {btw:Nat} {there:Ps→Bool × Ps} {one:Nat→List α→Ps→Option (Rs α)} {acc l:List α} {s s1 s2 s3:Ps} {a:α}
theorem nil (h:there s=(false,s1)):Ls ts btw there one acc s acc s1:=⟨1,by unfold listA; rw [h]⟩
theorem last (hu:Up one) (hb:btw≠0) (ht:there s=(true,s1)) (h1:∃ f,one f acc s1=some (.ok a s2)) (h2:standsP ts btw s2=false):Ls ts btw there one acc s (acc++[a]) s2:=by
 obtain ⟨f1,h1⟩:=h1
 refine ⟨f1+1,?_⟩
 unfold listA
 rw [ht]
 dsimp only
 rw [hu f1 (f1+1) _ _ _ (by omega) h1]
 dsimp only
 rw [if_neg hb]
 unfold skipP
 rw [h2]
 rfl
theorem more (hu:Up one) (hb:btw≠0) (ht:there s=(true,s1)) (h1:∃ f,one f acc s1=some (.ok a s2)) (hs:standsP ts btw s2=true) (h2:Ls ts btw there one (acc++[a]) (takeP ts s2) l s3):Ls ts btw there one acc s l s3:=by
 obtain ⟨f1,h1⟩:=h1
 obtain ⟨f2,h2⟩:=h2
 refine ⟨f1+f2+1,?_⟩
 unfold listA
 rw [ht]
 dsimp only
 rw [hu f1 (f1+f2+1) _ _ _ (by omega) h1]
 dsimp only
 rw [if_neg hb]
 unfold skipP
 rw [hs]
 exact listA_up (fun acc s x h=>hu f2 (f1+f2+1) acc s x (by omega) h) f2 (f1+f2) _ _ _ (by omega) h2
end Ls
section
variable {ts:Ts} {s s1 s2 s3:Ps} {n m r:Nd} {b b':Bool} {most rank:Nat}
def oneSt (ts:Ts) (f:Nat) (acc:List Nd) (s:Ps):Option (Rs Nd):=if retd acc=true then some (.bad (hdT ts s)) else statementP ts f s
theorem up_st (ts:Ts):Up (oneSt ts):=fun n n' acc s x hn h=>by
 unfold oneSt at h ⊢
 split at h
 ·rename_i c; rw [if_pos c]; exact h
 ·rename_i c; rw [if_neg c]; exact (up_all ts n).stmt n' s x hn h
end
theorem Reads.of {m:Bool} {l:Bs} {ts:Ts} {f:Nat} {t:Src} {s:Ps} (h:LexR l ts 0 0) (hw:wholeP m ts f s0=some (.ok t s)):Reads m l (if s.code=0 then some t else none) s.code (if s.code=0 then 0 else s.place):=by
 obtain ⟨r,c,a,hr⟩:=Reads.all m h
 obtain ⟨ts2,c0,a0,h1,h2⟩:=hr
 obtain ⟨rfl,rfl,rfl⟩:=h.unique h1
 rcases h2 with ⟨h2,_⟩ | ⟨_,h2⟩
 ·exact absurd rfl h2
 refine ⟨ts2,0,0,h,Or.inr ⟨rfl,?_⟩⟩
 unfold readP at h2 ⊢
 rw [show (⟨0,0,0,0⟩:Ps)=s0 from rfl] at h2 ⊢
 cases e:wholeP m ts2 (fuelT ts2) s0 with
 | none=>rw [e] at h2; cases h2
 | some x =>
  have e1:=whole_up (n':=f+fuelT ts2) (by omega) e
  have e2:=whole_up (n':=f+fuelT ts2) (by omega) hw
  rw [e1] at e2
  injection e2 with e2
  subst e2
  dsimp only
  by_cases hc:s.code=0
  ·rw [if_pos hc,if_pos hc,if_pos hc,hc]
  ·rw [if_neg hc,if_neg hc,if_neg hc]
end Go.Proofs.YtfhkhmgodkheaaaGreatDoor
namespace Go.Proofs.YtfhkhmgodkheaaaGreatDoor
def Bal {α:Type} (s:Ps) (r:Option (Rs α)):Prop:=∀ a s1,r=some (.ok a s1)→s1.opn=s.opn
theorem passP_opn {c p:Nat} {s:Ps}:(passP c p s).opn=s.opn:=passP_rest.2
theorem mostP_opn {x:Tok × Nat} {n:Nat} {s:Ps}:(mostP x n s).opn=s.opn:=by unfold mostP; split; exact passP_opn; rfl
theorem take_opn {ts:Ts} {s:Ps}:(takeP ts s).opn=s.opn+(if (hdT ts s).1.kind=8∨(hdT ts s).1.kind=10∨(hdT ts s).1.kind=7 then 1 else if (hdT ts s).1.kind=9∨(hdT ts s).1.kind=11 then -1 else 0):=by
 show (boundP (hdT ts s) s).opn=_
 unfold boundP
 generalize hdT ts s=x
 split
 ·rename_i h; rw [if_neg (by omega),if_neg (by omega),mostP_opn]; omega
 split
 ·rename_i h; rw [if_neg (by omega),if_neg (by omega),mostP_opn]; omega
 split
 ·rename_i h; rw [if_neg (by omega),if_neg (by omega),mostP_opn]; omega
 split
 ·rfl
 split
 ·show s.opn - 1=_; omega
 ·omega
theorem take_opn0 {ts:Ts} {s:Ps} (h:¬((hdT ts s).1.kind=8∨(hdT ts s).1.kind=10∨(hdT ts s).1.kind=7∨(hdT ts s).1.kind=9∨(hdT ts s).1.kind=11)):(takeP ts s).opn=s.opn:=by
 rw [take_opn,if_neg (by omega),if_neg (by omega)]; omega
theorem rank_kinds {x:Tok × Nat} (h:rankT x≠0):x.1.kind=1∨x.1.kind=3∨x.1.kind=2:=by
 unfold rankT at h
 by_cases h1:x.1.kind=1∨x.1.kind=3
 ·omega
 rw [if_neg h1] at h
 by_cases h2:x.1.kind=2
 ·omega
 ·rw [if_neg h2] at h; exact absurd rfl h
theorem take_opnR {ts:Ts} {s:Ps} (h:rankT (hdT ts s)≠0):(takeP ts s).opn=s.opn:=take_opn0 (by have:=rank_kinds h; omega)
theorem take_opnK {ts:Ts} {s:Ps} {k:Nat} (h:standsP ts k s=true) (hk:¬(k=8∨k=10∨k=7∨k=9∨k=11)):(takeP ts s).opn=s.opn:=take_opn0 (by rw [stands_kind h]; exact hk)
theorem Bal.bind {α β:Type} {s:Ps} {r:Option (Rs α)} {k:α→Ps→Option (Rs β)} (h:Bal s r) (hk:∀ a s1,r=some (.ok a s1)→Bal s1 (k a s1)):Bal s (bindP r k):=by
 intro b s2 e
 obtain ⟨a,s1,e1,e2⟩:=bindP_ok e
 rw [hk a s1 e1 b s2 e2,h a s1 e1]
theorem Bal.ok {α:Type} {s s1:Ps} {a:α} (h:s1.opn=s.opn):Bal s (some (.ok a s1)):=by
 intro b s2 e; injection e with e; injection e with e1 e2; subst e2; exact h
theorem Bal.bad {α:Type} {s:Ps} {x:Tok × Nat}:Bal s (some (.bad x):Option (Rs α)):=by intro b s2 e; injection e with e; cases e
theorem Bal.no {α:Type} {s:Ps}:Bal s (none:Option (Rs α)):=by intro b s2 e; cases e
theorem Bal.from {α:Type} {s t:Ps} {r:Option (Rs α)} (h:Bal t r) (e:t.opn=s.opn):Bal s r:=fun a s1 h1=>(h a s1 h1).trans e
theorem Bal.need {α:Type} {ts:Ts} {s:Ps} {k:Nat} {l:α} (hk:¬(k=8∨k=10∨k=7∨k=9∨k=11)):Bal s (match needP ts k s with | .bad x=>some (.bad x) | .ok _ s2=>some (.ok l s2):Option (Rs α)):=by
 unfold needP
 by_cases e:standsP ts k s=true
 ·rw [if_pos e]; exact Bal.ok (take_opnK e hk)
 ·rw [if_neg e]; exact Bal.bad
theorem listA_bal {α:Type} {ts:Ts} {btw:Nat} {there:Ps→Bool × Ps} {one:List α→Ps→Option (Rs α)} (hb:¬(btw=8∨btw=10∨btw=7∨btw=9∨btw=11)) (ht:∀ s,(there s).2.opn=s.opn) (ho:∀ acc s,(there s).1=true→Bal s (one acc (there s).2)):∀ (n:Nat) (acc:List α) (s:Ps),Bal s (listA ts btw there one n acc s):=by
 intro n
 induction n with
 | zero=>intro acc s; exact Bal.no
 | succ n ih =>
  intro acc s
  unfold listA
  rw [show there s=((there s).1,(there s).2) from rfl]
  cases hth:(there s).1 with
  | false=>exact Bal.ok (ht s)
  | true =>
   dsimp only
   cases e:one acc (there s).2 with
   | none=>exact Bal.no
   | some r =>
    cases r with
    | bad x=>exact Bal.bad
    | ok a s2 =>
     have h2:=ho acc s hth a s2 e
     dsimp only
     by_cases hz:btw=0
     ·rw [if_pos hz]; exact (ih _ s2).from h2
     ·rw [if_neg hz]
      unfold skipP
      by_cases e2:standsP ts btw s2=true
      ·rw [if_pos e2]; exact (ih _ _).from ((take_opnK e2 hb).trans h2)
      ·rw [if_neg e2]; exact Bal.ok h2
theorem words_bal:∀ (us:Ts) (i:Nat) (l:Bs) (s:Ps),(wordsP i l us s).2.opn=s.opn:=by
 intro us
 induction us with
 | nil=>intro i l s; rfl
 | cons x r ih =>
  intro i l s
  unfold wordsP
  rw [ih]
  split
  ·exact passP_opn
  ·rfl
theorem worded_bal {α:Type} {ts:Ts} {one:Nat→Ps→Option (Rs α)} (ho:∀ k s,Bal s (one k s)) (f:Nat) (s:Ps):Bal s (wordedP ts one f s):=by
 unfold wordedP
 split
 ·rename_i h; exact Bal.ok (take_opnR (by omega))
 split
 ·rename_i h; exact Bal.bind ((ho 2 _).from (take_opnR (by omega))) (fun a s1 _=>Bal.ok rfl)
 split
 ·unfold keywordsP
  refine Bal.bind (listA_bal (there:=fun s=>(decide (rankT (hdT ts s)=3),s)) (one:=fun _ s=>bindP (one 3 (takeP ts s)) (fun a s2=>some (.ok (hdT ts s,a) s2))) (btw:=0) (by decide) (fun s=>rfl) (fun acc s hth=>?_) f [] s) (fun l s1 _=>Bal.ok (words_bal _ _ _ _))
  have hk:rankT (hdT ts s)=3:=by simpa using hth
  exact Bal.bind ((ho 3 _).from (take_opnR (by rw [hk]; decide))) (fun a s1 _=>Bal.ok rfl)
 ·exact Bal.bad
theorem integer_bal {ts:Ts} {s:Ps} (hk:(hdT ts s).1.kind=4∨(hdT ts s).1.kind=3):Bal s (some (integerP ts s)):=by
 have h1:(takeP ts s).opn=s.opn:=take_opn0 (by omega)
 unfold integerP
 dsimp only
 split
 ·exact Bal.ok h1
 split
 ·rename_i h; exact Bal.ok ((take_opnK h.2.1 (by decide)).trans h1)
 ·exact Bal.bad
theorem named_bal {ts:Ts} {s:Ps} {most:Nat} (hk:(hdT ts s).1.kind=1):Bal s (some (namedP ts most s)):=by
 have h1:(takeP ts s).opn=s.opn:=take_opn0 (by omega)
 unfold namedP
 dsimp only
 split
 ·exact Bal.ok h1
 split
 ·exact Bal.ok h1
 split
 ·exact Bal.bad
 ·exact Bal.ok h1
theorem temporaries_bal {ts:Ts} (f:Nat) (s:Ps):Bal s (temporariesP ts f s):=by
 unfold temporariesP skipP
 by_cases c:standsP ts 12 s=true
 ·rw [if_pos c]
  exact (Bal.bind (listA_bal (α:=Tok × Nat) (there:=fun s=>(standsP ts 1 s,s)) (one:=fun _ s=>some (.ok (hdT ts s) (takeP ts s))) (btw:=0) (by decide) (fun s=>rfl) (fun acc s hth=>Bal.ok (take_opnK hth (by decide))) f [] _) (fun l s2 _=>Bal.need (by decide))).from (take_opnK c (by decide))
 ·rw [if_neg c]; exact Bal.ok rfl
structure BalAll (ts:Ts) (f:Nat):Prop where
 expr:∀ s,Bal s (expressionP ts f s)
 casc:∀ s,Bal s (cascadeP ts f s)
 sends:∀ most s,Bal s (sendsP ts f most s)
 ranks:∀ most rank n sent s,1≤rank→Bal s (ranksP ts f most rank n sent s)
 msg:∀ s,Bal s (messageP ts f s)
 prim:∀ most s,Bal s (primaryP ts f most s)
 lit:∀ s,Bal s (literalP ts f s)
 elem:∀ s,Bal s (elementP ts f s)
 blk:∀ s,(hdT ts s).1.kind=10→Bal s (blockP ts f s)
 stmt:∀ s,Bal s (statementP ts f s)
 body:∀ s,(∀ a s1,bodyP ts f 11 s=some (.ok a s1)→s1.opn=s.opn - 1)∧Bal s (bodyP ts f 18 s)
theorem bal_all (ts:Ts):∀ f,BalAll ts f:=by
 intro f
 induction f with
 | zero =>
  refine ⟨fun s=>?_,fun s=>?_,fun _ s=>?_,fun _ _ _ _ s _=>?_,fun s=>?_,fun _ s=>?_,fun s=>?_,fun s=>?_,fun s _=>?_,fun s=>?_,fun s=>⟨fun a s1 h=>?_,?_⟩⟩ <;> first | (unfold expressionP; exact Bal.no) | (unfold cascadeP; exact Bal.no) | (unfold sendsP; exact Bal.no) | (unfold ranksP; exact Bal.no) | (unfold messageP; exact Bal.no) | (unfold primaryP; exact Bal.no) | (unfold literalP; exact Bal.no) | (unfold elementP; exact Bal.no) | (unfold blockP; exact Bal.no) | (unfold statementP; exact Bal.no) | (unfold bodyP; exact Bal.no) | (unfold bodyP at h; cases h)
 | succ f ih =>
  refine ⟨?_,?_,?_,?_,?_,?_,?_,?_,?_,?_,?_⟩
  ·intro s
   unfold expressionP
   split
   ·rename_i c
    have h1:(takeP ts s).opn=s.opn:=take_opnK c.1 (by decide)
    have h2:(takeP ts (takeP ts s)).opn=(takeP ts s).opn:=take_opn0 (by have e:(hdT ts (takeP ts s)).1.kind=14:=c.2; omega)
    exact (Bal.bind (ih.expr _) (fun n s1 _=>Bal.ok rfl)).from (h2.trans h1)
   ·exact ih.casc s
  ·intro s
   unfold cascadeP
   refine Bal.bind (ih.sends 3 s) (fun x s1 _=>?_)
   split
   ·exact Bal.ok rfl
   rename_i c
   split
   ·exact Bal.bad
   refine (Bal.bind (listA_bal (btw:=17) (there:=fun s=>(true,s)) (one:=fun _=>messageP ts f) (by decide) (fun s=>rfl) (fun acc s _=>ih.msg s) f [] _) (fun l s3 _=>?_)).from (take_opnK (by simpa using c) (by decide))
   cases x.1.kids with
   | nil=>exact Bal.no
   | cons r ks=>exact Bal.ok rfl
  ·intro most s
   unfold sendsP
   exact Bal.bind (ih.prim most s) (fun n s1 _=>ih.ranks most 1 n false s1 (Nat.le_refl _))
  ·intro most rank n sent s hr
   unfold ranksP
   split
   ·exact Bal.ok rfl
   split
   ·exact Bal.bind (ih.msg s) (fun m s1 _=>ih.ranks most rank _ true s1 hr)
   ·exact ih.ranks most (rank+1) n sent s (by omega)
  ·intro s
   unfold messageP
   exact Bal.bind (worded_bal (fun k s=>Bal.bind (ih.sends _ s) (fun x s1 _=>Bal.ok rfl)) f s) (fun x s1 _=>Bal.ok rfl)
  ·intro most s
   unfold primaryP
   split
   ·rename_i c; exact named_bal c
   split
   ·rename_i c
    intro n s2 e
    obtain ⟨m,s1,e1,e2⟩:=bindP_ok e
    have h1:=ih.expr _ m s1 e1
    unfold needP at e2
    by_cases h9:standsP ts 9 s1=true
    ·rw [if_pos h9] at e2
     injection e2 with e2; injection e2 with _ e2; subst e2
     rw [take_opn,if_neg (by have:=stands_kind h9; omega),if_pos (by have:=stands_kind h9; omega),h1,take_opn,if_pos (Or.inl c)]
     omega
    ·rw [if_neg h9] at e2; injection e2 with e2; cases e2
   split
   ·rename_i c; exact ih.blk s c
   ·exact ih.lit s
  ·intro s
   unfold literalP
   split
   ·rename_i c; exact integer_bal c
   split
   ·rename_i c; exact Bal.ok (take_opn0 (by omega))
   split
   ·rename_i c; exact Bal.ok (take_opn0 (by omega))
   split
   ·rename_i c
    intro n s2 e
    obtain ⟨l,s1,e1,e2⟩:=bindP_ok e
    have h1:=listA_bal (btw:=0) (there:=fun s=>(!standsP ts 9 s,s)) (one:=fun _=>elementP ts f) (by decide) (fun s=>rfl) (fun acc s _=>ih.elem s) f [] _ l s1 e1
    have h3:(if 32 < l.length then passP 73 ((l.map Nd.place).getD 32 0) s1 else s1).opn=s1.opn:=by split; exact passP_opn; rfl
    generalize (if 32 < l.length then passP 73 ((l.map Nd.place).getD 32 0) s1 else s1)=s3 at *
    unfold needP at e2
    by_cases h9:standsP ts 9 s3=true
    ·rw [if_pos h9] at e2
     injection e2 with e2; injection e2 with _ e2; subst e2
     rw [take_opn,if_neg (by have:=stands_kind h9; omega),if_pos (by have:=stands_kind h9; omega),h3,h1,take_opn,if_pos (by omega)]
     omega
    ·rw [if_neg h9] at e2; injection e2 with e2; cases e2
   ·exact Bal.bad
  ·intro s
   unfold elementP
   split
   ·rename_i c; exact named_bal c.1
   ·exact ih.lit s
  ·intro s hk n s2 e
   unfold blockP at e
   obtain ⟨ps,s1,e1,e2⟩:=bindP_ok e
   have h1:=listA_bal (α:=Tok × Nat) (btw:=0) (there:=fun s=>skipP ts 13 s) (one:=fun _ s=>some (needP ts 1 s)) (by decide) (fun s=>by
    unfold skipP
    by_cases c:standsP ts 13 s=true
    ·rw [if_pos c]; exact take_opnK c (by decide)
    ·rw [if_neg c]) (fun acc s hth=>by
    have e:(skipP ts 13 s).2.opn=s.opn:=by
     unfold skipP
     by_cases c:standsP ts 13 s=true
     ·rw [if_pos c]; exact take_opnK c (by decide)
     ·rw [if_neg c]
    intro a s1 ea
    injection ea with ea
    unfold needP at ea
    split at ea
    ·rename_i c
     injection ea with _ ea; subst ea
     rw [take_opnK c (by decide),e]
    ·cases ea) f [] _ ps s1 e1
   have h3:(if 8 < ps.length then passP 73 (ps.getD 8 noTk).2 s1 else s1).opn=s1.opn:=by split; exact passP_opn; rfl
   dsimp only at e2
   generalize (if 8 < ps.length then passP 73 (ps.getD 8 noTk).2 s1 else s1)=s3 at *
   have rest:∀ s4,(bindP (temporariesP ts f s4) fun tm s4=>bindP (bodyP ts f 11 s4) fun l s5 =>
    some (.ok (Nd.mk 12 [] ps.length (hdT ts s).2 ((ps++tm).map (·.1.text)) ((ps++tm).map (·.2)) l) s5))=some (.ok n s2)→s2.opn=s4.opn - 1:=by
    intro s4 e4
    obtain ⟨tm,s5,e5,e6⟩:=bindP_ok e4
    obtain ⟨l,s6,e7,e8⟩:=bindP_ok e6
    injection e8 with e8; injection e8 with _ e8; subst e8
    rw [(ih.body s5).1 l s6 e7,temporaries_bal f s4 tm s5 e5]
   have h10:(takeP ts s).opn=s.opn+1:=by rw [take_opn,if_pos (by omega)]
   by_cases hc:0 < ps.length∧standsP ts 11 s3=false
   ·rw [if_pos hc] at e2
    unfold needP at e2
    by_cases hb:standsP ts 12 s3=true
    ·rw [if_pos hb] at e2
     have:=rest _ e2
     rw [take_opnK hb (by decide)] at this
     omega
    ·rw [if_neg hb] at e2; injection e2 with e2; cases e2
   ·rw [if_neg hc] at e2
    have:=rest _ e2
    omega
  ·intro s
   unfold statementP
   split
   ·rename_i c; exact (Bal.bind (ih.expr _) (fun n s1 _=>Bal.ok rfl)).from (take_opnK c (by decide))
   ·exact ih.expr s
  ·intro s
   have hl:∀ fin,Bal s (listA ts 16 (fun s=>(!standsP ts fin s,s)) (fun acc s=>if retd acc=true then some (.bad (hdT ts s)) else statementP ts f s) f [] s):=fun fin=>listA_bal (by decide) (fun s=>rfl) (fun acc s _=>by
    dsimp only
    split
    ·exact Bal.bad
    ·exact ih.stmt s) f [] s
   constructor
   ·intro l s2 e
    unfold bodyP at e
    obtain ⟨l0,s1,e1,e2⟩:=bindP_ok e
    have h1:=hl 11 l0 s1 e1
    unfold needP at e2
    by_cases h11:standsP ts 11 s1=true
    ·rw [if_pos h11] at e2
     injection e2 with e2; injection e2 with _ e2; subst e2
     rw [take_opn,if_neg (by have:=stands_kind h11; omega),if_pos (by have:=stands_kind h11; omega),h1]
     omega
    ·rw [if_neg h11] at e2; injection e2 with e2; cases e2
   ·unfold bodyP
    exact Bal.bind (hl 18) (fun l s1 _=>Bal.need (by decide))
end Go.Proofs.YtfhkhmgodkheaaaGreatDoor
