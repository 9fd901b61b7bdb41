import Derived.Test.YtfhkhmgodkheaaaGreatDoorQBG07PTree
set_option linter.unusedSimpArgs false
set_option linter.unusedVariables false
namespace Go.Proofs.YtfhkhmgodkheaaaGreatDoor
def Pg {α:Type} (ts:Ts) (s:Ps) (r:Option (Rs α)):Prop:=∀ a s',r=some (.ok a s')→s.pos < s'.pos∧Okq ts s'
def Pq {α:Type} (ts:Ts) (s:Ps) (r:Option (Rs α)):Prop:=∀ a s',r=some (.ok a s')→s.pos≤s'.pos∧Okq ts s'
theorem Pg.q {α:Type} {ts:Ts} {s:Ps} {r:Option (Rs α)} (h:Pg ts s r):Pq ts s r:=fun a s' e=>⟨Nat.le_of_lt (h a s' e).1,(h a s' e).2⟩
theorem bindP_ok {α β:Type} {r:Option (Rs α)} {k:α→Ps→Option (Rs β)} {b:β} {s':Ps} (h:bindP r k=some (.ok b s')):∃ a s1,r=some (.ok a s1)∧k a s1=some (.ok b s'):=by
 unfold bindP at h
 split at h
 ·cases h
 ·cases h
 ·exact ⟨_,_,rfl,h⟩
theorem Pg.bind {α β:Type} {ts:Ts} {s:Ps} {r:Option (Rs α)} {k:α→Ps→Option (Rs β)} (h:Pg ts s r) (hk:∀ a s1,r=some (.ok a s1)→Okq ts s1→Pq ts s1 (k a s1)):Pg ts s (bindP r k):=by
 intro b s' e
 obtain ⟨a,s1,e1,e2⟩:=bindP_ok e
 obtain ⟨h1,h2⟩:=h a s1 e1
 obtain ⟨h3,h4⟩:=hk a s1 e1 h2 b s' e2
 exact ⟨Nat.lt_of_lt_of_le h1 h3,h4⟩
theorem Pq.bind {α β:Type} {ts:Ts} {s:Ps} {r:Option (Rs α)} {k:α→Ps→Option (Rs β)} (h:Pq ts s r) (hk:∀ a s1,r=some (.ok a s1)→Okq ts s1→Pq ts s1 (k a s1)):Pq ts s (bindP r k):=by
 intro b s' e
 obtain ⟨a,s1,e1,e2⟩:=bindP_ok e
 obtain ⟨h1,h2⟩:=h a s1 e1
 obtain ⟨h3,h4⟩:=hk a s1 e1 h2 b s' e2
 exact ⟨Nat.le_trans h1 h3,h4⟩
theorem Pq.bindG {α β:Type} {ts:Ts} {s:Ps} {r:Option (Rs α)} {k:α→Ps→Option (Rs β)} (h:Pq ts s r) (hk:∀ a s1,r=some (.ok a s1)→Okq ts s1→Pg ts s1 (k a s1)):Pg ts s (bindP r k):=by
 intro b s' e
 obtain ⟨a,s1,e1,e2⟩:=bindP_ok e
 obtain ⟨h1,h2⟩:=h a s1 e1
 obtain ⟨h3,h4⟩:=hk a s1 e1 h2 b s' e2
 exact ⟨Nat.lt_of_le_of_lt h1 h3,h4⟩
theorem Pq.ok {α:Type} {ts:Ts} {s:Ps} {a:α} (h:Okq ts s):Pq ts s (some (.ok a s)):=by
 intro b s' e
 injection e with e; injection e with e1 e2; subst e2
 exact ⟨Nat.le_refl _,h⟩
theorem Pg.bad {α:Type} {ts:Ts} {s:Ps} {x:Tok × Nat}:Pg ts s (some (.bad x):Option (Rs α)):=by
 intro b s' e; injection e with e; cases e
theorem Pg.none {α:Type} {ts:Ts} {s:Ps}:Pg ts s (none:Option (Rs α)):=by intro b s' e; cases e
theorem take_pos (ts:Ts) (s:Ps):(takeP ts s).pos=s.pos+1:=rfl
theorem Pg.tk {α:Type} {ts:Ts} {s:Ps} {r:Option (Rs α)} (h:Pq ts (takeP ts s) r):Pg ts s r:=fun a s' e=>by
 obtain ⟨h1,h2⟩:=h a s' e
 rw [take_pos] at h1
 exact ⟨by omega,h2⟩
theorem Pg.need {ts:Ts} {s:Ps} {k:Nat} (h:Okq ts s) (hk:k≠18):Pg ts s (some (needP ts k s)):=by
 unfold needP
 by_cases e:standsP ts k s=true
 ·rw [if_pos e]
  refine Pg.tk (Pq.ok (h.take (by rw [stands_kind e]; exact hk)))
 ·rw [if_neg e]; exact Pg.bad
theorem needP_cases {ts:Ts} {s:Ps} {k:Nat} {β:Type} {f:Ps→β} {b:Tok × Nat→β}:(match needP ts k s with | .bad x=>b x | .ok _ s2=>f s2)=if standsP ts k s=true then f (takeP ts s) else b (hdT ts s):=by
 unfold needP
 by_cases e:standsP ts k s=true
 ·rw [if_pos e,if_pos e]
 ·rw [if_neg e,if_neg e]
theorem skip_pos (ts:Ts) (k:Nat) (s:Ps):s.pos≤(skipP ts k s).2.pos:=by
 unfold skipP
 split
 ·rw [take_pos]; omega
 ·exact Nat.le_refl _
theorem listA_pg {α:Type} {ts:Ts} {btw:Nat} {there:Ps→Bool × Ps} {one:List α→Ps→Option (Rs α)} (hb:btw≠18) (ht:∀ s,Okq ts s→s.pos≤(there s).2.pos∧Okq ts (there s).2)
  (ho:∀ acc s,Okq ts s→(there s).1=true→Pg ts s (one acc (there s).2)):∀ (f:Nat) (acc:List α) (s:Ps),Okq ts s→Pq ts s (listA ts btw there one f acc s)∧((there s).1=true→Pg ts s (listA ts btw there one f acc s)):=by
 intro f
 induction f with
 | zero=>intro acc s h; exact ⟨Pg.none.q,fun _=>Pg.none⟩
 | succ f ih =>
  intro acc s h
  obtain ⟨h1,h2⟩:=ht s h
  have key:(there s).1=true→Pg ts s (listA ts btw there one (f+1) acc s):=by
   intro hth
   have hone:=ho acc s h hth
   unfold listA
   rw [show there s=((there s).1,(there s).2) from rfl,hth]
   dsimp only
   cases e:one acc (there s).2 with
   | none=>exact Pg.none
   | some r =>
    cases r with
    | bad x=>exact Pg.bad
    | ok a s2 =>
     obtain ⟨p1,p2⟩:=hone a s2 e
     dsimp only
     by_cases hz:btw=0
     ·rw [if_pos hz]
      intro b s' e'
      obtain ⟨q1,q2⟩:=(ih (acc++[a]) s2 p2).1 b s' e'
      exact ⟨by omega,q2⟩
     ·rw [if_neg hz]
      have hs:=p2.skip (k:=btw) hb
      have hp:=skip_pos ts btw s2
      cases e2:skipP ts btw s2 with
      | mk b s3 =>
       rw [e2] at hs hp
       cases b with
       | false =>
        dsimp only
        intro b s' e'
        injection e' with e'; injection e' with e1 e3; subst e3
        exact ⟨by dsimp only at hp; omega,hs⟩
       | true =>
        dsimp only
        intro b s' e'
        obtain ⟨q1,q2⟩:=(ih (acc++[a]) s3 hs).1 b s' e'
        exact ⟨by dsimp only at hp; omega,q2⟩
  refine ⟨?_,key⟩
  cases hth:(there s).1 with
  | true=>exact (key hth).q
  | false =>
   unfold listA
   rw [show there s=((there s).1,(there s).2) from rfl,hth]
   intro b s' e'
   injection e' with e'; injection e' with e1 e3; subst e3
   exact ⟨h1,h2⟩
theorem rank_kind {x:Tok × Nat} (h:rankT x≠0):x.1.kind≠18:=by
 unfold rankT at h
 intro e
 rw [e] at h
 exact h (by simp)
theorem words_pos (ts:Ts):∀ (us:Ts) (i:Nat) (l:Bs) (s:Ps),(∀ x∈us,x.2≤4096)→Okq ts s→(wordsP i l us s).2.pos=s.pos∧Okq ts (wordsP i l us s).2:=by
 intro us
 induction us with
 | nil=>intro i l s _ h; exact ⟨rfl,h⟩
 | cons x r ih =>
  intro i l s hx h
  unfold wordsP
  split
  ·obtain ⟨a,b⟩:=ih (i+1) (l++x.1.text++[58]) (passP 73 x.2 s) (fun y hy=>hx y (by simp [hy])) (h.pass (hx x (by simp)))
   exact ⟨a.trans (passP_place (c:=73) h.ok.place (hx x (by simp))).2.2,b⟩
  ·exact ih (i+1) _ s (fun y hy=>hx y (by simp [hy])) h
theorem listA_all {α:Type} {ts:Ts} {btw:Nat} {there:Ps→Bool × Ps} {one:List α→Ps→Option (Rs α)} {Q:α→Prop} (hb:btw≠18) (ht:∀ s,Okq ts s→s.pos≤(there s).2.pos∧Okq ts (there s).2)
  (ho:∀ acc s,Okq ts s→(there s).1=true→Pg ts s (one acc (there s).2)) (hq:∀ acc s a s',Okq ts s→(there s).1=true→one acc (there s).2=some (.ok a s')→Q a):∀ (f:Nat) (acc:List α) (s:Ps) (l:List α) (s':Ps),Okq ts s→(∀ a∈acc,Q a)→listA ts btw there one f acc s=some (.ok l s')→∀ a∈l,Q a:=by
 intro f
 induction f with
 | zero=>intro acc s l s' h hacc e; cases e
 | succ f ih =>
  intro acc s l s' h hacc e
  unfold listA at e
  obtain ⟨h1,h2⟩:=ht s h
  rw [show there s=((there s).1,(there s).2) from rfl] at e
  cases hth:(there s).1 with
  | false =>
   rw [hth] at e
   injection e with e; injection e with e1 e2; subst e1; exact hacc
  | true =>
   rw [hth] at e
   dsimp only at e
   cases eo:one acc (there s).2 with
   | none=>rw [eo] at e; cases e
   | some r =>
    rw [eo] at e
    cases r with
    | bad x=>cases e
    | ok a s2 =>
     obtain ⟨p1,p2⟩:=ho acc s h hth a s2 eo
     have hacc2:∀ b∈acc++[a],Q b:=by
      intro b hb
      rcases List.mem_append.1 hb with hb | hb
      ·exact hacc b hb
      ·simp at hb; subst hb; exact hq acc s _ s2 h hth eo
     dsimp only at e
     by_cases hz:btw=0
     ·rw [if_pos hz] at e
      exact ih _ _ _ _ p2 hacc2 e
     ·rw [if_neg hz] at e
      have hs:=p2.skip (k:=btw) hb
      cases e2:skipP ts btw s2 with
      | mk b s3 =>
       rw [e2] at hs e
       cases b with
       | false=>dsimp only at e; injection e with e; injection e with e1 e3; subst e1; exact hacc2
       | true=>dsimp only at e; exact ih _ _ _ _ hs hacc2 e
theorem keywords_pg {α:Type} {ts:Ts} {one:Ps→Option (Rs α)} (ho:∀ s,Okq ts s→Pq ts s (one s)) (f:Nat) (s:Ps) (h:Okq ts s) (hr:rankT (hdT ts s)=3):Pg ts s (keywordsP ts one f s):=by
 unfold keywordsP
 have h1:∀ (acc:List ((Tok × Nat) × α)) (s:Ps),Okq ts s→(decide (rankT (hdT ts s)=3),s).1=true→Pg ts s ((fun (_:List ((Tok × Nat) × α)) s=>bindP (one (takeP ts s)) (fun a s2=>some (.ok (hdT ts s,a) s2))) acc s):=by
  intro acc s hs hth
  have hk:rankT (hdT ts s)=3:=by simpa using hth
  have ht:=hs.take (rank_kind (by rw [hk]; decide))
  exact Pg.tk (Pq.bind (ho _ ht) (fun a s1 _ h1=>Pq.ok h1))
 have h2:=listA_pg (there:=fun s=>(decide (rankT (hdT ts s)=3),s)) (one:=fun (_:List ((Tok × Nat) × α)) s=>bindP (one (takeP ts s)) (fun a s2=>some (.ok (hdT ts s,a) s2))) (btw:=0) (by decide) (fun s hs=>⟨Nat.le_refl _,hs⟩) h1 f [] s h
 refine Pg.bind (h2.2 (by simpa using hr)) (fun l s1 e1 hs1=>?_)
 have h3:=listA_all (there:=fun s=>(decide (rankT (hdT ts s)=3),s)) (one:=fun (_:List ((Tok × Nat) × α)) s=>bindP (one (takeP ts s)) (fun a s2=>some (.ok (hdT ts s,a) s2))) (Q:=fun a=>a.1.2≤4096) (btw:=0) (by decide) (fun s hs=>⟨Nat.le_refl _,hs⟩) h1 (fun acc s a s' hs hth e=>by
  obtain ⟨b,s1,e1,e2⟩:=bindP_ok e
  injection e2 with e2; injection e2 with e2 e3; subst e2
  exact hs.txt.2) f [] s l s1 h (by simp) e1
 obtain ⟨q1,q2⟩:=words_pos ts (l.map (·.1)) 0 [] s1 (fun x hx=>by obtain ⟨a,ha,rfl⟩:=List.mem_map.1 hx; exact h3 a ha) hs1
 intro b s' e
 injection e with e; injection e with e2 e3; subst e3
 exact ⟨by rw [q1]; exact Nat.le_refl _,q2⟩
theorem worded_pg {α:Type} {ts:Ts} {one:Nat→Ps→Option (Rs α)} (ho:∀ k s,k≤3→Okq ts s→Pq ts s (one k s)) (f:Nat) (s:Ps) (h:Okq ts s):Pg ts s (wordedP ts one f s):=by
 unfold wordedP
 split
 ·rename_i hr
  exact Pg.tk (Pq.ok (h.take (rank_kind (by rw [hr]; decide))))
 split
 ·rename_i hr
  have ht:=h.take (rank_kind (by rw [hr]; decide))
  exact Pg.tk (Pq.bind (ho 2 _ (by decide) ht) (fun a s1 _ h1=>Pq.ok h1))
 split
 ·rename_i hr
  exact keywords_pg (ho 3 · (by decide)) f s h hr
 ·exact Pg.bad
theorem integer_pg {ts:Ts} {s:Ps} (h:Okq ts s) (hk:(hdT ts s).1.kind≠18):Pg ts s (some (integerP ts s)):=by
 unfold integerP
 dsimp only
 split
 ·exact Pg.tk (Pq.ok (h.take hk))
 split
 ·rename_i h2
  exact Pg.tk (Pg.tk (Pq.ok ((h.take hk).take (by rw [stands_kind h2.2.1]; decide)))).q
 ·exact Pg.bad
theorem named_pg {ts:Ts} {s:Ps} {most:Nat} (h:Okq ts s) (hk:(hdT ts s).1.kind≠18):Pg ts s (some (namedP ts most s)):=by
 unfold namedP
 dsimp only
 split
 ·exact Pg.tk (Pq.ok (h.take hk))
 split
 ·exact Pg.tk (Pq.ok (h.take hk))
 split
 ·exact Pg.bad
 ·exact Pg.tk (Pq.ok (h.take hk))
theorem temporaries_pq {ts:Ts} (f:Nat) {s:Ps} (h:Okq ts s):Pq ts s (temporariesP ts f s):=by
 unfold temporariesP
 have hs:=h.skip (k:=12) (by decide)
 have hp:=skip_pos ts 12 s
 cases e:skipP ts 12 s with
 | mk b s1 =>
  rw [e] at hs hp
  cases b with
  | false =>
   dsimp only
   intro a s' e'
   injection e' with e'; injection e' with e1 e2; subst e2
   exact ⟨hp,hs⟩
  | true =>
   dsimp only at hs hp ⊢
   have h2:=(listA_pg (α:=Tok × Nat) (there:=fun s=>(standsP ts 1 s,s)) (one:=fun _ s=>some (.ok (hdT ts s) (takeP ts s))) (btw:=0) (by decide) (fun s hs=>⟨Nat.le_refl _,hs⟩) (fun acc s hs hth=>Pg.tk (Pq.ok (hs.take (by rw [stands_kind hth]; decide)))) f [] s1 hs).1
   have h3:Pq ts s1 (bindP (listA ts 0 (fun s=>(standsP ts 1 s,s)) (fun _ s=>some (.ok (hdT ts s) (takeP ts s))) f [] s1) fun l s2=>match needP ts 12 s2 with
     | .bad x=>some (.bad x)
     | .ok _ s3=>some (.ok l s3)):=Pq.bind h2 (fun l s2 _ hs2=>by
    rw [needP_cases]
    split
    ·rename_i hst
     exact (Pg.tk (Pq.ok (hs2.take (by rw [stands_kind hst]; decide)))).q
    ·exact Pg.bad.q)
   intro a s' e'
   obtain ⟨q1,q2⟩:=h3 a s' e'
   exact ⟨Nat.le_trans hp q1,q2⟩
theorem need_pq {α:Type} {ts:Ts} {s:Ps} {k:Nat} {l:α} (h:Okq ts s) (hk:k≠18):Pg ts s (match needP ts k s with | .bad x=>some (.bad x) | .ok _ s2=>some (.ok l s2):Option (Rs α)):=by
 rw [needP_cases]
 split
 ·rename_i hst
  exact Pg.tk (Pq.ok (h.take (by rw [stands_kind hst]; exact hk)))
 ·exact Pg.bad
theorem lit_place {ts:Ts} {f:Nat} {s s':Ps} {n:Nd} (e:literalP ts f s=some (.ok n s')):n.place=(hdT ts s).2:=by
 cases f with
 | zero=>cases e
 | succ f =>
  unfold literalP at e
  split at e
  ·unfold integerP at e
   dsimp only at e
   split at e
   ·injection e with e; injection e with e1 e2; subst e1; rfl
   split at e
   ·injection e with e; injection e with e1 e2; subst e1; rfl
   ·injection e with e; cases e
  split at e
  ·injection e with e; injection e with e1 e2; subst e1; rfl
  split at e
  ·injection e with e; injection e with e1 e2; subst e1; rfl
  split at e
  ·obtain ⟨l,s1,e1,e2⟩:=bindP_ok e
   split at e2
   ·injection e2 with e; cases e
   ·injection e2 with e; injection e with e1 e2; subst e1; rfl
  ·injection e with e; cases e
theorem elem_place {ts:Ts} {f:Nat} {s s':Ps} {n:Nd} (e:elementP ts f s=some (.ok n s')):n.place=(hdT ts s).2:=by
 cases f with
 | zero=>cases e
 | succ f =>
  unfold elementP at e
  split at e
  ·unfold namedP at e
   dsimp only at e
   split at e
   ·injection e with e; injection e with e1 e2; subst e1; rfl
   split at e
   ·injection e with e; injection e with e1 e2; subst e1; rfl
   split at e
   ·injection e with e; cases e
   ·injection e with e; injection e with e1 e2; subst e1; rfl
  ·exact lit_place e
theorem places_getD {l:List Nd} (h:∀ n∈l,n.place≤4096) (i:Nat):(l.map Nd.place).getD i 0≤4096:=by
 rw [List.getD_eq_getElem?_getD]
 cases e:(l.map Nd.place)[i]? with
 | none=>exact Nat.zero_le _
 | some p =>
  have:=List.mem_of_getElem? e
  obtain ⟨n,hn,rfl⟩:=List.mem_map.1 this
  exact h n hn
theorem toks_getD {l:Ts} (h:∀ n∈l,n.2≤4096) (i:Nat):(l.getD i noTk).2≤4096:=by
 rw [List.getD_eq_getElem?_getD]
 cases e:l[i]? with
 | none=>exact Nat.zero_le _
 | some p=>exact h _ (List.mem_of_getElem? e)
theorem params_pg {ts:Ts} (f:Nat) {s:Ps} (h:Okq ts s):Pq ts s (listA ts 0 (fun s=>skipP ts 13 s) (fun _ s=>some (needP ts 1 s)) f [] s)∧∀ l s',listA ts 0 (fun s=>skipP ts 13 s) (fun _ s=>some (needP ts 1 s)) f [] s=some (.ok l s')→∀ x∈l,x.2≤4096:=by
 have h1:∀ (acc:Ts) (s:Ps),Okq ts s→(skipP ts 13 s).1=true→Pg ts s ((fun (_:Ts) s=>some (needP ts 1 s)) acc (skipP ts 13 s).2):=fun acc s hs _ a s' e=>by
  obtain ⟨q1,q2⟩:=Pg.need (hs.skip (k:=13) (by decide)) (k:=1) (by decide) a s' e
  exact ⟨Nat.lt_of_le_of_lt (skip_pos ts 13 s) q1,q2⟩
 refine ⟨(listA_pg (btw:=0) (by decide) (fun s hs=>⟨skip_pos ts 13 s,hs.skip (by decide)⟩) h1 f [] s h).1,fun l s' e=>?_⟩
 refine listA_all (Q:=fun x=>x.2≤4096) (btw:=0) (by decide) (fun s hs=>⟨skip_pos ts 13 s,hs.skip (by decide)⟩) h1 (fun acc s a s' hs hth e=>?_) f [] s l s' h (by simp) e
 have hs2:=hs.skip (k:=13) (by decide)
 injection e with e
 unfold needP at e
 split at e
 ·injection e with e1 e2; subst e1; exact hs2.txt.2
 ·cases e
theorem elems_place {ts:Ts} {f g:Nat} {s s':Ps} {l:List Nd} (hg:∀ s,Okq ts s→Pg ts s (elementP ts g s)) (h:Okq ts s) (e:listA ts 0 (fun s=>(!standsP ts 9 s,s)) (fun _=>elementP ts g) f [] s=some (.ok l s')):∀ n∈l,n.place≤4096 :=
 listA_all (Q:=fun n=>n.place≤4096) (btw:=0) (by decide) (fun s hs=>⟨Nat.le_refl _,hs⟩) (fun acc s hs _=>hg s hs) (fun acc s a s' hs hth e=>by rw [elem_place e]; exact hs.txt.2) f [] s l s' h (by simp) e
structure PgAll (ts:Ts) (f:Nat):Prop where
 expr:∀ s,Okq ts s→Pg ts s (expressionP ts f s)
 casc:∀ s,Okq ts s→Pg ts s (cascadeP ts f s)
 sends:∀ most s,Okq ts s→Pg ts s (sendsP ts f most s)
 ranks:∀ most rank n sent s,Okq ts s→Pq ts s (ranksP ts f most rank n sent s)
 msg:∀ s,Okq ts s→Pg ts s (messageP ts f s)
 prim:∀ most s,Okq ts s→Pg ts s (primaryP ts f most s)
 lit:∀ s,Okq ts s→Pg ts s (literalP ts f s)
 elem:∀ s,Okq ts s→Pg ts s (elementP ts f s)
 blk:∀ s,Okq ts s→(hdT ts s).1.kind=10→Pg ts s (blockP ts f s)
 stmt:∀ s,Okq ts s→Pg ts s (statementP ts f s)
 body:∀ fin s,fin≠18→Okq ts s→Pg ts s (bodyP ts f fin s)
theorem pg_all (ts:Ts):∀ f,PgAll ts f:=by
 intro f
 induction f with
 | zero =>
  refine ⟨fun s _=>?_,fun s _=>?_,fun _ s _=>?_,fun _ _ _ _ s _=>Pg.q ?_,fun s _=>?_,fun _ s _=>?_,fun s _=>?_,fun s _=>?_,fun s _ _=>?_,fun s _=>?_,fun _ s _ _=>?_⟩ <;> first | (unfold expressionP; exact Pg.none) | (unfold cascadeP; exact Pg.none) | (unfold sendsP; exact Pg.none) | (unfold ranksP; exact Pg.none) | (unfold messageP; exact Pg.none) | (unfold primaryP; exact Pg.none) | (unfold literalP; exact Pg.none) | (unfold elementP; exact Pg.none) | (unfold blockP; exact Pg.none) | (unfold statementP; exact Pg.none) | (unfold bodyP; exact Pg.none)
 | succ f ih =>
  have hbodyL:∀ fin s,Okq ts s→Pq ts s (listA ts 16 (fun s=>(!standsP ts fin s,s)) (fun acc s=>if retd acc=true then some (.bad (hdT ts s)) else statementP ts f s) f [] s):=fun fin s h =>
   (listA_pg (btw:=16) (by decide) (fun s hs=>⟨Nat.le_refl _,hs⟩) (fun acc s hs _=>by
    dsimp only
    split
    ·exact Pg.bad
    ·exact ih.stmt s hs) f [] s h).1
  refine ⟨?_,?_,?_,?_,?_,?_,?_,?_,?_,?_,?_⟩
  ·intro s h
   unfold expressionP
   split
   ·rename_i hs
    have h1:=h.take (by rw [stands_kind hs.1]; decide)
    have hk:hdT ts (takeP ts s)=ts.getD (s.pos+1) noTk:=rfl
    have h2:=h1.take (by rw [hk,hs.2]; decide)
    exact Pg.tk (Pg.tk (Pg.bind (ih.expr _ h2) (fun n s1 _ h1=>Pq.ok h1)).q).q
   ·exact ih.casc s h
  ·intro s h
   unfold cascadeP
   refine Pg.bind (ih.sends 3 s h) (fun x s1 _ h1=>?_)
   split
   ·exact Pq.ok h1
   rename_i hst
   split
   ·exact Pg.bad.q
   have h2:=h1.take (by rw [stands_kind (by simpa using hst)]; decide)
   refine (Pg.tk (Pq.bind (listA_pg (btw:=17) (by decide) (fun s hs=>⟨Nat.le_refl _,hs⟩) (fun acc s hs _=>ih.msg s hs) f [] _ h2).1 (fun l s3 _ h3=>?_))).q
   cases x.1.kids with
   | nil=>exact Pg.none.q
   | cons r ks=>exact Pq.ok h3
  ·intro most s h
   unfold sendsP
   exact Pg.bind (ih.prim most s h) (fun n s1 _ h1=>ih.ranks most 1 n false s1 h1)
  ·intro most rank n sent s h
   unfold ranksP
   split
   ·exact Pq.ok h
   split
   ·exact (Pg.bind (ih.msg s h) (fun m s1 _ h1=>ih.ranks most rank (sendN n m) true s1 h1)).q
   ·exact ih.ranks most (rank+1) n sent s h
  ·intro s h
   unfold messageP
   refine Pg.bind (worded_pg (fun k s _ hs=>?_) f s h) (fun x s1 _ h1=>Pq.ok h1)
   exact (Pg.bind (ih.sends (k - 1) s hs) (fun x s1 _ h1=>Pq.ok h1)).q
  ·intro most s h
   unfold primaryP
   split
   ·rename_i hk; exact named_pg h (by rw [hk]; decide)
   split
   ·rename_i hk
    have h1:=h.take (by rw [hk]; decide)
    exact Pg.tk (Pg.bind (ih.expr _ h1) (fun n s1 _ h1=>(need_pq h1 (by decide)).q)).q
   split
   ·rename_i hk; exact ih.blk s h hk
   ·exact ih.lit s h
  ·intro s h
   unfold literalP
   split
   ·rename_i hk; exact integer_pg h (by rcases hk with hk | hk <;> rw [hk] <;> decide)
   split
   ·rename_i hk; exact Pg.tk (Pq.ok (h.take (by rw [hk]; decide)))
   split
   ·rename_i hk; exact Pg.tk (Pq.ok (h.take (by rw [hk]; decide)))
   split
   ·rename_i hk
    have h1:=h.take (by rw [hk]; decide)
    refine Pg.tk (Pq.bind (listA_pg (btw:=0) (by decide) (fun s hs=>⟨Nat.le_refl _,hs⟩) (fun acc s hs _=>ih.elem s hs) f [] _ h1).1 (fun l s1 e1 hs1=>?_))
    have h2:Okq ts (if 32 < l.length then passP 73 ((l.map Nd.place).getD 32 0) s1 else s1)∧s1.pos≤(if 32 < l.length then passP 73 ((l.map Nd.place).getD 32 0) s1 else s1).pos:=by
     have hp:=places_getD (elems_place ih.elem h1 e1) 32
     split
     ·exact ⟨hs1.pass hp,by rw [(passP_place (c:=73) hs1.ok.place hp).2.2]; exact Nat.le_refl _⟩
     ·exact ⟨hs1,Nat.le_refl _⟩
    intro b s' e
    obtain ⟨q1,q2⟩:=need_pq h2.1 (k:=9) (by decide) b s' e
    exact ⟨by omega,q2⟩
   ·exact Pg.bad
  ·intro s h
   unfold elementP
   split
   ·rename_i hk; exact named_pg h (by rw [hk.1]; decide)
   ·exact ih.lit s h
  ·intro s h hk
   unfold blockP
   have h1:=h.take (by rw [hk]; decide)
   obtain ⟨p1,p2⟩:=params_pg f h1
   refine Pg.tk (Pq.bind p1 (fun ps s1 e1 hs1=>?_))
   have hp:=toks_getD (p2 ps s1 e1) 8
   have h2:Okq ts (if 8 < ps.length then passP 73 (ps.getD 8 noTk).2 s1 else s1)∧s1.pos≤(if 8 < ps.length then passP 73 (ps.getD 8 noTk).2 s1 else s1).pos:=by
    split
    ·exact ⟨hs1.pass hp,by rw [(passP_place (c:=73) hs1.ok.place hp).2.2]; exact Nat.le_refl _⟩
    ·exact ⟨hs1,Nat.le_refl _⟩
   dsimp only
   generalize (if 8 < ps.length then passP 73 (ps.getD 8 noTk).2 s1 else s1)=s2 at *
   have rest:∀ s3,Okq ts s3→Pq ts s3 (bindP (temporariesP ts f s3) fun tm s4=>bindP (bodyP ts f 11 s4) fun l s5 =>
    some (.ok (Nd.mk 12 [] ps.length (hdT ts s).2 ((ps++tm).map (·.1.text)) ((ps++tm).map (·.2)) l) s5)):=fun s3 h3=>Pq.bind (temporaries_pq f h3) (fun tm s4 _ h4=>(Pg.bind (ih.body 11 s4 (by decide) h4) (fun l s5 _ h5=>Pq.ok h5)).q)
   by_cases hc:0 < ps.length∧standsP ts 11 s2=false
   ·rw [if_pos hc]
    unfold needP
    by_cases hb:standsP ts 12 s2=true
    ·rw [if_pos hb]
     dsimp only
     have:=h2.1.take (by rw [stands_kind hb]; decide)
     intro b s' e
     obtain ⟨q1,q2⟩:=rest _ this b s' e
     rw [take_pos] at q1
     exact ⟨by omega,q2⟩
    ·rw [if_neg hb]; exact Pg.bad.q
   ·rw [if_neg hc]
    dsimp only
    intro b s' e
    obtain ⟨q1,q2⟩:=rest _ h2.1 b s' e
    exact ⟨by omega,q2⟩
  ·intro s h
   unfold statementP
   split
   ·rename_i hk
    exact Pg.tk (Pg.bind (ih.expr _ (h.take (by rw [stands_kind hk]; decide))) (fun n s1 _ h1=>Pq.ok h1)).q
   ·exact ih.expr s h
  ·intro fin s hf h
   unfold bodyP
   exact Pq.bindG (hbodyL fin s h) (fun l s1 _ h1=>need_pq h1 hf)
end Go.Proofs.YtfhkhmgodkheaaaGreatDoor
namespace Go.Proofs.YtfhkhmgodkheaaaGreatDoor
open Go.RowKit Go.Maps Go.WideMaps
theorem pushS {t e:TypeId} {sz by_:Nat} {z0:Value} (hu:Tryz.prog.underlying t=some (.slice e)) (hinf:(Tryz.prog.info? e).map (fun i=>(i.zero,i.size,i.bytes))=some (some z0,sz,by_)) (hzc:z0.cells.size=sz) (hsz0:0 < sz) (w:World) (base:Nat) (p:Option Addr) (c n:Nat) (xs x:List Value) (h4:x.length=sz) (h:w.ownsRow base e sz (.slice p n c) n xs) (hx:∀ u∈x,u.oneCell'=true) (hn:n+1≤maxLen) (hb:((n+1)+(n+1) / 4+192) * by_≤281474976710656) (hB:base≤w.heap.size) :
  ∃ p' c' w',(Builtin.append_ #[t,t] t #[.slice p n c,.slice (some ⟨w.heap.size,0,none⟩) 1 1]).run Tryz.prog (w.alloc (.cells x.toArray e))=.ok (.slice p' (n+1) c') w' ∧
   w'.ownsRow base e sz (.slice p' (n+1) c') (n+1) (xs++x)∧((p'=p∧c'=c∧Fr (blk p) w w')∨(Fr [] w w'∧∀ g∈blk p',w.heap.size≤g)):=by
 obtain ⟨i,hi,hz,hsize,hby⟩:=info_parts hinf
 have hA:(w.alloc (.cells x.toArray e)).heap.size=w.heap.size+1:=by simp
 have hown:(w.alloc (.cells x.toArray e)).ownsRow base e sz (.slice p n c) n xs:=own_congr h (fun g hg=>Below.heap_alloc _ _ _ (own_lt h g hg).2)
 have hnews:∀ j u,x[j]?=some u→(w.alloc (.cells x.toArray e)).cell? ((⟨w.heap.size,0,none⟩:Addr).add j)=some u:=by
  have:=World.news_of_block (heap_alloc_new w (.cells x.toArray e))
  simpa using this
 have h63:=hn
 obtain ⟨v',w',hr,h2,h3,_⟩:=run_append_own_wide (P:=Tryz.prog) (w.alloc (.cells x.toArray e)) base t t e i _ sz by_ hu hi hz hsize hby hzc hsz0 _ _ _ hown ⟨w.heap.size,0,none⟩ 1 1 x (by rw [h4,Nat.one_mul]) hnews hx h63 hb (by omega)
 rcases h.2 with ⟨e1,e2⟩ | ⟨g,c0,cur,e1,q1,q2,q3,q4,q5,q6⟩
 ·injection e1 with e1 e3 e4
  subst e1
  subst e4
  subst e2
  have hnil:xs=[]:=List.length_eq_zero_iff.1 (by rw [h.1,Nat.zero_mul])
  subst hnil
  have hr2:=run_append_nil (P:=Tryz.prog) (w.alloc (.cells x.toArray e)) t t e i _ hu hi hz ⟨w.heap.size,0,none⟩ 1 1 x (by rw [hsize,h4,Nat.one_mul]) hnews (by decide) (by decide) (by rw [hby]; simp at hb; omega)
  have hr3:=hr
  rw [hr2] at hr3
  injection hr3 with hv hw
  subst hv
  subst hw
  exact ⟨_,_,_,hr,h2,Or.inr ⟨(Fr.alloc [] w _).trans ((Fr.drew [] _).trans (Fr.alloc [] _ _) (by simp)) (by simp),fun g hg=>by simp [blk] at hg; omega⟩⟩
 ·injection e1 with e1 _ e4
  subst e1
  subst e4
  by_cases hroom:n+1≤c
  ·have hg:(w.alloc (.cells x.toArray e)).heap[g]?=some (.cells cur e (0,0)):=(Below.heap_alloc _ _ _ (lt_of_heap q2)).trans q2
   have hr2:=run_append_room (P:=Tryz.prog) (w.alloc (.cells x.toArray e)) t t e i hu hi g n c cur hg ⟨w.heap.size,0,none⟩ 1 1 x (by rw [hsize,h4,Nat.one_mul]) hnews hx hroom (by rw [hsize,q5,h4,← Nat.add_one_mul]; exact Nat.mul_le_mul_right _ hroom)
   have hr3:=hr
   rw [hr2] at hr3
   injection hr3 with hv hw
   subst hv
   refine ⟨_,_,w',hr,h2,Or.inl ⟨rfl,rfl,(Fr.alloc (blk (some ⟨g,0,none⟩)) w _).trans (Fr.grown (S:=[g]) h3 (fun k hk=>?_)) (by simp [blk])⟩⟩
   simp [Value.ownBlock] at hk
   simp [hk]
  ·have holds:∀ j u,xs[j]?=some u→(w.alloc (.cells x.toArray e)).cell? ((⟨g,0,none⟩:Addr).add j)=some u:=hown.cells (g:=g) rfl
   have hr2:=run_append_grow (P:=Tryz.prog) (w.alloc (.cells x.toArray e)) t t e i _ hu hi hz ⟨g,0,none⟩ n c xs (by rw [hsize]; exact h.1) holds ⟨w.heap.size,0,none⟩ 1 1 x (by rw [hsize,h4,Nat.one_mul]) hnews (by omega) (by unfold maxLen at h63; omega) (by rw [hby]; exact growslice_fits_wide (by omega) hb)
   have hr3:=hr
   rw [hr2] at hr3
   injection hr3 with hv hw
   subst hv
   subst hw
   exact ⟨_,_,_,hr,h2,Or.inr ⟨(Fr.alloc [] w _).trans ((Fr.drew [] _).trans (Fr.alloc [] _ _) (by simp)) (by simp),fun g hg=>by simp [blk] at hg; omega⟩⟩
theorem infoN:(Tryz.prog.info? 34).map (fun i=>(i.zero,i.size,i.bytes))=some (some (.agg #[.int .i64 0,.string ⟨#[]⟩,.int .i64 0,.int .i64 0,.slice none 0 0,.slice none 0 0,.slice none 0 0]),7,112):=by kernel_rfl
theorem pushN (w:World) (base:Nat) (p:Option Addr) (c n:Nat) (xs x:List Value) (h4:x.length=7) (h:w.ownsRow base 34 7 (.slice p n c) n xs) (hx:∀ u∈x,u.oneCell'=true) (hn:n≤1000000) (hB:base≤w.heap.size) :
  ∃ p' c' w',(Builtin.append_ #[25,25] 25 #[.slice p n c,.slice (some ⟨w.heap.size,0,none⟩) 1 1]).run Tryz.prog (w.alloc (.cells x.toArray 34))=.ok (.slice p' (n+1) c') w' ∧
   w'.ownsRow base 34 7 (.slice p' (n+1) c') (n+1) (xs++x)∧((p'=p∧c'=c∧Fr (blk p) w w')∨(Fr [] w w'∧∀ g∈blk p',w.heap.size≤g)) :=
 pushS Tryz.underlying25 infoN rfl (by decide) w base p c n xs x h4 h hx (by unfold maxLen; omega) (by omega) hB
theorem pushT (w:World) (base:Nat) (p:Option Addr) (c n:Nat) (xs x:List Value) (h4:x.length=4) (h:w.ownsRow base 54 4 (.slice p n c) n xs) (hx:∀ u∈x,u.oneCell'=true) (hn:n≤1000000) (hB:base≤w.heap.size) :
  ∃ p' c' w',(Builtin.append_ #[50,50] 50 #[.slice p n c,.slice (some ⟨w.heap.size,0,none⟩) 1 1]).run Tryz.prog (w.alloc (.cells x.toArray 54))=.ok (.slice p' (n+1) c') w' ∧
   w'.ownsRow base 54 4 (.slice p' (n+1) c') (n+1) (xs++x)∧((p'=p∧c'=c∧Fr (blk p) w w')∨(Fr [] w w'∧∀ g∈blk p',w.heap.size≤g)) :=
 push4 w base p c n xs x h4 h hx (by omega) hB
def posW (w:World) (P:Nat):Nat:=match w.cell? ⟨P,1,none⟩ with | some (.int _ n)=>n.toNat | _=>0
theorem Pr.posW {w:World} {P g c:Nat} {ts:Ts} {s:Ps} (h:Pr w P g c ts s):posW w P=s.pos:=by
 unfold YtfhkhmgodkheaaaGreatDoor.posW
 rw [h.cells.2.1]
 simp
theorem blk_ob (p:Option Addr) (n c:Nat):(Value.slice p n c).ownBlock.toList=blk p:=by cases p <;> rfl
theorem oneCell_node {w:World} {n:Nd} {c0 c1 c2 c3 c4 c5 c6:Value} {ft:List Nat} (h:NdM w n (.agg #[c0,c1,c2,c3,c4,c5,c6]) ft):∀ u∈[c0,c1,c2,c3,c4,c5,c6],u.oneCell'=true:=by
 generalize hv:Value.agg #[c0,c1,c2,c3,c4,c5,c6]=v at h
 cases h with
 | mk h1 h2 h3 h4 =>
  injection hv with hv
  obtain ⟨p1,c1',e1⟩:=h1.slice
  obtain ⟨p2,c2',e2⟩:=h2.slice
  obtain ⟨p3,c3',e3⟩:=h3.slice
  simp only [Array.mk.injEq,List.cons.injEq,and_true] at hv
  obtain ⟨rfl,rfl,rfl,rfl,rfl,rfl,rfl⟩:=hv
  subst e1 e2 e3
  intro u hu
  simp only [List.mem_cons,List.not_mem_nil,or_false] at hu
  rcases hu with rfl | rfl | rfl | rfl | rfl | rfl | rfl <;> rfl
theorem NdM.form {w:World} {n:Nd} {v:Value} {ft:List Nat} (h:NdM w n v ft):∃ c0 c1 c2 c3 c4 c5 c6,v=.agg #[c0,c1,c2,c3,c4,c5,c6]:=by
 cases h with
 | mk h1 h2 h3 h4=>exact ⟨_,_,_,_,_,_,_,rfl⟩
end Go.Proofs.YtfhkhmgodkheaaaGreatDoor
