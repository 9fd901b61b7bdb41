import Derived.Test.YtfhkhmgodkheaaaGreatDoorQAG37UNv
import Derived.Test.YtfhkhmgodkheaaaGreatDoorQAG33TW2
set_option linter.unusedSimpArgs false
set_option linter.unusedVariables false
set_option maxRecDepth 1000000
set_option maxHeartbeats 16000000
namespace Go.Proofs.YtfhkhmgodkheaaaGreatDoor
theorem smL_all (l:List Nd):smL l=true ↔ ∀ n∈l,smN n=true:=by
 induction l with
 | nil=>simp [smL]
 | cons n r ih=>rw [smL]; simp [ih]
theorem smN_mk {k:Nat} {t:Bs} {v:Int} {p:Nat} {ns:List Bs} {ps:List Nat} {ks:List Nd} (h1:t.length≤268435456) (h2:ns.length≤268435456) (h3:ks.length≤268435456) (h4:∀ n∈ks,smN n=true):smN (.mk k t v p ns ps ks)=true:=by
 rw [smN,decide_eq_true h1,decide_eq_true h2,decide_eq_true h3,(smL_all ks).2 h4]; rfl
theorem smN_of {k:Nat} {t:Bs} {v:Int} {p:Nat} {ns:List Bs} {ps:List Nat} {ks:List Nd} (h:smN (.mk k t v p ns ps ks)=true):t.length≤268435456∧ns.length≤268435456∧ks.length≤268435456∧∀ n∈ks,smN n=true:=by
 rw [smN,Bool.and_eq_true,Bool.and_eq_true,Bool.and_eq_true] at h
 exact ⟨of_decide_eq_true h.1,of_decide_eq_true h.2.1,of_decide_eq_true h.2.2.1,(smL_all ks).1 h.2.2.2⟩
def Sz (r:Option (Rs Nd)):Prop:=∀ n s1,r=some (.ok n s1)→smN n=true
theorem Sz.ok {n:Nd} {s:Ps} (h:smN n=true):Sz (some (.ok n s)):=by intro m s1 e; injection e with e; injection e with e1 e2; subst e1; exact h
theorem Sz.bad {x:Tok × Nat}:Sz (some (.bad x)):=by intro m s1 e; injection e with e; cases e
theorem Sz.no:Sz none:=by intro m s1 e; cases e
theorem Sz.bind {α:Type} {r:Option (Rs α)} {k:α→Ps→Option (Rs Nd)} (hk:∀ a s1,r=some (.ok a s1)→Sz (k a s1)):Sz (bindP r k):=by
 intro n s2 e
 obtain ⟨a,s1,e1,e2⟩:=bindP_ok e
 exact hk a s1 e1 n s2 e2
theorem smN_leaf {k:Nat} {t:Bs} {v:Int} {p:Nat} (h:t.length≤4096):smN (.mk k t v p [] [] [])=true:=smN_mk (by omega) (by simp) (by simp) (by simp)
theorem words_text:∀ (us:Ts) (i:Nat) (l:Bs) (s:Ps),(∀ x∈us,x.1.text.length≤4096)→(wordsP i l us s).1.length≤l.length+us.length * 4097:=by
 intro us
 induction us with
 | nil=>intro i l s h; exact Nat.le_add_right _ _
 | cons x r ih =>
  intro i l s h
  unfold wordsP
  refine Nat.le_trans (ih _ _ _ (fun y hy=>h y (by simp [hy]))) ?_
  have:=h x (by simp)
  simp
  omega
theorem worded_text {ts:Ts} {one:Nat→Ps→Option (Rs Nd)} (ho:∀ k s,k≤3→Okq ts s→Pq ts s (one k s)) (hs:∀ k s,k≤3→Okq ts s→Sz (one k s)) (f:Nat) (s:Ps) (h:Okq ts s) (x:Bs × List Nd) (s':Ps) (e:wordedP ts one f s=some (.ok x s')):x.1.length≤268435456∧∀ n∈x.2,smN n=true:=by
 unfold wordedP at e
 have ht:=h.txt.1
 by_cases h1:rankT (hdT ts s)=1
 ·rw [if_pos h1] at e; injection e with e; injection e with e1 e2; subst e1; exact ⟨by dsimp only; omega,by simp⟩
 rw [if_neg h1] at e
 by_cases h2:rankT (hdT ts s)=2
 ·rw [if_pos h2] at e
  obtain ⟨a,s1,e1,e2⟩:=bindP_ok e
  have hq:=h.take (rank_kind (by rw [h2]; decide))
  have:=hs 2 _ (by decide) hq a s1 e1
  injection e2 with e; injection e with e1 e2; subst e1
  exact ⟨by dsimp only; omega,by simpa using this⟩
 rw [if_neg h2] at e
 by_cases h3:rankT (hdT ts s)=3
 ·rw [if_pos h3] at e
  unfold keywordsP at e
  obtain ⟨l,s1,e1,e2⟩:=bindP_ok e
  have hp:∀ (acc:List ((Tok × Nat) × Nd)) (s:Ps),Okq ts s→(decide (rankT (hdT ts s)=3),s).1=true→Pg ts s ((fun (_:List ((Tok × Nat) × Nd)) s=>bindP (one 3 (takeP ts s)) (fun a s2=>some (.ok (hdT ts s,a) s2))) acc s):=by
   intro acc s hs hth
   have hk:rankT (hdT ts s)=3:=by simpa using hth
   have ht:=hs.take (rank_kind (by rw [hk]; decide))
   exact Pg.tk (Pq.bind (ho 3 _ (by decide) ht) (fun a s1 _ h1=>Pq.ok h1))
  have hl:=listA_len (there:=fun s=>(decide (rankT (hdT ts s)=3),s)) (one:=fun (_:List ((Tok × Nat) × Nd)) s=>bindP (one 3 (takeP ts s)) (fun a s2=>some (.ok (hdT ts s,a) s2))) (btw:=0) (by decide) (fun s hs=>⟨Nat.le_refl _,hs⟩) hp f [] s l s1 h (Nat.zero_le _) e1
  have hq:=((listA_pg (there:=fun s=>(decide (rankT (hdT ts s)=3),s)) (one:=fun (_:List ((Tok × Nat) × Nd)) s=>bindP (one 3 (takeP ts s)) (fun a s2=>some (.ok (hdT ts s,a) s2))) (btw:=0) (by decide) (fun s hs=>⟨Nat.le_refl _,hs⟩) hp f [] s h).1 l s1 e1).2
  have hall:=listA_all (there:=fun s=>(decide (rankT (hdT ts s)=3),s)) (one:=fun (_:List ((Tok × Nat) × Nd)) s=>bindP (one 3 (takeP ts s)) (fun a s2=>some (.ok (hdT ts s,a) s2))) (Q:=fun a=>a.1.1.text.length≤4096∧smN a.2=true) (btw:=0) (by decide) (fun s hs=>⟨Nat.le_refl _,hs⟩) hp (fun acc s a s' hs2 hth e=>by
   obtain ⟨b,s1,e1,e2⟩:=bindP_ok e
   have hk:rankT (hdT ts s)=3:=by simpa using hth
   injection e2 with e2; injection e2 with e2 e3; subst e2
   exact ⟨hs2.txt.1,hs 3 _ (by decide) (hs2.take (rank_kind (by rw [hk]; decide))) b s1 e1⟩) f [] s l s1 h (by simp) e1
  have h9:=hq.lt
  have h8:=hq.len
  injection e2 with e; injection e with e1 e2; subst e1
  refine ⟨?_,fun n hn=>?_⟩
  ·have:=words_text (l.map (·.1)) 0 [] s1 (fun x hx=>by obtain ⟨a,ha,rfl⟩:=List.mem_map.1 hx; exact (hall a ha).1)
   refine Nat.le_trans this ?_
   rw [List.length_map,List.length_nil,Nat.zero_add]
   have:l.length * 4097≤4097 * 4097:=Nat.mul_le_mul_right _ (by omega)
   omega
  ·obtain ⟨a,ha,rfl⟩:=List.mem_map.1 hn
   exact (hall a ha).2
 ·rw [if_neg h3] at e; injection e with e; cases e
theorem integer_sz {ts:Ts} {s:Ps}:Sz (some (integerP ts s)):=by
 unfold integerP
 dsimp only
 split
 ·exact Sz.ok (smN_leaf (by simp))
 split
 ·exact Sz.ok (smN_leaf (by simp))
 ·exact Sz.bad
theorem named_sz {ts:Ts} {s:Ps} {most:Nat} (h:Okq ts s):Sz (some (namedP ts most s)):=by
 have:=h.txt.1
 unfold namedP
 dsimp only
 split
 ·exact Sz.ok (smN_leaf this)
 split
 ·exact Sz.ok (smN_leaf this)
 split
 ·exact Sz.bad
 ·exact Sz.ok (smN_leaf (by simp))
theorem sz_send {n m:Nd} (hn:smN n=true) (hm:smN m=true) (hl:m.kids.length≤4097):smN (sendN n m)=true:=by
 cases m
 obtain ⟨a,b,c,d⟩:=smN_of hm
 unfold sendN
 refine smN_mk a b ?_ ?_
 ·have:(Nd.mk _ _ _ _ _ _ ‹List Nd›).kids.length≤4097:=hl
  show (n :: _).length≤_
  rw [List.length_cons]
  show List.length _+1≤_
  have h2:=hl
  unfold Nd.kids at h2
  simp only at h2
  unfold Nd.kids
  simp only
  omega
 ·intro x hx
  rcases List.mem_cons.1 hx with rfl | hx
  ·exact hn
  ·exact d x hx
structure SzAll (ts:Ts) (f:Nat):Prop where
 expr:∀ s,Okq ts s→Sz (expressionP ts f s)
 casc:∀ s,Okq ts s→Sz (cascadeP ts f s)
 sends:∀ most s,Okq ts s→∀ n b s1,sendsP ts f most s=some (.ok (n,b) s1)→smN n=true
 ranks:∀ most rank m sent s,Okq ts s→smN m=true→∀ n b s1,ranksP ts f most rank m sent s=some (.ok (n,b) s1)→smN n=true
 msg:∀ s,Okq ts s→Sz (messageP ts f s)
 prim:∀ most s,Okq ts s→Sz (primaryP ts f most s)
 lit:∀ s,Okq ts s→Sz (literalP ts f s)
 elem:∀ s,Okq ts s→Sz (elementP ts f s)
 blk:∀ s,Okq ts s→(hdT ts s).1.kind=10→Sz (blockP ts f s)
 stmt:∀ s,Okq ts s→Sz (statementP ts f s)
 body:∀ fin s,fin≠18∨fin=18→Okq ts s→∀ l s1,bodyP ts f fin s=some (.ok l s1)→l.length≤4097∧∀ n∈l,smN n=true
theorem tm_len {ts:Ts} {f:Nat} {s:Ps} (h:Okq ts s) {l:Ts} {s1:Ps} (e:temporariesP ts f s=some (.ok l s1)):l.length≤4097:=by
 unfold temporariesP at e
 have hs:=h.skip (k:=12) (by decide)
 cases e2:skipP ts 12 s with
 | mk b s0 =>
  rw [e2] at e hs
  cases b with
  | false=>injection e with e; injection e with e _; subst e; simp
  | true =>
   obtain ⟨l0,s2,e3,e4⟩:=bindP_ok e
   have hp:∀ (acc:Ts) (s:Ps),Okq ts s→((fun s=>(standsP ts 1 s,s)) s:Bool × Ps).1=true→Pg ts s ((fun (_:Ts) s=>some (.ok (hdT ts s) (takeP ts s))) acc s):=fun acc s hs hth=>Pg.tk (Pq.ok (hs.take (by rw [stands_kind hth]; decide)))
   have h1:=listA_len (there:=fun s=>(standsP ts 1 s,s)) (one:=fun (_:Ts) s=>some (.ok (hdT ts s) (takeP ts s))) (btw:=0) (by decide) (fun s hs=>⟨Nat.le_refl _,hs⟩) hp f [] s0 l0 s2 hs (Nat.zero_le _) e3
   have h2:=((listA_pg (there:=fun s=>(standsP ts 1 s,s)) (one:=fun (_:Ts) s=>some (.ok (hdT ts s) (takeP ts s))) (btw:=0) (by decide) (fun s hs=>⟨Nat.le_refl _,hs⟩) hp f [] s0 hs).1 l0 s2 e3).2
   have h3:=h2.lt
   have h4:=h2.len
   unfold needP at e4
   split at e4
   ·cases e4
   ·injection e4 with e4; injection e4 with e4 _; subst e4; omega
theorem sz_all (ts:Ts):∀ f,SzAll ts f:=by
 intro f
 induction f with
 | zero =>
  refine ⟨fun s _=>?_,fun s _=>?_,fun _ s _ n b s1 e=>?_,fun _ _ _ _ s _ _ n b s1 e=>?_,fun s _=>?_,fun _ s _=>?_,fun s _=>?_,fun s _=>?_,fun s _ _=>?_,fun s _=>?_,fun _ s _ _ l s1 e=>?_⟩ <;> first | (unfold expressionP; exact Sz.no) | (unfold cascadeP; exact Sz.no) | (unfold sendsP at e; cases e) | (unfold ranksP at e; cases e) | (unfold messageP; exact Sz.no) | (unfold primaryP; exact Sz.no) | (unfold literalP; exact Sz.no) | (unfold elementP; exact Sz.no) | (unfold blockP; exact Sz.no) | (unfold statementP; exact Sz.no) | (unfold bodyP at e; cases e)
 | succ f ih =>
  have pg:=pg_all ts f
  refine ⟨?_,?_,?_,?_,?_,?_,?_,?_,?_,?_,?_⟩
  ·intro s h
   unfold expressionP
   split
   ·rename_i c
    have ht:=h.txt.1
    have h1:=h.take (by rw [stands_kind c.1]; decide)
    have hk:hdT ts (takeP ts s)=ts.getD (s.pos+1) noTk:=rfl
    have h2:=h1.take (by rw [hk,c.2]; decide)
    exact Sz.bind (fun n s1 e1=>Sz.ok (smN_mk (by omega) (by simp) (by simp) (by simpa using ih.expr _ h2 n s1 e1)))
   ·exact ih.casc s h
  ·intro s h
   unfold cascadeP
   refine Sz.bind (fun x s1 e1=>?_)
   obtain ⟨n,b⟩:=x
   have hn:=ih.sends 3 s h n b s1 e1
   have h1:=(pg.sends 3 s h (n,b) s1 e1).2
   split
   ·exact Sz.ok hn
   rename_i c
   split
   ·exact Sz.bad
   have h2:=h1.take (by rw [stands_kind (by simpa using c)]; decide)
   refine Sz.bind (fun l s2 e2=>?_)
   have hl:=listA_len (there:=fun s=>(true,s)) (one:=fun _=>messageP ts f) (btw:=17) (by decide) (fun s hs=>⟨Nat.le_refl _,hs⟩) (fun acc s hs _=>pg.msg s hs) f [] _ l s2 h2 (Nat.zero_le _) e2
   have hq:=((listA_pg (there:=fun s=>(true,s)) (one:=fun _=>messageP ts f) (btw:=17) (by decide) (fun s hs=>⟨Nat.le_refl _,hs⟩) (fun acc s hs _=>pg.msg s hs) f [] _ h2).1 l s2 e2).2
   have hall:=listA_all (there:=fun s=>(true,s)) (one:=fun _=>messageP ts f) (Q:=fun n=>smN n=true) (btw:=17) (by decide) (fun s hs=>⟨Nat.le_refl _,hs⟩) (fun acc s hs _=>pg.msg s hs) (fun acc s a s' hs _ e=>ih.msg s hs a s' e) f [] _ l s2 h2 (by simp) e2
   have h3:=hq.lt
   have h4:=hq.len
   cases n with
   | mk k t v p ns ps kk =>
    obtain ⟨q1,q2,q3,q4⟩:=smN_of hn
    cases kk with
    | nil=>exact Sz.no
    | cons r ks =>
     refine Sz.ok (smN_mk (by simp) (by simp) ?_ ?_)
     ·simp; omega
     ·intro y hy
      rcases List.mem_cons.1 hy with rfl | hy
      ·exact q4 y (by simp)
      rcases List.mem_cons.1 hy with rfl | hy
      ·exact smN_mk q1 q2 (by simp at q3; omega) (fun z hz=>q4 z (by simp [hz]))
      ·exact hall y hy
  ·intro most s h n b s1 e
   unfold sendsP at e
   obtain ⟨m,s2,e1,e2⟩:=bindP_ok e
   exact ih.ranks most 1 m false s2 (pg.prim most s h m s2 e1).2 (ih.prim most s h m s2 e1) n b s1 e2
  ·intro most rank m sent s h hm n b s1 e
   unfold ranksP at e
   split at e
   ·injection e with e; injection e with e1 _; injection e1 with e1 _; subst e1; exact hm
   split at e
   ·obtain ⟨a,s2,e1,e2⟩:=bindP_ok e
    exact ih.ranks most rank _ true s2 (pg.msg s h a s2 e1).2 (sz_send hm (ih.msg s h a s2 e1) (msg_len h e1)) n b s1 e2
   ·exact ih.ranks most (rank+1) m sent s h hm n b s1 e
  ·intro s h
   unfold messageP
   refine Sz.bind (fun x s1 e1=>?_)
   have ho:∀ k s,k≤3→Okq ts s→Pq ts s (bindP (sendsP ts f (k - 1) s) fun x s1=>some (.ok x.1 s1)):=fun k s _ hs=>(Pg.bind (pg.sends (k - 1) s hs) (fun x s1 _ h1=>Pq.ok h1)).q
   obtain ⟨w1,w2⟩:=worded_text ho (fun k s _ hs=>Sz.bind (fun x s1 e=>by
    obtain ⟨n,b⟩:=x
    exact Sz.ok (ih.sends _ s hs n b s1 e))) f s h x s1 e1
   have w3:=worded_len ho f s h x s1 e1
   exact Sz.ok (smN_mk w1 (by simp) (by omega) w2)
  ·intro most s h
   unfold primaryP
   split
   ·exact named_sz h
   split
   ·rename_i c
    refine Sz.bind (fun n s1 e1=>?_)
    have:=ih.expr _ (h.take (by rw [c]; decide)) n s1 e1
    unfold needP
    by_cases e:standsP ts 9 s1=true
    ·rw [if_pos e]; exact Sz.ok this
    ·rw [if_neg e]; exact Sz.bad
   split
   ·rename_i c; exact ih.blk s h c
   ·exact ih.lit s h
  ·intro s h
   have ht:=h.txt.1
   unfold literalP
   split
   ·exact integer_sz
   split
   ·exact Sz.ok (smN_leaf ht)
   split
   ·exact Sz.ok (smN_leaf ht)
   split
   ·rename_i c
    have h1:=h.take (by rw [c]; decide)
    refine Sz.bind (fun l s2 e2=>?_)
    have hl:=listA_len (there:=fun s=>(!standsP ts 9 s,s)) (one:=fun _=>elementP ts f) (btw:=0) (by decide) (fun s hs=>⟨Nat.le_refl _,hs⟩) (fun acc s hs _=>pg.elem s hs) f [] _ l s2 h1 (Nat.zero_le _) e2
    have hq:=((listA_pg (there:=fun s=>(!standsP ts 9 s,s)) (one:=fun _=>elementP ts f) (btw:=0) (by decide) (fun s hs=>⟨Nat.le_refl _,hs⟩) (fun acc s hs _=>pg.elem s hs) f [] _ h1).1 l s2 e2).2
    have hall:=listA_all (there:=fun s=>(!standsP ts 9 s,s)) (one:=fun _=>elementP ts f) (Q:=fun n=>smN n=true) (btw:=0) (by decide) (fun s hs=>⟨Nat.le_refl _,hs⟩) (fun acc s hs _=>pg.elem s hs) (fun acc s a s' hs _ e=>ih.elem s hs a s' e) f [] _ l s2 h1 (by simp) e2
    have h3:=hq.lt
    have h4:=hq.len
    generalize (if 32 < l.length then passP 73 ((l.map Nd.place).getD 32 0) s2 else s2)=s3
    unfold needP
    by_cases e:standsP ts 9 s3=true
    ·rw [if_pos e]; exact Sz.ok (smN_mk (by simp) (by simp) (by omega) hall)
    ·rw [if_neg e]; exact Sz.bad
   ·exact Sz.bad
  ·intro s h
   unfold elementP
   split
   ·exact named_sz h
   ·exact ih.lit s h
  ·intro s h hk
   unfold blockP
   have h1:=h.take (by rw [hk]; decide)
   obtain ⟨p1,p2⟩:=params_pg f h1
   refine Sz.bind (fun ps s1 e1=>?_)
   have hs1:=(p1 ps s1 e1).2
   have hp:=toks_getD (p2 ps s1 e1) 8
   have hpl:ps.length≤4097:=by
    have h13:∀ (acc:Ts) (s:Ps),Okq ts s→(skipP ts 13 s).1=true→Pg ts s ((fun (_:Ts) s=>some (needP ts 1 s)) acc (skipP ts 13 s).2):=fun acc s hs _ a s' e=>by
     obtain ⟨q1,q2⟩:=Pg.need (hs.skip (k:=13) (by decide)) (k:=1) (by decide) a s' e
     exact ⟨Nat.lt_of_le_of_lt (skip_pos ts 13 s) q1,q2⟩
    have hl:=listA_len (btw:=0) (by decide) (fun s hs=>⟨skip_pos ts 13 s,hs.skip (by decide)⟩) h13 f [] _ ps s1 h1 (Nat.zero_le _) e1
    have h3:=hs1.lt
    have h4:=hs1.len
    omega
   have hq:Okq ts (if 8 < ps.length then passP 73 (ps.getD 8 noTk).2 s1 else s1):=by
    split
    ·exact hs1.pass hp
    ·exact hs1
   dsimp only
   generalize (if 8 < ps.length then passP 73 (ps.getD 8 noTk).2 s1 else s1)=s2 at *
   have rest:∀ s3,Okq ts s3→Sz (bindP (temporariesP ts f s3) fun tm s4=>bindP (bodyP ts f 11 s4) fun l s5 =>
     some (.ok (Nd.mk 12 [] ps.length (hdT ts s).2 ((ps++tm).map (·.1.text)) ((ps++tm).map (·.2)) l) s5)):=fun s3 h3=>by
    refine Sz.bind (fun tm s4 e4=>Sz.bind (fun l s5 e5=>?_))
    have hb:=ih.body 11 s4 (Or.inl (by decide)) (temporaries_pq f h3 tm s4 e4).2 l s5 e5
    have ht:=tm_len h3 e4
    exact Sz.ok (smN_mk (by simp) (by simp; omega) (by omega) hb.2)
   by_cases hc:0 < ps.length∧standsP ts 11 s2=false
   ·rw [if_pos hc]
    unfold needP
    by_cases hb:standsP ts 12 s2=true
    ·rw [if_pos hb]; exact rest _ (hq.take (by rw [stands_kind hb]; decide))
    ·rw [if_neg hb]; exact Sz.bad
   ·rw [if_neg hc]; exact rest _ hq
  ·intro s h
   unfold statementP
   split
   ·rename_i c
    have h1:=h.take (by rw [stands_kind c]; decide)
    exact Sz.bind (fun n s1 e1=>Sz.ok (smN_mk (by simp) (by simp) (by simp) (by simpa using ih.expr _ h1 n s1 e1)))
   ·exact ih.expr s h
  ·intro fin s _ h l s1 e
   unfold bodyP at e
   have hpg:∀ (acc:List Nd) (s:Ps),Okq ts s→((fun s=>(!standsP ts fin s,s)) s:Bool × Ps).1=true→Pg ts s ((fun acc s=>if retd acc=true then some (.bad (hdT ts s)) else statementP ts f s) acc s):=fun acc s hs _=>by
    dsimp only
    split
    ·exact Pg.bad
    ·exact pg.stmt s hs
   obtain ⟨l0,s2,e1,e2⟩:=bindP_ok e
   have hl:=listA_len (btw:=16) (by decide) (fun s hs=>⟨Nat.le_refl _,hs⟩) hpg f [] s l0 s2 h (Nat.zero_le _) e1
   have hq:=((listA_pg (btw:=16) (by decide) (fun s hs=>⟨Nat.le_refl _,hs⟩) hpg f [] s h).1 l0 s2 e1).2
   have hall:=listA_all (Q:=fun n=>smN n=true) (btw:=16) (by decide) (fun s hs=>⟨Nat.le_refl _,hs⟩) hpg (fun acc s a s' hs _ e=>by
    dsimp only at e
    split at e
    ·injection e with e; cases e
    ·exact ih.stmt s hs a s' e) f [] s l0 s2 h (by simp) e1
   have h3:=hq.lt
   have h4:=hq.len
   unfold needP at e2
   split at e2
   ·cases e2
   ·injection e2 with e2; injection e2 with e2 _; subst e2; exact ⟨by omega,hall⟩
theorem rest_sz {ts:Ts} {f:Nat} {ps:Ts} {s:Ps} (h:Okq ts s) (hp:ps.length≤4097) {t:Src} {s1:Ps} (e:restP ts f ps s=some (.ok t s1)):t.names.length≤8194∧t.body.length≤4097∧smL t.body=true:=by
 unfold restP at e
 obtain ⟨tm,s2,e1,e2⟩:=bindP_ok e
 obtain ⟨l,s3,e3,e4⟩:=bindP_ok e2
 have ht:=tm_len h e1
 have hb:=(sz_all ts f).body 18 s2 (Or.inr rfl) (temporaries_pq f h tm s2 e1).2 l s3 e3
 injection e4 with e4; injection e4 with e4 _; subst e4
 exact ⟨by simp; omega,hb.1,(smL_all _).2 hb.2⟩
theorem Reads.sm {m:Bool} {l:Bs} {t:Src} {c a:Nat} (h:Reads m l (some t) c a):t.names.length≤8194∧t.body.length≤4097∧smL t.body=true:=by
 obtain ⟨ts,c0,a0,h1,h2⟩:=h
 rcases h2 with ⟨_,h2,_⟩ | ⟨hz,h2⟩
 ·cases h2
 subst hz
 have ha:a0=0:=by
  rcases h1 with ⟨_,_,h,_⟩ | ⟨hl,us,er,hx,hr⟩
  ·cases h
  ·rcases hr with ⟨_,_,_,h⟩ | ⟨p,_,_,h,_⟩
   ·exact h
   ·cases h
 subst ha
 have hok:=h1.okq.1
 rcases readP_cases h2 with ⟨x,_,h3,_⟩ | ⟨t',s,hx,hc⟩
 ·cases h3
 have et:t'=t:=by
  rcases hc with ⟨_,h3,_⟩ | ⟨_,h3,_⟩
  ·injection h3 with h3; exact h3.symm
  ·cases h3
 subst et
 cases m with
 | false=>exact rest_sz (ps:=[]) hok (by simp) hx
 | true =>
  have hx':methodP ts (fuelT ts) s0=some (.ok t' s):=hx
  unfold methodP at hx'
  obtain ⟨x,s1,e1,e2⟩:=bindP_ok hx'
  obtain ⟨t0,s2,e3,e4⟩:=bindP_ok e2
  have ho:∀ (k:Nat) s,k≤3→Okq ts s→Pq ts s ((fun _ s=>some (needP ts 1 s)) k s):=fun k s _ hs=>(Pg.need hs (by decide)).q
  have hs1:=(worded_pg ho (fuelT ts) s0 hok x s1 e1).2
  have hl:=worded_len ho (fuelT ts) s0 hok x s1 e1
  have:=rest_sz hs1 hl e3
  injection e4 with e4; injection e4 with e4 _; subst e4
  exact this
end Go.Proofs.YtfhkhmgodkheaaaGreatDoor
namespace Go.Proofs.YtfhkhmgodkheaaaGreatDoor
open Go.RowKit Go.Maps
def srcK:ByteArray:=⟨#[97,116,58,32,120,32,112,117,116,58,32,121,32,124,32,116,32,124,32,116,58,61,120,46,94,116,32,102,111,111,58,121,43,49,59,98,97,114]⟩
def srcB:ByteArray:=⟨#[97,46,46,32,98]⟩
def txtK:Bs:=[97,116,58,32,120,32,112,117,116,58,32,121,32,124,32,116,32,124,32,116,32,58,61,32,120,46,32,94,116,32,102,111,111,58,32,121,32,43,32,49,59,32,98,97,114]
def tokK (s:ByteArray):Ts:=match lexF 100 0 (lst s) with | some (ts,_)=>ts++[(stopT,(lst s).length)] | none=>[]
def usK (s:ByteArray):Ts:=match lexF 100 0 (lst s) with | some (ts,_)=>ts | none=>[]
def treeK:Src:=match readP (tokK srcK) (wholeP true (tokK srcK)) (fuelT (tokK srcK)) with | some (some t,_,_)=>t | _=>⟨[],0,0,[],[],[]⟩
theorem lexK:LexR (lst srcK) (tokK srcK) 0 0:=Or.inr ⟨by decide,usK srcK,none,lx_of 100 0 _ _ _ (by decide +kernel),Or.inl ⟨rfl,by decide +kernel,rfl,rfl⟩⟩
theorem lexB:LexR (lst srcB) (tokK srcB) 0 0:=Or.inr ⟨by decide,usK srcB,none,lx_of 100 0 _ _ _ (by decide +kernel),Or.inl ⟨rfl,by decide +kernel,rfl,rfl⟩⟩
theorem readK:readP (tokK srcK) (wholeP true (tokK srcK)) (fuelT (tokK srcK))=some (some treeK,0,0):=by kernel_rfl
theorem readB:readP (tokK srcB) (wholeP false (tokK srcB)) (fuelT (tokK srcB))=some (none,71,2):=by kernel_rfl
theorem readsK:Reads true (lst srcK) (some treeK) 0 0:=⟨_,0,0,lexK,Or.inr ⟨rfl,readK⟩⟩
theorem readsB:Reads false (lst srcB) none 71 2:=⟨_,0,0,lexB,Or.inr ⟨rfl,readB⟩⟩
theorem smK:smL treeK.body=true:=by kernel_rfl
theorem lenK:treeK.body.length=2:=by kernel_rfl
theorem namK:treeK.names.length=3:=by kernel_rfl
theorem printK:printP (trS treeK)=(txtK,0):=by kernel_rfl
theorem txt_eq:((ba txtK).toList == [97,116,58,32,120,32,112,117,116,58,32,121,32,124,32,116,32,124,32,116,32,58,61,32,120,46,32,94,116,32,102,111,111,58,32,121,32,43,32,49,59,32,98,97,114])=true:=by
 rw [tl_lst,lst_ba]
 decide
theorem methodK (w:World) (hE:Env w):Calls Tryz.prog 23 #[.string srcK] w fun e w'=>Bl w w'∧∃ a sn sp p c,e=.returned (.tuple #[.agg #[.string (ba treeK.sel),a,.int .i64 treeK.params,sn,sp,.slice p 2 c],.agg #[.int .i64 0,.int .i64 0]])∧(#[.string (ba treeK.sel),a,.int .i64 treeK.params,sn,sp,.slice p 2 c]:Array Value).all (·.oneCell')=true∧TrM w' (trS treeK) a sn sp (.slice p 2 c):=by
 refine (method_top srcK _ 0 0 w hE.tab (by decide) readsK).mono ?_
 rintro e w' ⟨b,t0,t1,t2,t3,t4,t5,ft,rfl,hs,ha⟩
 have hall:=hs.all.1
 obtain ⟨a,sn,sp,sb,hv,hT⟩:=hs.tr (by rw [namK]; decide) (by rw [lenK]; decide) smK
 obtain ⟨p,c,rfl,_,_⟩:=hT.rn.slc
 have hl:(trS treeK).body.length=2:=by show (trL treeK.body).length=2; rw [trL_len,lenK]
 rw [hl] at hv hT
 refine ⟨b,a,sn,sp,p,c,?_,?_,hT⟩
 ·rw [hv]; rfl
 ·have hv':(#[t0,t1,t2,t3,t4,t5]:Array Value)=#[.string (ba treeK.sel),a,.int .i64 treeK.params,sn,sp,.slice p 2 c]:=by
   have:=hv
   unfold trV at this
   injection this
  rw [← hv']
  exact hall
theorem doitB (w:World) (hE:Env w):Calls Tryz.prog 10 #[.string srcB] w fun e w'=>Bl w w'∧e=.returned (.tuple #[noSrc,.agg #[.int .i64 71,.int .i64 2]]):=by
 refine (doit_top srcB _ 71 2 w hE.tab (by decide) readsB).mono ?_
 rintro e w' ⟨b,h⟩
 exact ⟨b,h⟩
theorem printT (w:World) (hE:Env w) (a sn sp p) (c:Nat) (hT:TrM w (trS treeK) a sn sp (.slice p 2 c)):Calls Tryz.prog 14 #[.agg #[.string (ba treeK.sel),a,.int .i64 treeK.params,sn,sp,.slice p 2 c]] w fun e w'=>e=.returned (.tuple #[.string (ba txtK),.int .i64 0])∧Bl w w':=by
 have:=print_top (trS treeK) a sn sp (.slice p 2 c) w hE hT
 rw [printK] at this
 exact this
theorem pknown_ok (w:World) (hE:Env w):Calls Tryz.prog 9 #[] w fun e w'=>e=.returned (.bool true)∧Bl w w':=by
 have HM:=mkHid (methodK w hE)
 have HD:=mkHid (fun V (bl:Bl w V)=>doitB V (hE.mono bl))
 have HP:=mkHid (fun V (bl:Bl w V)=>printT V (hE.mono bl))
 have hteq:=txt_eq
 have he1:srcK=⟨#[97,116,58,32,120,32,112,117,116,58,32,121,32,124,32,116,32,124,32,116,58,61,120,46,94,116,32,102,111,111,58,121,43,49,59,98,97,114]⟩:=rfl
 have he2:srcB=⟨#[97,46,46,32,98]⟩:=rfl
 rw [he1] at HM
 rw [he2] at HD
 have HNs:Hid (noSrc=.agg #[.string ⟨#[]⟩,.int .i64 0,.int .i64 0,.slice none 0 0,.slice none 0 0,.slice none 0 0]):=mkHid rfl
 rw [HNs.out] at HD
 generalize ba treeK.sel=ks at *
 generalize treeK.params=kp at *
 generalize ba txtK=kt at *
 clear he1 he2 hE HNs
 go_enter Tryz.func9,Tryz.ntmps9
 go_wp2_with (first
  | (
   go_at_call 23; refine HM.out.mono ?_; rintro e w1 ⟨b1,a,sn,sp,p,c,rfl,hall,hT⟩
   have HAll:=mkHid hall
   obtain ⟨W2,hW2⟩:∃ X,(w1.alloc (.cells #[.string ⟨#[]⟩,.int .i64 0,.int .i64 0,.slice none 0 0,.slice none 0 0,.slice none 0 0] 27)).alloc (.cells #[.int .i64 0,.int .i64 0] 30)=X:=⟨_,rfl⟩
   obtain ⟨b2,s2,g0,g1⟩:=two_boxes hW2
   have G0:Hid (W2.heap[w1.heap.size]?=some (.cells #[.string ⟨#[]⟩,.int .i64 0,.int .i64 0,.slice none 0 0,.slice none 0 0,.slice none 0 0] 27 (0,0))):=mkHid g0
   obtain ⟨W3,hW3⟩:∃ X,W2.setRow w1.heap.size #[.string ks,a,.int .i64 kp,sn,sp,.slice p 2 c]=X:=⟨_,rfl⟩
   have f3:Fr [w1.heap.size] W2 W3:=hW3▸row_fr _ _ _
   have k0:W3.heap[w1.heap.size]?=some (.cells #[.string ks,a,.int .i64 kp,sn,sp,.slice p 2 c] 27 (0,0)):=hW3▸setRow_heap _ _ _ _ 27 (0,0) g0
   have K1:Hid (W3.heap[w1.heap.size+1]?=some (.cells #[.int .i64 0,.int .i64 0] 30 (0,0))):=mkHid ((f3.block _ (lt_of_heap g1) (by simp)).trans g1)
   obtain ⟨W4,hW4⟩:∃ X,W3.setRow (w1.heap.size+1) #[.int .i64 0,.int .i64 0]=X:=⟨_,rfl⟩
   have f4:Fr [w1.heap.size+1] W3 W4:=hW4▸row_fr _ _ _
   have m0:=mkHid ((f4.block _ (lt_of_heap k0) (by simp)).trans k0)
   have m1:Hid (W4.heap[w1.heap.size+1]?=some (.cells #[.int .i64 0,.int .i64 0] 30 (0,0))):=mkHid (hW4▸setRow_heap _ _ _ _ 30 (0,0) K1.out)
   have B4:Bl w1 W4:=((((Fr.ofBl b2 []).trans f3 (by simp)).trans f4 (by simp)).bl (by simp))
   have HP4:=mkHid (HP.out W4 (b1.trans B4) a sn sp p c (hT.keep B4))
   have BW:=mkHid (b1.trans B4)
   obtain ⟨x0,x1,x2,x3,x4,x5⟩:=cells6 m0.out
   clear hall hT b2 s2 g0 g1 f3 k0 f4 B4)
  | (refine wpList_store_row rfl 27 _ _ rfl w1.heap.size #[.string ks,a,.int .i64 kp,sn,sp,.slice p 2 c] rfl rfl 27 _ G0.out (by kernel_rfl) rfl HAll.out ?_; rw [hW3])
  | (refine wpList_store_row rfl 30 _ _ rfl (w1.heap.size+1) #[.int .i64 0,.int .i64 0] rfl rfl 30 _ K1.out (by kernel_rfl) rfl (by kernel_rfl) ?_; rw [hW4])
  | (
   go_at_call 14; refine HP4.out.mono ?_; rintro e w5 ⟨rfl,b5⟩
   have HD5:=mkHid (HD.out w5 (BW.out.trans b5)))
  | (
   go_at_call 10; refine HD5.out.mono ?_; rintro e w6 ⟨b6,rfl⟩
   obtain ⟨W7,hW7⟩:∃ X,(w6.alloc (.cells #[.string ⟨#[]⟩,.int .i64 0,.int .i64 0,.slice none 0 0,.slice none 0 0,.slice none 0 0] 27)).alloc (.cells #[.int .i64 0,.int .i64 0] 30)=X:=⟨_,rfl⟩
   obtain ⟨b7,s7,h0,h1⟩:=two_boxes hW7
   have H0:Hid (W7.heap[w6.heap.size]?=some (.cells #[.string ⟨#[]⟩,.int .i64 0,.int .i64 0,.slice none 0 0,.slice none 0 0,.slice none 0 0] 27 (0,0))):=mkHid h0
   obtain ⟨W8,hW8⟩:∃ X,W7.setRow w6.heap.size #[.string ⟨#[]⟩,.int .i64 0,.int .i64 0,.slice none 0 0,.slice none 0 0,.slice none 0 0]=X:=⟨_,rfl⟩
   have f8:Fr [w6.heap.size] W7 W8:=hW8▸row_fr _ _ _
   have H1:Hid (W8.heap[w6.heap.size+1]?=some (.cells #[.int .i64 0,.int .i64 0] 30 (0,0))):=mkHid ((f8.block _ (lt_of_heap h1) (by simp)).trans h1)
   obtain ⟨W9,hW9⟩:∃ X,W8.setRow (w6.heap.size+1) #[.int .i64 71,.int .i64 2]=X:=⟨_,rfl⟩
   have f9:Fr [w6.heap.size+1] W8 W9:=hW9▸row_fr _ _ _
   have n1:W9.heap[w6.heap.size+1]?=some (.cells #[.int .i64 71,.int .i64 2] 30 (0,0)):=hW9▸setRow_heap _ _ _ _ 30 (0,0) H1.out
   have B9:Bl w6 W9:=((((Fr.ofBl b7 []).trans f8 (by simp)).trans f9 (by simp)).bl (by simp))
   have B49:=b5.trans (b6.trans B9)
   have y0:W9.cell? ⟨w6.heap.size+1,0,none⟩=some (.int .i64 71):=by (rw [cell_in n1]; rfl)
   have y1:W9.cell? ⟨w6.heap.size+1,1,none⟩=some (.int .i64 2):=by (rw [cell_in n1]; rfl)
   have y2:W9.cell? ⟨w1.heap.size+1,0,none⟩=some (.int .i64 0):=by (rw [cell_in ((B49.block _ (lt_of_heap m1.out)).trans m1.out)]; rfl)
   have y3:W9.cell? ⟨w1.heap.size,5,none⟩=some (.slice p 2 c):=by (rw [cell_in ((B49.block _ (lt_of_heap m0.out)).trans m0.out)]; rfl)
   have BZ:=mkHid (BW.out.trans B49)
   clear b7 s7 h0 h1 f8 f9 n1 B9 B49 b5 b6)
  | (refine wpList_store_row rfl 27 _ _ rfl w6.heap.size #[.string ⟨#[]⟩,.int .i64 0,.int .i64 0,.slice none 0 0,.slice none 0 0,.slice none 0 0] rfl rfl 27 _ H0.out (by kernel_rfl) rfl (by kernel_rfl) ?_; rw [hW8])
  | (refine wpList_store_row rfl 30 _ _ rfl (w6.heap.size+1) #[.int .i64 71,.int .i64 2] rfl rfl 30 _ H1.out (by kernel_rfl) rfl (by kernel_rfl) ?_; rw [hW9])
  | (go_at_call 15; go_in))
 go_ret
 exact ⟨rfl,BZ.out⟩
structure TsV (w:World) (t:Src) (t0 t1 t2 t3 t4 t5:Value):Prop where
 e:(.agg #[t0,t1,t2,t3,t4,t5]:Value)=trV (trS t) t1 t3 t4 t5
 tv:TvM w (trS t) t3 t4 t5
 tr:TrM w (trS t) t1 t3 t4 t5
theorem TsV.keep {w w':World} {t:Src} {t0 t1 t2 t3 t4 t5:Value} (h:TsV w t t0 t1 t2 t3 t4 t5) (b:Bl w w'):TsV w' t t0 t1 t2 t3 t4 t5:=⟨h.e,h.tv.keep b,h.tr.keep b⟩
theorem ts_of {m:Bool} {l:Bs} {c a:Nat} {t:Src} (hr:Reads m l (some t) c a) {w:World} {t0 t1 t2 t3 t4 t5:Value} {ft:List Nat} (hs:SrM w t (.agg #[t0,t1,t2,t3,t4,t5]) ft):TsV w t t0 t1 t2 t3 t4 t5:=by
 obtain ⟨q1,q2,q3⟩:=hr.sm
 obtain ⟨a',sn,sp,sb,hv,h1,h2⟩:=hs.tv (by omega) (by omega) q3
 have hv2:=hv
 unfold trV at hv
 injection hv with hv
 injection hv with hv
 injection hv with e0 hv
 injection hv with e1 hv
 injection hv with e2 hv
 injection hv with e3 hv
 injection hv with e4 hv
 injection hv with e5 _
 subst e1; subst e3; subst e4; subst e5
 exact ⟨hv2,h1,h2⟩
def PostV (w:World) (r:Option Src) (c a:Nat) (e:Ending) (w':World):Prop:=Bl w w'∧∃ t0 t1 t2 t3 t4 t5,e=.returned (.tuple #[.agg #[t0,t1,t2,t3,t4,t5],.agg #[.int .i64 c,.int .i64 a]])∧(#[t0,t1,t2,t3,t4,t5]:Array Value).all (·.oneCell')=true∧∀ t,r=some t→∃ ft,SrM w' t (.agg #[t0,t1,t2,t3,t4,t5]) ft∧Apt w.heap.size ft
theorem postV_of {w:World} {r:Option Src} {c a:Nat} {e:Ending} {w':World} (h:PostD w r c a e w'):PostV w r c a e w':=by
 obtain ⟨b,h⟩:=h
 refine ⟨b,?_⟩
 cases r with
 | none =>
  dsimp only at h
  exact ⟨_,_,_,_,_,_,h,by kernel_rfl,fun t ht=>by cases ht⟩
 | some t =>
  obtain ⟨t0,t1,t2,t3,t4,t5,ft,rfl,hs,ha⟩:=h
  exact ⟨t0,t1,t2,t3,t4,t5,rfl,hs.all.1,fun t' ht=>by injection ht with ht; subst ht; exact ⟨ft,hs,ha⟩⟩
theorem reads_top (m:Bool) (src:ByteArray) (r:Option Src) (c a:Nat) (w:World) (hE:Env w) (hs:src.size≤140737488355328) (h:Reads m (lst src) r c a):Calls Tryz.prog (if m=true then 23 else 10) #[.string src] w (PostV w r c a):=by
 cases m
 ·exact (doit_top src r c a w hE.tab hs h).mono (fun e w' h'=>postV_of h')
 ·exact (method_top src r c a w hE.tab hs h).mono (fun e w' h'=>postV_of h')
theorem lread_ok (m:Bool) (src:ByteArray) (r:Option Src) (c a:Nat) (w:World) (hE:Env w) (hs:src.size≤140737488355328) (h:Reads m (lst src) r c a):Calls Tryz.prog 13 #[.string src,.bool m] w (PostV w r c a):=by
 obtain ⟨W2,hW2⟩:∃ X,(w.alloc (.cells #[.string ⟨#[]⟩,.int .i64 0,.int .i64 0,.slice none 0 0,.slice none 0 0,.slice none 0 0] 27)).alloc (.cells #[.int .i64 0,.int .i64 0] 30)=X:=⟨_,rfl⟩
 obtain ⟨b2,s2,g0,g1⟩:=two_boxes hW2
 have B2:=mkHid b2
 have S2:=mkHid s2
 have G0:=mkHid g0
 have G1:=mkHid g1
 have HC:=mkHid (reads_top m src r c a W2 (hE.mono b2) hs h)
 clear b2 s2 g0 g1 h hE
 cases m
 all_goals
  go_enter Tryz.func13,Tryz.ntmps13
  go_wp2_with (first
   | (
    first | go_at_call 10 | go_at_call 23
    refine HC.out.mono ?_; rintro e w1 ⟨b1,t0,t1,t2,t3,t4,t5,rfl,hall,hT⟩
    have HAll:=mkHid hall
    have E0:=mkHid ((b1.block _ (lt_of_heap G0.out)).trans G0.out)
    have E1:=mkHid ((b1.block _ (lt_of_heap G1.out)).trans G1.out)
    obtain ⟨W3,hW3⟩:∃ X,w1.setRow w.heap.size #[t0,t1,t2,t3,t4,t5]=X:=⟨_,rfl⟩
    have f3:Fr [w.heap.size] w1 W3:=hW3▸row_fr _ _ _
    have k0:W3.heap[w.heap.size]?=some (.cells #[t0,t1,t2,t3,t4,t5] 27 (0,0)):=hW3▸setRow_heap _ _ _ _ 27 (0,0) E0.out
    have K1:Hid (W3.heap[w.heap.size+1]?=some (.cells #[.int .i64 0,.int .i64 0] 30 (0,0))):=mkHid ((f3.block _ (lt_of_heap E1.out) (by simp)).trans E1.out)
    obtain ⟨W4,hW4⟩:∃ X,W3.setRow (w.heap.size+1) #[.int .i64 c,.int .i64 a]=X:=⟨_,rfl⟩
    have f4:Fr [w.heap.size+1] W3 W4:=hW4▸row_fr _ _ _
    have m0:=mkHid ((f4.block _ (lt_of_heap k0) (by simp)).trans k0)
    have m1:Hid (W4.heap[w.heap.size+1]?=some (.cells #[.int .i64 c,.int .i64 a] 30 (0,0))):=mkHid (hW4▸setRow_heap _ _ _ _ 30 (0,0) K1.out)
    have BW:Hid (Bl w W4):=mkHid ((((Fr.ofBl (B2.out.trans b1) []).trans f3 (by simp)).trans f4 (by simp)).bl (by simp))
    have FT:Hid (∀ t,r=some t→∃ ft,SrM W4 t (.agg #[t0,t1,t2,t3,t4,t5]) ft∧Apt w.heap.size ft):=mkHid (fun t ht=>by
     obtain ⟨ft,h1,h2⟩:=hT t ht
     have hz:=S2.out
     exact ⟨ft,(h1.fr f3 (fun b hb=>by have:=h2.lo b hb; simp; omega)).fr f4 (fun b hb=>by have:=h2.lo b hb; simp; omega),h2.mono (by omega)⟩)
    clear hall hT f3 k0 f4 b1)
   | (refine wpList_store_row rfl 27 _ _ rfl w.heap.size #[t0,t1,t2,t3,t4,t5] rfl rfl 27 _ E0.out (by kernel_rfl) rfl HAll.out ?_; rw [hW3])
   | (refine wpList_store_row rfl 30 _ _ rfl (w.heap.size+1) #[.int .i64 c,.int .i64 a] rfl rfl 30 _ K1.out (by kernel_rfl) rfl (by kernel_rfl) ?_; rw [hW4]))
  obtain ⟨x0,x1,x2,x3,x4,x5⟩:=cells6 m0.out
  have y0:W4.cell? ⟨w.heap.size+1,0,none⟩=some (.int .i64 c):=by rw [cell_in m1.out]; rfl
  have y1:W4.cell? ⟨w.heap.size+1,1,none⟩=some (.int .i64 a):=by rw [cell_in m1.out]; rfl
  refine bodyPost_ret (v:=.tuple #[.agg #[t0,t1,t2,t3,t4,t5],.agg #[.int .i64 c,.int .i64 a]]) (by simp [results,Tryz.results13,go_sem,x0,x1,x2,x3,x4,x5,y0,y1]) rfl ⟨BW.out,t0,t1,t2,t3,t4,t5,rfl,HAll.out,FT.out⟩
end Go.Proofs.YtfhkhmgodkheaaaGreatDoor
