import Derived.Test.YtfhkhmgodkheaaaGreatDoorQAG32PTop
set_option linter.unusedSimpArgs false
set_option linter.unusedVariables false
namespace Go.Proofs.YtfhkhmgodkheaaaGreatDoor
def fT (f:Nat→Nat) (x:Tok × Nat):Tok × Nat:=(x.1,f x.2)
mutual
def mvN (f:Nat→Nat):Nd→Nd
 | .mk k t n p ns ps ks=>.mk k t n (f p) ns (ps.map f) (mvL f ks)
def mvL (f:Nat→Nat):List Nd→List Nd
 | []=>[]
 | n :: r=>mvN f n :: mvL f r
end
theorem mvL_map (f:Nat→Nat):∀ l:List Nd,mvL f l=l.map (mvN f):=by
 intro l
 induction l with
 | nil=>rfl
 | cons n r ih=>rw [mvL,ih]; rfl
theorem mvN_kind (f:Nat→Nat) (n:Nd):(mvN f n).kind=n.kind:=by cases n; rw [mvN]; rfl
theorem mvN_place (f:Nat→Nat) (n:Nd):(mvN f n).place=f n.place:=by cases n; rw [mvN]; rfl
theorem mvN_kids (f:Nat→Nat) (n:Nd):(mvN f n).kids=n.kids.map (mvN f):=by cases n; rw [mvN,mvL_map]; rfl
theorem mvN_leaf (f:Nat→Nat) (k:Nat) (t:Bs) (n:Int) (p:Nat):mvN f (.mk k t n p [] [] [])=.mk k t n (f p) [] [] []:=by rw [mvN,mvL]; rfl
theorem mvN_mk (f:Nat→Nat) (k:Nat) (t:Bs) (n:Int) (p:Nat) (ns:List Bs) (ps:List Nat) (ks:List Nd):mvN f (.mk k t n p ns ps ks)=.mk k t n (f p) ns (ps.map f) (ks.map (mvN f)):=by rw [mvN,mvL_map]
theorem mvN_send (f:Nat→Nat) (r m:Nd):mvN f (sendN r m)=sendN (mvN f r) (mvN f m):=by
 cases m
 unfold sendN
 rw [mvN_mk,mvN_mk]
 rfl
def mvP (f:Nat→Nat) (s:Ps):Ps:=if s.code=0 then s else { s with place:=f s.place }
theorem mvP_pos (f:Nat→Nat) (s:Ps):(mvP f s).pos=s.pos:=by unfold mvP; split <;> rfl
theorem mvP_opn (f:Nat→Nat) (s:Ps):(mvP f s).opn=s.opn:=by unfold mvP; split <;> rfl
theorem mvP_code (f:Nat→Nat) (s:Ps):(mvP f s).code=s.code:=by unfold mvP; split <;> rfl
theorem mvP_setPos (f:Nat→Nat) (s:Ps) (i:Nat):mvP f { s with pos:=i }={ mvP f s with pos:=i }:=by
 unfold mvP
 dsimp only
 split <;> rfl
theorem mvP_setOpn (f:Nat→Nat) (s:Ps) (i:Int):mvP f { s with opn:=i }={ mvP f s with opn:=i }:=by
 unfold mvP
 dsimp only
 split <;> rfl
def mvR {α:Type} (f:Nat→Nat) (g:α→α):Rs α→Rs α
 | .ok a s=>.ok (g a) (mvP f s)
 | .bad x=>.bad (fT f x)
def mvO {α:Type} (f:Nat→Nat) (g:α→α) (r:Option (Rs α)):Option (Rs α):=r.map (mvR f g)
structure Mv (f:Nat→Nat) (ts ts':Ts):Prop where
 mono:∀ a b,f a < f b ↔ a < b
 len:ts'.length=ts.length
 get:∀ i,i < ts.length→ts'.getD i noTk=fT f (ts.getD i noTk)
 adj:∀ i,i+1 < ts.length→(ts.getD i noTk).1.kind=4∨(ts.getD i noTk).1.kind=3→(ts.getD i noTk).1.text=[45]→(f (ts.getD (i+1) noTk).2=f (ts.getD i noTk).2+1 ↔ (ts.getD (i+1) noTk).2=(ts.getD i noTk).2+1)
theorem Mv.pass {f:Nat→Nat} {ts ts':Ts} (h:Mv f ts ts') {c:Nat} (hc:c≠0) (p:Nat) (s:Ps):passP c (f p) (mvP f s)=mvP f (passP c p s):=by
 unfold passP
 by_cases h0:s.code=0
 ·have e:mvP f s=s:=if_pos h0
  rw [e,if_pos (Or.inl h0),if_pos (Or.inl h0)]
  unfold mvP
  rw [if_neg hc]
 ·have e:mvP f s={ s with place:=f s.place }:=if_neg h0
  rw [e]
  dsimp only
  by_cases hp:p < s.place
  ·rw [if_pos (Or.inr ((h.mono _ _).2 hp)),if_pos (Or.inr hp)]
   unfold mvP
   rw [if_neg hc]
  ·rw [if_neg (by rintro (h1 | h1); exact h0 h1; exact hp ((h.mono _ _).1 h1)),if_neg (by rintro (h1 | h1); exact h0 h1; exact hp h1),e]
theorem Mv.most {f:Nat→Nat} {ts ts':Ts} (h:Mv f ts ts') (x:Tok × Nat) (n:Nat) (s:Ps):mostP (fT f x) n (mvP f s)=mvP f (mostP x n s):=by
 unfold mostP
 show (if n < x.1.text.length then _ else _)=_
 split
 ·exact h.pass (by decide) _ _
 ·rfl
theorem Mv.bound {f:Nat→Nat} {ts ts':Ts} (h:Mv f ts ts') (x:Tok × Nat) (s:Ps):boundP (fT f x) (mvP f s)=mvP f (boundP x s):=by
 unfold boundP
 have e:(fT f x).1=x.1:=rfl
 rw [e]
 split
 ·exact h.most _ _ _
 split
 ·exact h.most _ _ _
 split
 ·exact h.most _ _ _
 split
 ·rw [mvP_opn]
  split
  ·rw [show (fT f x).2=f x.2 from rfl,h.pass (by decide)]
   exact (mvP_setOpn f (passP 72 x.2 s) (s.opn+1)).symm
  ·exact (mvP_setOpn f s (s.opn+1)).symm
 split
 ·rw [mvP_opn]
  exact (mvP_setOpn f s (s.opn - 1)).symm
 ·rfl
theorem Mv.hd {f:Nat→Nat} {ts ts':Ts} (h:Mv f ts ts') {s:Ps} (hs:s.pos < ts.length):hdT ts' (mvP f s)=fT f (hdT ts s):=by
 unfold hdT
 rw [mvP_pos]
 exact h.get _ hs
theorem Mv.kind {f:Nat→Nat} {ts ts':Ts} (h:Mv f ts ts') (i:Nat):(ts'.getD i noTk).1=(ts.getD i noTk).1:=by
 by_cases hi:i < ts.length
 ·rw [h.get i hi]; rfl
 ·rw [List.getD_eq_getElem?_getD,List.getD_eq_getElem?_getD,List.getElem?_eq_none (by rw [h.len]; omega),List.getElem?_eq_none (by omega)]
theorem Mv.stands {f:Nat→Nat} {ts ts':Ts} (h:Mv f ts ts') (k:Nat) (s:Ps):standsP ts' k (mvP f s)=standsP ts k s:=by
 unfold standsP hdT
 rw [mvP_pos,h.kind]
theorem Mv.take {f:Nat→Nat} {ts ts':Ts} (h:Mv f ts ts') {s:Ps} (hs:s.pos < ts.length):takeP ts' (mvP f s)=mvP f (takeP ts s):=by
 unfold takeP
 rw [h.hd hs,h.bound,mvP_pos]
 exact (mvP_setPos f (boundP (hdT ts s) s) (s.pos+1)).symm
theorem Mv.rank {f:Nat→Nat} {ts ts':Ts} (h:Mv f ts ts') (s:Ps):rankT (hdT ts' (mvP f s))=rankT (hdT ts s):=by
 unfold rankT hdT
 rw [mvP_pos,h.kind]
theorem Mv.need {f:Nat→Nat} {ts ts':Ts} (h:Mv f ts ts') (k:Nat) {s:Ps} (hs:s.pos < ts.length):needP ts' k (mvP f s)=mvR f (fT f) (needP ts k s):=by
 unfold needP
 rw [h.stands,h.hd hs,h.take hs]
 split <;> rfl
theorem Mv.skip {f:Nat→Nat} {ts ts':Ts} (h:Mv f ts ts') (k:Nat) {s:Ps} (hs:s.pos < ts.length):skipP ts' k (mvP f s)=((skipP ts k s).1,mvP f (skipP ts k s).2):=by
 unfold skipP
 rw [h.stands,h.take hs]
 split <;> rfl
theorem bindP_mv {α β:Type} {f:Nat→Nat} {g:α→α} {g2:β→β} {r r':Option (Rs α)} {k k':α→Ps→Option (Rs β)} (hr:r'=mvO f g r) (hk:∀ a s1,r=some (.ok a s1)→k' (g a) (mvP f s1)=mvO f g2 (k a s1)):bindP r' k'=mvO f g2 (bindP r k):=by
 subst hr
 cases r with
 | none=>rfl
 | some x =>
  cases x with
  | bad x=>rfl
  | ok a s1=>exact hk a s1 rfl
theorem needP_mv {β:Type} {f:Nat→Nat} {ts ts':Ts} (h:Mv f ts ts') (k:Nat) {s:Ps} (hs:s.pos < ts.length) {g:β→β} {p p':Ps→Option (Rs β)} (hp:standsP ts k s=true→p' (mvP f (takeP ts s))=mvO f g (p (takeP ts s))) :
  (match needP ts' k (mvP f s) with | .bad x=>some (.bad x) | .ok _ s2=>p' s2:Option (Rs β))=mvO f g (match needP ts k s with | .bad x=>some (.bad x) | .ok _ s2=>p s2):=by
 unfold needP
 rw [h.stands,h.hd hs,h.take hs]
 by_cases e:standsP ts k s=true
 ·rw [if_pos e,if_pos e]; exact hp e
 ·rw [if_neg e,if_neg e]; rfl
theorem listA_mv {α:Type} {f:Nat→Nat} {ts ts':Ts} (h:Mv f ts ts') {g:α→α} {btw:Nat} {there there':Ps→Bool × Ps} {one one':List α→Ps→Option (Rs α)} (hb:btw≠18) (ht:∀ s,Okq ts s→s.pos≤(there s).2.pos∧Okq ts (there s).2)
  (ho:∀ acc s,Okq ts s→(there s).1=true→Pg ts s (one acc (there s).2)) (ht2:∀ s,Okq ts s→there' (mvP f s)=((there s).1,mvP f (there s).2))
  (ho2:∀ acc s,Okq ts s→(there s).1=true→one' (acc.map g) (mvP f (there s).2)=mvO f g (one acc (there s).2)):∀ (n:Nat) (acc:List α) (s:Ps),Okq ts s→listA ts' btw there' one' n (acc.map g) (mvP f s)=mvO f (List.map g) (listA ts btw there one n acc s):=by
 intro n
 induction n with
 | zero=>intro acc s hs; rfl
 | succ n ih =>
  intro acc s hs
  unfold listA
  rw [ht2 s hs,show there s=((there s).1,(there s).2) from rfl]
  cases hth:(there s).1 with
  | false=>rfl
  | true =>
   dsimp only
   rw [ho2 acc s hs hth]
   cases e:one acc (there s).2 with
   | none=>rfl
   | some r =>
    cases r with
    | bad x=>rfl
    | ok a s2 =>
     obtain ⟨p1,p2⟩:=ho acc s hs hth a s2 e
     show (if btw=0 then listA ts' btw there' one' n (acc.map g++[g a]) (mvP f s2) else _)=_
     dsimp only
     rw [show acc.map g++[g a]=(acc++[a]).map g by simp]
     by_cases hz:btw=0
     ·rw [if_pos hz,if_pos hz]; exact ih _ _ p2
     ·rw [if_neg hz,if_neg hz,h.skip btw p2.lt]
      have hs3:=p2.skip (k:=btw) hb
      cases e2:skipP ts btw s2 with
      | mk b s3 =>
       rw [e2] at hs3
       cases b with
       | false=>rfl
       | true=>exact ih _ _ hs3
theorem words_mv {f:Nat→Nat} {ts ts':Ts} (h:Mv f ts ts'):∀ (us:Ts) (i:Nat) (l:Bs) (s:Ps),wordsP i l (us.map (fT f)) (mvP f s)=((wordsP i l us s).1,mvP f (wordsP i l us s).2):=by
 intro us
 induction us with
 | nil=>intro i l s; rfl
 | cons x r ih =>
  intro i l s
  rw [List.map_cons]
  unfold wordsP
  show wordsP (i+1) (l++x.1.text++[58]) (r.map (fT f)) (if 96 < (l++x.1.text++[58]).length∨8≤i then passP 73 (f x.2) (mvP f s) else mvP f s)=_
  by_cases hc:96 < (l++x.1.text++[58]).length∨8≤i
  ·rw [if_pos hc,if_pos hc,h.pass (by decide)]; exact ih _ _ _
  ·rw [if_neg hc,if_neg hc]; exact ih _ _ _
def pF {α:Type} (f:Nat→Nat) (g:α→α) (a:(Tok × Nat) × α):(Tok × Nat) × α:=(fT f a.1,g a.2)
def wF {α:Type} (g:α→α) (a:Bs × List α):Bs × List α:=(a.1,a.2.map g)
theorem keywords_mv {α:Type} {f:Nat→Nat} {ts ts':Ts} (h:Mv f ts ts') {g:α→α} {one one':Ps→Option (Rs α)} (ho:∀ s,Okq ts s→Pq ts s (one s)) (ho2:∀ s,Okq ts s→one' (mvP f s)=mvO f g (one s)) (n:Nat) (s:Ps) (hs:Okq ts s) :
  keywordsP ts' one' n (mvP f s)=mvO f (wF g) (keywordsP ts one n s):=by
 unfold keywordsP
 have h1:∀ (acc:List ((Tok × Nat) × α)) (s:Ps),Okq ts s→((fun s=>(decide (rankT (hdT ts s)=3),s)) s:Bool × Ps).1=true→Pg ts s (bindP (one (takeP ts s)) (fun a s2=>some (.ok (hdT ts s,a) s2))):=fun acc s hs hth=>by
  have hk:rankT (hdT ts s)=3:=by simpa using hth
  have ht:=hs.take (rank_kind (by rw [hk]; decide))
  exact Pg.tk (Pq.bind (ho _ ht) (fun a s1 _ h1=>Pq.ok h1))
 have hl:=listA_mv h (g:=pF f g) (btw:=0) (there:=fun s=>(decide (rankT (hdT ts s)=3),s)) (there':=fun s=>(decide (rankT (hdT ts' s)=3),s))
  (one:=fun (_:List ((Tok × Nat) × α)) s=>bindP (one (takeP ts s)) (fun a s2=>some (.ok (hdT ts s,a) s2))) (one':=fun (_:List ((Tok × Nat) × α)) s=>bindP (one' (takeP ts' s)) (fun a s2=>some (.ok (hdT ts' s,a) s2))) (by decide) (fun s hs=>⟨Nat.le_refl _,hs⟩) h1 (fun s hs=>by
   dsimp only; rw [h.rank]) (fun acc s hs hth=>by
   have hk:rankT (hdT ts s)=3:=by simpa using hth
   have ht:=hs.take (rank_kind (by rw [hk]; decide))
   dsimp only
   rw [h.take hs.lt,h.hd hs.lt]
   exact bindP_mv (ho2 _ ht) (fun a s1 _=>rfl)) n [] s hs
 refine bindP_mv hl (fun l s2 _=>?_)
 have e1:(l.map (pF f g)).map (·.1)=(l.map (·.1)).map (fT f):=by simp [pF,Function.comp_def]
 have e2:(l.map (pF f g)).map (·.2)=(l.map (·.2)).map g:=by simp [pF,Function.comp_def]
 rw [e1,e2,words_mv h]
 rfl
theorem worded_mv {α:Type} {f:Nat→Nat} {ts ts':Ts} (h:Mv f ts ts') {g:α→α} {one one':Nat→Ps→Option (Rs α)} (ho:∀ k s,k≤3→Okq ts s→Pq ts s (one k s)) (ho2:∀ k s,k≤3→Okq ts s→one' k (mvP f s)=mvO f g (one k s)) (n:Nat) (s:Ps) (hs:Okq ts s) :
  wordedP ts' one' n (mvP f s)=mvO f (wF g) (wordedP ts one n s):=by
 unfold wordedP
 rw [h.rank,h.hd hs.lt,h.take hs.lt]
 split
 ·rfl
 split
 ·rename_i hr
  have ht:=hs.take (rank_kind (by rw [hr]; decide))
  exact bindP_mv (ho2 2 _ (by decide) ht) (fun a s1 _=>rfl)
 split
 ·exact keywords_mv h (ho 3 · (by decide)) (ho2 3 · (by decide)) n s hs
 ·rfl
theorem integer_mv {f:Nat→Nat} {ts ts':Ts} (h:Mv f ts ts') {s:Ps} (hs:Okq ts s) (hk:(hdT ts s).1.kind=4∨(hdT ts s).1.kind=3):integerP ts' (mvP f s)=mvR f (mvN f) (integerP ts s):=by
 have ht:=hs.take (by rcases hk with hk | hk <;> rw [hk] <;> decide)
 have hh:hdT ts s=ts.getD s.pos noTk:=rfl
 have hn:hdT ts (takeP ts s)=ts.getD (s.pos+1) noTk:=rfl
 unfold integerP
 dsimp only
 rw [h.take hs.lt,h.hd hs.lt,h.stands,h.hd ht.lt,h.take ht.lt]
 show (if (hdT ts s).1.kind=4∧(hdT ts s).1.num≤1073741823 then _ else if (hdT ts s).1.text=[45]∧standsP ts 4 (takeP ts s)=true∧f (hdT ts (takeP ts s)).2=f (hdT ts s).2+1 then _ else _)=_
 split
 ·rw [mvR,mvN_leaf]; rfl
 ·by_cases hc:(hdT ts s).1.text=[45]
  ·have ha:=h.adj s.pos ht.lt hk hc
   rw [← hh,← hn] at ha
   by_cases he:(hdT ts (takeP ts s)).2=(hdT ts s).2+1
   ·by_cases h4:standsP ts 4 (takeP ts s)=true
    ·rw [if_pos ⟨hc,h4,ha.2 he⟩,if_pos ⟨hc,h4,he⟩,mvR,mvN_leaf]; rfl
    ·rw [if_neg (fun x=>h4 x.2.1),if_neg (fun x=>h4 x.2.1)]; rfl
   ·rw [if_neg (fun x=>he (ha.1 x.2.2)),if_neg (fun x=>he x.2.2)]; rfl
  ·rw [if_neg (fun x=>hc x.1),if_neg (fun x=>hc x.1)]; rfl
theorem named_mv {f:Nat→Nat} {ts ts':Ts} (h:Mv f ts ts') {s:Ps} (most:Nat) (hs:Okq ts s) (hk:(hdT ts s).1.kind≠18):namedP ts' most (mvP f s)=mvR f (mvN f) (namedP ts most s):=by
 unfold namedP
 dsimp only
 rw [h.take hs.lt,h.hd hs.lt,h.rank]
 have e:(fT f (hdT ts s)).1=(hdT ts s).1:=rfl
 rw [e]
 split
 ·rw [mvR,mvN_leaf]; rfl
 split
 ·rw [mvR,mvN_leaf]; rfl
 split
 ·rfl
 ·rw [mvR,mvN_leaf]; rfl
theorem temporaries_mv {f:Nat→Nat} {ts ts':Ts} (h:Mv f ts ts') (n:Nat) {s:Ps} (hs:Okq ts s):temporariesP ts' n (mvP f s)=mvO f (List.map (fT f)) (temporariesP ts n s):=by
 unfold temporariesP
 rw [h.skip 12 hs.lt]
 have hs1:=hs.skip (k:=12) (by decide)
 cases e:skipP ts 12 s with
 | mk b s1 =>
  rw [e] at hs1
  cases b with
  | false=>rfl
  | true =>
   dsimp only at hs1 ⊢
   have hp:∀ (acc:Ts) (s:Ps),Okq ts s→((fun s=>(standsP ts 1 s,s)) s:Bool × Ps).1=true→Pg ts s ((fun (_:Ts) s=>some (.ok (hdT ts s) (takeP ts s))) acc s):=fun acc s hs hth=>Pg.tk (Pq.ok (hs.take (by rw [stands_kind hth]; decide)))
   have hl:=listA_mv (α:=Tok × Nat) h (g:=fT f) (btw:=0) (there:=fun s=>(standsP ts 1 s,s)) (there':=fun s=>(standsP ts' 1 s,s)) (one:=fun _ s=>some (.ok (hdT ts s) (takeP ts s))) (one':=fun _ s=>some (.ok (hdT ts' s) (takeP ts' s))) (by decide) (fun s hs=>⟨Nat.le_refl _,hs⟩) hp (fun s hs=>by dsimp only; rw [h.stands]) (fun acc s hs hth=>by
    dsimp only; rw [h.hd hs.lt,h.take hs.lt]; rfl) n [] s1 hs1
   have hq:=(listA_pg (α:=Tok × Nat) (btw:=0) (there:=fun s=>(standsP ts 1 s,s)) (one:=fun _ s=>some (.ok (hdT ts s) (takeP ts s))) (by decide) (fun s hs=>⟨Nat.le_refl _,hs⟩) hp n [] s1 hs1).1
   exact bindP_mv hl (fun l s2 e2=>needP_mv h 12 (hq l s2 e2).2.lt (fun _=>rfl))
def nF (f:Nat→Nat) (x:Nd × Bool):Nd × Bool:=(mvN f x.1,x.2)
theorem retd_mv (f:Nat→Nat) (l:List Nd):retd (l.map (mvN f))=retd l:=by
 unfold retd
 rw [List.getLast?_map]
 cases l.getLast? with
 | none=>rfl
 | some n=>dsimp only [Option.map]; rw [mvN_kind]
structure MvAll (f:Nat→Nat) (ts ts':Ts) (n:Nat):Prop where
 expr:∀ s,Okq ts s→expressionP ts' n (mvP f s)=mvO f (mvN f) (expressionP ts n s)
 casc:∀ s,Okq ts s→cascadeP ts' n (mvP f s)=mvO f (mvN f) (cascadeP ts n s)
 sends:∀ most s,Okq ts s→sendsP ts' n most (mvP f s)=mvO f (nF f) (sendsP ts n most s)
 ranks:∀ most rank m sent s,Okq ts s→ranksP ts' n most rank (mvN f m) sent (mvP f s)=mvO f (nF f) (ranksP ts n most rank m sent s)
 msg:∀ s,Okq ts s→messageP ts' n (mvP f s)=mvO f (mvN f) (messageP ts n s)
 prim:∀ most s,Okq ts s→primaryP ts' n most (mvP f s)=mvO f (mvN f) (primaryP ts n most s)
 lit:∀ s,Okq ts s→literalP ts' n (mvP f s)=mvO f (mvN f) (literalP ts n s)
 elem:∀ s,Okq ts s→elementP ts' n (mvP f s)=mvO f (mvN f) (elementP ts n s)
 blk:∀ s,Okq ts s→(hdT ts s).1.kind=10→blockP ts' n (mvP f s)=mvO f (mvN f) (blockP ts n s)
 stmt:∀ s,Okq ts s→statementP ts' n (mvP f s)=mvO f (mvN f) (statementP ts n s)
 body:∀ fin s,fin≠18∨True→Okq ts s→bodyP ts' n fin (mvP f s)=mvO f (List.map (mvN f)) (bodyP ts n fin s)
theorem placesD_mv (f:Nat→Nat) (l:List Nd) (i:Nat) (hi:i < l.length):((l.map (mvN f)).map Nd.place).getD i 0=f ((l.map Nd.place).getD i 0):=by
 rw [List.getD_eq_getElem?_getD,List.getD_eq_getElem?_getD,List.getElem?_map,List.getElem?_map,List.getElem?_map,List.getElem?_eq_getElem hi]
 exact mvN_place f _
theorem toksD_mv (f:Nat→Nat) (l:Ts) (i:Nat) (hi:i < l.length):((l.map (fT f)).getD i noTk).2=f (l.getD i noTk).2:=by
 rw [List.getD_eq_getElem?_getD,List.getD_eq_getElem?_getD,List.getElem?_map,List.getElem?_eq_getElem hi]
 rfl
theorem mv_all {f:Nat→Nat} {ts ts':Ts} (h:Mv f ts ts'):∀ n,MvAll f ts ts' n:=by
 intro n
 induction n with
 | zero =>
  refine ⟨fun s _=>?_,fun s _=>?_,fun _ s _=>?_,fun _ _ _ _ s _=>?_,fun s _=>?_,fun _ s _=>?_,fun s _=>?_,fun s _=>?_,fun s _ _=>?_,fun s _=>?_,fun _ s _ _=>?_⟩ <;> first | (unfold expressionP; rfl) | (unfold cascadeP; rfl) | (unfold sendsP; rfl) | (unfold ranksP; rfl) | (unfold messageP; rfl) | (unfold primaryP; rfl) | (unfold literalP; rfl) | (unfold elementP; rfl) | (unfold blockP; rfl) | (unfold statementP; rfl) | (unfold bodyP; rfl)
 | succ n ih =>
  have pg:=pg_all ts n
  refine ⟨?_,?_,?_,?_,?_,?_,?_,?_,?_,?_,?_⟩
  ·intro s hs
   unfold expressionP
   rw [h.stands,mvP_pos,h.kind]
   split
   ·rename_i hc
    have h1:=hs.take (by rw [stands_kind hc.1]; decide)
    have hk:hdT ts (takeP ts s)=ts.getD (s.pos+1) noTk:=rfl
    have h2:=h1.take (by rw [hk,hc.2]; decide)
    rw [h.take hs.lt,h.take h1.lt,h.hd hs.lt]
    refine bindP_mv (ih.expr _ h2) (fun m s1 _=>?_)
    show _=some (Rs.ok (mvN f _) _)
    rw [mvN_mk]
    rfl
   ·exact ih.casc s hs
  ·intro s hs
   unfold cascadeP
   refine bindP_mv (ih.sends 3 s hs) (fun x s1 e1=>?_)
   have hs1:=(pg.sends 3 s hs x s1 e1).2
   rw [h.stands]
   split
   ·rfl
   rename_i hst
   show (if x.2=false then _ else _)=_
   split
   ·rw [h.hd hs1.lt]; rfl
   have h2:=hs1.take (by rw [stands_kind (by simpa using hst)]; decide)
   rw [h.take hs1.lt]
   refine bindP_mv (g:=List.map (mvN f)) (listA_mv h (btw:=17) (by decide) (fun s hs=>⟨Nat.le_refl _,hs⟩) (fun acc s hs _=>pg.msg s hs) (fun s hs=>rfl) (fun acc s hs _=>ih.msg s hs) n [] _ h2) (fun l s2 _=>?_)
   have hkids:(nF f x).1.kids=x.1.kids.map (mvN f):=mvN_kids f x.1
   rw [hkids]
   cases hx:x.1.kids with
   | nil=>rfl
   | cons r ks =>
    rw [List.map_cons,h.hd hs1.lt]
    show _=some (Rs.ok (mvN f _) _)
    rw [mvN_mk,List.map_cons,List.map_cons,mvN_mk]
    obtain ⟨⟨k,t,m,p,ns,ps,kk⟩,b⟩:=x
    show some (Rs.ok (Nd.mk 10 [] 0 _ [] [] (mvN f r :: .mk 11 (mvN f (.mk k t m p ns ps kk)).text (mvN f (.mk k t m p ns ps kk)).num (mvN f (.mk k t m p ns ps kk)).place (mvN f (.mk k t m p ns ps kk)).names (mvN f (.mk k t m p ns ps kk)).places _ :: _)) _)=_
    rw [mvN_mk]
    rfl
  ·intro most s hs
   unfold sendsP
   exact bindP_mv (ih.prim most s hs) (fun m s1 e1=>ih.ranks most 1 m false s1 (pg.prim most s hs m s1 e1).2)
  ·intro most rank m sent s hs
   unfold ranksP
   split
   ·rfl
   rw [h.rank]
   split
   ·refine bindP_mv (ih.msg s hs) (fun a s1 e1=>?_)
    rw [← mvN_send]
    exact ih.ranks most rank _ true s1 (pg.msg s hs a s1 e1).2
   ·exact ih.ranks most (rank+1) m sent s hs
  ·intro s hs
   unfold messageP
   refine bindP_mv (g:=wF (mvN f)) (worded_mv h (fun k s _ hs=>?_) (fun k s _ hs=>?_) n s hs) (fun x s1 _=>?_)
   ·exact (Pg.bind (pg.sends (k - 1) s hs) (fun x s1 _ h1=>Pq.ok h1)).q
   ·exact bindP_mv (ih.sends (k - 1) s hs) (fun x s1 _=>rfl)
   ·rw [h.hd hs.lt]
    show _=some (Rs.ok (mvN f _) _)
    rw [mvN_mk]
    rfl
  ·intro most s hs
   unfold primaryP
   rw [h.hd hs.lt]
   show (if (hdT ts s).1.kind=1 then _ else _)=_
   split
   ·rename_i hk
    rw [named_mv h most hs (by rw [hk]; decide)]
    rfl
   show (if (hdT ts s).1.kind=8 then _ else _)=_
   split
   ·rename_i hk
    have h1:=hs.take (by rw [hk]; decide)
    rw [h.take hs.lt]
    exact bindP_mv (ih.expr _ h1) (fun m s1 e1=>needP_mv h 9 (pg.expr _ h1 m s1 e1).2.lt (fun _=>rfl))
   show (if (hdT ts s).1.kind=10 then _ else _)=_
   split
   ·rename_i hk; exact ih.blk s hs hk
   ·exact ih.lit s hs
  ·intro s hs
   unfold literalP
   rw [h.hd hs.lt]
   show (if (hdT ts s).1.kind=4∨(hdT ts s).1.kind=3 then _ else _)=_
   split
   ·rename_i hk
    rw [integer_mv h hs hk]
    rfl
   show (if (hdT ts s).1.kind=6 then _ else _)=_
   split
   ·rw [h.take hs.lt]
    show _=some (Rs.ok (mvN f _) _)
    rw [mvN_leaf]; rfl
   show (if (hdT ts s).1.kind=5 then _ else _)=_
   split
   ·rw [h.take hs.lt]
    show _=some (Rs.ok (mvN f _) _)
    rw [mvN_leaf]; rfl
   show (if (hdT ts s).1.kind=7 then _ else _)=_
   split
   ·rename_i hk
    have h1:=hs.take (by rw [hk]; decide)
    rw [h.take hs.lt]
    refine bindP_mv (g:=List.map (mvN f)) (listA_mv h (btw:=0) (by decide) (fun s hs=>⟨Nat.le_refl _,hs⟩) (fun acc s hs _=>pg.elem s hs) (fun s hs=>by dsimp only; rw [h.stands]) (fun acc s hs _=>ih.elem s hs) n [] _ h1) (fun l s1 e1=>?_)
    have hs1:=((listA_pg (btw:=0) (by decide) (fun s hs=>⟨Nat.le_refl _,hs⟩) (fun acc s hs _=>pg.elem s hs) n [] _ h1).1 l s1 e1).2
    have hp:=places_getD (elems_place pg.elem h1 e1) 32
    have e3:(if 32 < (l.map (mvN f)).length then passP 73 (((l.map (mvN f)).map Nd.place).getD 32 0) (mvP f s1) else mvP f s1)=mvP f (if 32 < l.length then passP 73 ((l.map Nd.place).getD 32 0) s1 else s1):=by
     rw [List.length_map]
     split
     ·rename_i h32
      rw [placesD_mv f l 32 h32,h.pass (by decide)]
     ·rfl
    rw [e3]
    have hq:Okq ts (if 32 < l.length then passP 73 ((l.map Nd.place).getD 32 0) s1 else s1):=by
     split
     ·exact hs1.pass hp
     ·exact hs1
    refine needP_mv h 9 hq.lt (fun _=>?_)
    show _=some (Rs.ok (mvN f _) _)
    rw [mvN_mk]
    rfl
   ·rfl
  ·intro s hs
   unfold elementP
   rw [h.hd hs.lt]
   show (if (hdT ts s).1.kind=1∧constB (hdT ts s).1.text=true then _ else _)=_
   split
   ·rename_i hk
    rw [named_mv h 0 hs (by rw [hk.1]; decide)]
    rfl
   ·exact ih.lit s hs
  ·intro s hs hk
   unfold blockP
   have h1:=hs.take (by rw [hk]; decide)
   rw [h.take hs.lt]
   obtain ⟨p1,p2⟩:=params_pg n h1
   have hp1:∀ (acc:Ts) (s:Ps),Okq ts s→(skipP ts 13 s).1=true→Pg ts s ((fun (_:Ts) s=>some (needP ts 1 s)) acc (skipP ts 13 s).2):=fun acc s hs _ a s' e=>by
    obtain ⟨q1,q2⟩:=Pg.need (hs.skip (k:=13) (by decide)) (k:=1) (by decide) a s' e
    exact ⟨Nat.lt_of_le_of_lt (skip_pos ts 13 s) q1,q2⟩
   refine bindP_mv (g:=List.map (fT f)) (listA_mv h (btw:=0) (by decide) (fun s hs=>⟨skip_pos ts 13 s,hs.skip (by decide)⟩) hp1 (fun s hs=>h.skip 13 hs.lt) (fun acc s hs _=>by
    rw [h.need 1 (hs.skip (k:=13) (by decide)).lt]
    rfl) n [] _ h1) (fun ps s1 e1=>?_)
   have hs1:=(p1 ps s1 e1).2
   have hp:=toks_getD (p2 ps s1 e1) 8
   dsimp only
   have e3:(if 8 < (ps.map (fT f)).length then passP 73 ((ps.map (fT f)).getD 8 noTk).2 (mvP f s1) else mvP f s1)=mvP f (if 8 < ps.length then passP 73 (ps.getD 8 noTk).2 s1 else s1):=by
    rw [List.length_map]
    split
    ·rename_i h8
     rw [toksD_mv f ps 8 h8,h.pass (by decide)]
    ·rfl
   rw [e3]
   have hq:Okq ts (if 8 < ps.length then passP 73 (ps.getD 8 noTk).2 s1 else s1):=by
    split
    ·exact hs1.pass hp
    ·exact hs1
   generalize (if 8 < ps.length then passP 73 (ps.getD 8 noTk).2 s1 else s1)=s2 at hq ⊢
   have rest:∀ s3,Okq ts s3→(bindP (temporariesP ts' n (mvP f s3)) fun tm s4=>bindP (bodyP ts' n 11 s4) fun l s5 =>
     some (.ok (Nd.mk 12 [] ps.length (hdT ts' (mvP f s)).2 ((ps.map (fT f)++tm).map (·.1.text)) ((ps.map (fT f)++tm).map (·.2)) l) s5))=mvO f (mvN f) (bindP (temporariesP ts n s3) fun tm s4=>bindP (bodyP ts n 11 s4) fun l s5 =>
     some (.ok (Nd.mk 12 [] ps.length (hdT ts s).2 ((ps++tm).map (·.1.text)) ((ps++tm).map (·.2)) l) s5)):=fun s3 hs3=>by
    refine bindP_mv (temporaries_mv h n hs3) (fun tm s4 e4=>?_)
    have hs4:=(temporaries_pq n hs3 tm s4 e4).2
    refine bindP_mv (ih.body 11 s4 (Or.inr trivial) hs4) (fun l s5 _=>?_)
    show _=some (Rs.ok (mvN f _) _)
    rw [mvN_mk,h.hd hs.lt,← List.map_append,List.map_map,List.map_map,List.map_map]
    rfl
   rw [List.length_map,h.stands]
   by_cases hc:0 < ps.length∧standsP ts 11 s2=false
   ·rw [if_pos hc,if_pos hc]
    unfold needP
    rw [h.stands,h.hd hq.lt,h.take hq.lt]
    by_cases hb:standsP ts 12 s2=true
    ·rw [if_pos hb,if_pos hb]
     exact rest _ (hq.take (by rw [stands_kind hb]; decide))
    ·rw [if_neg hb,if_neg hb]; rfl
   ·rw [if_neg hc,if_neg hc]
    exact rest _ hq
  ·intro s hs
   unfold statementP
   rw [h.stands]
   split
   ·rename_i hk
    have h1:=hs.take (by rw [stands_kind hk]; decide)
    rw [h.take hs.lt,h.hd hs.lt]
    refine bindP_mv (ih.expr _ h1) (fun m s1 _=>?_)
    show _=some (Rs.ok (mvN f _) _)
    rw [mvN_mk]
    rfl
   ·exact ih.expr s hs
  ·intro fin s _ hs
   unfold bodyP
   have hpg:∀ (acc:List Nd) (s:Ps),Okq ts s→((fun s=>(!standsP ts fin s,s)) s:Bool × Ps).1=true→Pg ts s ((fun acc s=>if retd acc=true then some (.bad (hdT ts s)) else statementP ts n s) acc s):=fun acc s hs _=>by
    dsimp only
    split
    ·exact Pg.bad
    ·exact pg.stmt s hs
   refine bindP_mv (g:=List.map (mvN f)) (listA_mv h (btw:=16) (by decide) (fun s hs=>⟨Nat.le_refl _,hs⟩) hpg (fun s hs=>by dsimp only; rw [h.stands]) (fun acc s hs _=>by
    dsimp only
    rw [retd_mv,h.hd hs.lt]
    split
    ·rfl
    ·exact ih.stmt s hs) n [] s hs) (fun l s1 e1=>?_)
   have hs1:=((listA_pg (btw:=16) (by decide) (fun s hs=>⟨Nat.le_refl _,hs⟩) hpg n [] s hs).1 l s1 e1).2
   exact needP_mv h fin hs1.lt (fun _=>rfl)
def mvS (f:Nat→Nat) (m:Bool) (t:Src):Src:={ t with place:=if m=true then f t.place else t.place,places:=t.places.map f,body:=t.body.map (mvN f) }
theorem rest_mv {f:Nat→Nat} {ts ts':Ts} (h:Mv f ts ts') (n:Nat) (ps:Ts) {s:Ps} (hs:Okq ts s):restP ts' n (ps.map (fT f)) (mvP f s)=mvO f (mvS f false) (restP ts n ps s):=by
 unfold restP
 refine bindP_mv (temporaries_mv h n hs) (fun tm s4 e4=>?_)
 have hs4:=(temporaries_pq n hs tm s4 e4).2
 refine bindP_mv ((mv_all h n).body 18 s4 (Or.inr trivial) hs4) (fun l s5 _=>?_)
 rw [List.length_map,← List.map_append,List.map_map,List.map_map]
 show _=some (Rs.ok _ _)
 unfold mvS
 dsimp only
 rw [List.map_map]
 rfl
theorem whole_mv {f:Nat→Nat} {ts ts':Ts} (h:Mv f ts ts') (m:Bool) (n:Nat) {s:Ps} (hs:Okq ts s):wholeP m ts' n (mvP f s)=mvO f (mvS f m) (wholeP m ts n s):=by
 unfold wholeP
 cases m with
 | false =>
  rw [if_neg (by decide),if_neg (by decide)]
  exact rest_mv h n [] hs
 | true =>
  rw [if_pos rfl,if_pos rfl]
  unfold methodP
  refine bindP_mv (g:=wF (fT f)) (worded_mv h (fun k s _ hs=>(Pg.need hs (by decide)).q) (fun k s _ hs=>by rw [h.need 1 hs.lt]; rfl) n s hs) (fun x s1 e1=>?_)
  have hs1:=(worded_pg (fun k s _ hs=>(Pg.need hs (by decide)).q) n s hs x s1 e1).2
  refine bindP_mv (g:=mvS f false) (rest_mv h n x.2 hs1) (fun t s2 _=>?_)
  rw [h.hd hs.lt]
  rfl
theorem read_mv {f:Nat→Nat} {ts ts':Ts} (h:Mv f ts ts') (m:Bool) (n:Nat) (hs:Okq ts s0) {r:Option Src} {c a:Nat} (e:readP ts (wholeP m ts) n=some (r,c,a)):readP ts' (wholeP m ts') n=some (r.map (mvS f m),c,if c=0 then 0 else f a):=by
 have hw:=whole_mv h m n hs
 rw [show mvP f s0=s0 from rfl] at hw
 unfold readP at e ⊢
 rw [show (⟨0,0,0,0⟩:Ps)=s0 from rfl] at e ⊢
 rw [hw]
 cases hr:wholeP m ts n s0 with
 | none=>rw [hr] at e; cases e
 | some x =>
  rw [hr] at e
  cases x with
  | bad x =>
   injection e with e; injection e with e1 e; injection e with e2 e3
   subst e1; subst e2; subst e3
   rfl
  | ok t s =>
   show (if (mvP f s).code=0 then some (some (mvS f m t),0,0) else some (none,(mvP f s).code,(mvP f s).place))=_
   dsimp only at e
   rw [mvP_code]
   by_cases hc:s.code=0
   ·rw [if_pos hc] at e ⊢
    injection e with e; injection e with e1 e; injection e with e2 e3
    subst e1; subst e2; subst e3
    rfl
   ·rw [if_neg hc] at e ⊢
    injection e with e; injection e with e1 e; injection e with e2 e3
    subst e1; subst e2; subst e3
    rw [if_neg hc,show mvP f s={ s with place:=f s.place } from if_neg hc]
    rfl
/-! a gap between two tokens -/
def Gap (g:Bs):Prop:=g=[10,32,9]∨∃ b:Bs,(∀ c∈b,c.toNat≠34)∧g=34 :: (b++[34])
theorem cmt_of:∀ (b r:Bs),(∀ c∈b,c.toNat≠34)→cmt (b++34 :: r)=some (b.length+1):=by
 intro b
 induction b with
 | nil=>intro r _; rfl
 | cons c b ih =>
  intro r h
  rw [List.cons_append]
  unfold cmt
  rw [if_neg (h c (by simp)),ih r (fun x hx=>h x (by simp [hx]))]
  rfl
theorem Lx.blankAs {p:Nat} {c:UInt8} {l:Bs} {ts:List (Tok × Nat)} {e:Option Nat} (hc:isB c.toNat=true) (h:Lx (p+1) l ts e):Lx p (c :: l) ts e :=
 .pass _ _ 1 _ _ (by unfold cut; simp [hc]) h
theorem Lx.gap {p:Nat} {g l:Bs} {ts:List (Tok × Nat)} {e:Option Nat} (hg:Gap g) (h:Lx (p+g.length) l ts e):Lx p (g++l) ts e∧Gs (g++l):=by
 rcases hg with rfl | ⟨b,hb,rfl⟩
 ·refine ⟨?_,Or.inr (Or.inl rfl)⟩
  exact blankAs rfl (blankAs rfl (blankAs rfl h))
 ·refine ⟨?_,Or.inr (Or.inr rfl)⟩
  have e1:(34 :: (b++[34])++l:Bs)=34 :: (b++34 :: l):=by simp
  have e2:cut (34 :: (b++34 :: l))=some (none,b.length+2):=by
   unfold cut
   have h1:isB (34:UInt8).toNat=false:=rfl
   have h2:(34:UInt8).toNat=34:=rfl
   simp only [h1,h2,Bool.false_eq_true,if_false,if_true,cmt_of b l hb]
   rfl
  rw [e1]
  refine .pass _ _ _ _ _ e2 ?_
  have e3:(34 :: (b++34 :: l):Bs).drop (b.length+2)=l:=by
   rw [show (34 :: (b++34 :: l):Bs)=(34 :: (b++[34]))++l by simp,List.drop_append_of_le_length (by simp),List.drop_eq_nil_of_le (by simp)]
   rfl
  rw [e3]
  simpa [Nat.add_assoc] using h
theorem Lx.txt4 {p:Nat} {l:Bs} {ts:List (Tok × Nat)} {e:Option Nat} (h:Lx p l ts e):∀ x∈ts,x.1.kind=4→x.1.text=[]:=by
 induction h with
 | stop p=>simp
 | bad p l h1 h2=>simp
 | pass p l n ts e hc hx ih=>exact ih
 | tok p l t n ts e hc hx ih =>
  intro x hx2 hk
  rcases List.mem_cons.1 hx2 with rfl | hx2
  rotate_left
  ·exact ih x hx2 hk
  dsimp only at hk ⊢
  cases l with
  | nil=>cases hc
  | cons c r =>
   unfold cut at hc
   dsimp only at hc
   split at hc
   ·cases hc
   split at hc
   ·cases hq:cmt r with
    | none=>rw [hq] at hc; cases hc
    | some m=>rw [hq] at hc; cases hc
   split at hc
   ·split at hc
    ·injection hc with hc; injection hc with hc _; injection hc with hc; subst hc; cases hk
    ·injection hc with hc; injection hc with hc _; injection hc with hc; subst hc; cases hk
   split at hc
   ·split at hc
    ·injection hc with hc; injection hc with hc _; injection hc with hc; subst hc; rfl
    ·cases hc
   split at hc
   ·split at hc
    ·split at hc
     ·injection hc with hc; injection hc with hc _; unfold mk at hc; injection hc with hc; subst hc; rfl
     ·cases hc
    ·injection hc with hc; injection hc with hc _; injection hc with hc; subst hc; cases hk
   split at hc
   ·injection hc with hc; injection hc with hc _; injection hc with hc; subst hc; cases hk
   split at hc
   ·cases hq:txt r with
    | none=>rw [hq] at hc; cases hc
    | some m =>
     rw [hq] at hc
     injection hc with hc; injection hc with hc _; injection hc with hc; subst hc; cases hk
   split at hc
   ·injection hc with hc; injection hc with hc _; unfold mk at hc; injection hc with hc; subst hc; rfl
   split at hc
   ·cases hc
   ·injection hc with hc; injection hc with hc _; unfold mk at hc; injection hc with hc; subst hc; rfl
def placeK (ts:Ts) (k:Nat):Nat:=(ts.getD k noTk).2
def upP (p n a:Nat):Nat:=if p≤a then a+n else a
theorem upP_mono (p n a b:Nat):upP p n a < upP p n b ↔ a < b:=by
 unfold upP
 split <;> split <;> omega
theorem gap_mv {l g:Bs} {ts:Ts} (h:LexR l ts 0 0) (hg:Gap g) {k:Nat} (hk:k < ts.length) (hm:∀ j,j+1=k→¬((ts.getD j noTk).1.kind=3∧(ts.getD j noTk).1.text=[45])) (hl:l.length+g.length≤4096) :
  placeK ts k≤l.length∧∃ ts',LexR (l.take (placeK ts k)++(g++l.drop (placeK ts k))) ts' 0 0∧Mv (upP (placeK ts k) g.length) ts ts':=by
 rcases h with ⟨_,_,h,_⟩ | ⟨hl1,us,er,hx,hr⟩
 ·cases h
 rcases hr with ⟨rfl,rfl,_,_⟩ | ⟨p,_,_,h,_⟩
 rotate_left
 ·cases h
 rw [List.length_append,List.length_singleton] at hk
 have hend:(us++[(stopT,l.length)]).getD us.length noTk=(stopT,l.length):=by
  rw [List.getD_eq_getElem?_getD,List.getElem?_append_right (Nat.le_refl _),Nat.sub_self]; rfl
 have hmid:∀ (vs:Ts) (i:Nat) (z:Tok × Nat) (hi:i < vs.length),(vs++[z]).getD i noTk=vs[i]:=fun vs i z hi=>by
  rw [List.getD_eq_getElem?_getD,List.getElem?_append_left hi,List.getElem?_eq_getElem hi]; rfl
 obtain ⟨p,hp,hpl,hcase⟩:∃ p,p=placeK (us++[(stopT,l.length)]) k∧p≤l.length∧((us.drop k=[]∧p=l.length)∨∃ t rest,us.drop k=(t,0+p) :: rest):=by
  refine ⟨_,rfl,?_⟩
  unfold placeK
  by_cases hn:k < us.length
  ·rw [hmid us k _ hn]
   have h4:=(hx.places.1 us[k] (List.getElem_mem hn)).2
   rw [Nat.zero_add] at h4
   exact ⟨by omega,Or.inr ⟨us[k].1,us.drop (k+1),by rw [List.drop_eq_getElem_cons hn,Nat.zero_add]⟩⟩
  ·have he:k=us.length:=by omega
   subst he
   rw [hend]
   exact ⟨Nat.le_refl _,Or.inl ⟨by simp,rfl⟩⟩
 rw [← hp]
 have hlt:(l.take p).length=p:=by simp; omega
 obtain ⟨_,h1,h2⟩:=hx.split rfl (us.take k) (us.drop k) p (List.take_append_drop k us).symm hpl hcase
 have h3:=h2.shift g.length
 have h4:=Lx.gap (p:=0+(l.take p).length) hg (by rw [hlt]; exact h3)
 have h5:=Lx.join h4.2 h1 rfl h4.1
 have hlen:(l.take p++(g++l.drop p)).length=l.length+g.length:=by simp; omega
 refine ⟨hpl,us.take k++Lx.sh g.length (us.drop k)++[(stopT,(l.take p++(g++l.drop p)).length)],Or.inr ⟨by rw [hlen]; exact hl,_,_,h5,Or.inl ⟨rfl,rfl,rfl,rfl⟩⟩,?_⟩
 rw [hlen]
 have hlow:∀ i (hi:i < us.length),i < k→us[i].2 < p:=by
  intro i hi hik
  have:=h1.places.1 us[i] (by rw [show us[i]=(us.take k)[i]'(by simp; omega) by simp]; exact List.getElem_mem _)
  rw [hlt] at this
  omega
 have hhigh:∀ i (hi:i < us.length),k≤i→p≤us[i].2:=by
  intro i hi hik
  have:=h2.places.1 us[i] (by rw [show us[i]=(us.drop k)[i - k]'(by simp; omega) by simp [show k+(i - k)=i by omega]]; exact List.getElem_mem _)
  omega
 have hget:∀ i,i < (us++[(stopT,l.length)]).length→(us.take k++Lx.sh g.length (us.drop k)++[(stopT,l.length+g.length)]).getD i noTk=fT (upP p g.length) ((us++[(stopT,l.length)]).getD i noTk):=by
  intro i hi
  rw [List.length_append,List.length_singleton] at hi
  have hshl:(Lx.sh g.length (us.drop k)).length=us.length - k:=by simp [Lx.sh]
  by_cases hn:i < us.length
  ·rw [hmid us i _ hn,hmid _ i _ (by rw [List.length_append,hshl]; simp; omega)]
   by_cases hik:i < k
   ·rw [List.getElem_append_left (by simp; omega),List.getElem_take]
    have:=hlow i hn hik
    unfold fT upP
    rw [if_neg (by omega)]
   ·rw [List.getElem_append_right (by simp; omega)]
    have:=hhigh i hn (by omega)
    unfold fT upP Lx.sh
    rw [if_pos this,List.getElem_map,List.getElem_drop]
    have e:k+(i - min k us.length)=i:=by omega
    simp [e]
  ·have he:i=us.length:=by omega
   subst he
   rw [hend]
   have e:(us.take k++Lx.sh g.length (us.drop k)).length=us.length:=by rw [List.length_append,hshl]; simp; omega
   rw [List.getD_eq_getElem?_getD,List.getElem?_append_right (by omega),e,Nat.sub_self]
   unfold fT upP
   rw [if_pos hpl]
   rfl
 refine ⟨upP_mono _ _,by simp [Lx.sh]; omega,hget,fun i hi hk2 ht=>?_⟩
 rw [List.length_append,List.length_singleton] at hi
 have hn:i < us.length:=by omega
 have hk3:((us++[(stopT,l.length)]).getD i noTk).1.kind=3:=by
  rcases hk2 with hk2 | hk2
  ·exfalso
   rw [hmid us i _ hn] at hk2 ht
   have:=hx.txt4 us[i] (List.getElem_mem hn) hk2
   rw [ht] at this
   cases this
  ·exact hk2
 have hne:i+1≠k:=fun e=>hm i e ⟨hk3,ht⟩
 have hpi:((us++[(stopT,l.length)]).getD i noTk).2=us[i].2:=by rw [hmid us i _ hn]
 rw [hpi]
 have hz:i+1≠k→(i+1 < k→((us++[(stopT,l.length)]).getD (i+1) noTk).2 < p)∧(k < i+1→p≤((us++[(stopT,l.length)]).getD (i+1) noTk).2):=by
  intro _
  by_cases hn2:i+1 < us.length
  ·rw [hmid us _ _ hn2]
   exact ⟨fun h=>hlow _ hn2 h,fun h=>hhigh _ hn2 (by omega)⟩
  ·have he:i+1=us.length:=by omega
   rw [he,hend]
   exact ⟨fun h=>by omega,fun h=>hpl⟩
 obtain ⟨z1,z2⟩:=hz hne
 generalize ((us++[(stopT,l.length)]).getD (i+1) noTk).2=q at *
 unfold upP
 by_cases hik:i+1 < k
 ·have a1:=z1 hik
  have a2:=hlow i hn (by omega)
  rw [if_neg (by omega),if_neg (by omega)]
 ·have a1:=z2 (by omega)
  have a2:=hhigh i hn (by omega)
  rw [if_pos a1,if_pos a2]
  omega
theorem Reads.gap {m:Bool} {l g:Bs} {ts:Ts} (h:LexR l ts 0 0) (hg:Gap g) {k:Nat} (hk:k < ts.length) (hm:∀ j,j+1=k→¬((ts.getD j noTk).1.kind=3∧(ts.getD j noTk).1.text=[45])) (hl:l.length+g.length≤4096) {r:Option Src} {c a:Nat} (hr:Reads m l r c a) :
  Reads m (l.take (placeK ts k)++(g++l.drop (placeK ts k))) (r.map (mvS (upP (placeK ts k) g.length) m)) c (if c=0 then 0 else upP (placeK ts k) g.length a):=by
 obtain ⟨hp,ts',h1,h2⟩:=gap_mv h hg hk hm hl
 obtain ⟨ts2,c0,a0,h3,h4⟩:=hr
 obtain ⟨rfl,rfl,rfl⟩:=h.unique h3
 rcases h4 with ⟨h4,_⟩ | ⟨_,h4⟩
 ·exact absurd rfl h4
 refine ⟨ts',0,0,h1,Or.inr ⟨rfl,?_⟩⟩
 have e:fuelT ts'=fuelT ts2:=by unfold fuelT remT; rw [h2.len]
 rw [e]
 exact read_mv h2 m _ h.okq.1 h4
end Go.Proofs.YtfhkhmgodkheaaaGreatDoor
