import Derived.Test.YtfhkhmgodkheaaaGreatDoorQCULo
set_option linter.unusedSimpArgs false
set_option linter.unusedVariables false
namespace Go.Proofs.YtfhkhmgodkheaaaGreatDoor
theorem zq {α β:Type} {r r':Option (Rs α)} {k k':α→Ps→Option (Rs β)} (hr:∀ x,r=some x→r'=some x) (hk:∀ a s x,k a s=some x→k' a s=some x) {x:Rs β} (h:qF r k=some x):qF r' k'=some x:=by
 cases e:r with
 | none=>rw [e] at h; cases h
 | some y =>
  rw [e] at h;rw [hr y e]
  cases y with
  | bad z=>exact h
  | ok a s=>exact hk a s x h
theorem jN {α:Type} {ts:Ts} {btw:Nat} {there:Ps→Bool × Ps} {one one':List α→Ps→Option (Rs α)} (ho:∀ acc s x,one acc s=some x→one' acc s=some x):∀ (n n':Nat) (acc:List α) (s:Ps) (x:Rs (List α)),n≤n'→qY ts btw there one n acc s=some x→qY ts btw there one' n' acc s=some x:=by
 intro n
 induction n with
 | zero=>intro n' acc s x _ h; cases h
 | succ n ih =>
  intro n' acc s x hn h;obtain ⟨n',rfl⟩:∃ m,n'=m+1:=⟨n' - 1,by omega⟩
  unfold qY at h ⊢
  cases ht:there s with
  | mk b s1 =>
   rw [ht] at h
   cases b with
   | false=>exact h
   | true =>
    dsimp only at h ⊢
    cases e:one acc s1 with
    | none=>rw [e] at h; cases h
    | some y =>
     rw [e] at h;rw [ho acc s1 y e]
     cases y with
     | bad z=>exact h
     | ok a s2 =>
      dsimp only at h ⊢
      by_cases hz:btw=0
      ·rw [if_pos hz] at h ⊢
       exact ih n' _ _ _ (by omega) h
      ·rw [if_neg hz] at h ⊢
       cases e2:qN ts btw s2 with
       | mk bb s3 =>
        rw [e2] at h
        cases bb with
        | false=>exact h
        | true=>exact ih n' _ _ _ (by omega) h
theorem keywords_up {α:Type} {ts:Ts} {one one':Ps→Option (Rs α)} (ho:∀ s x,one s=some x→one' s=some x) {n n':Nat} (hn:n≤n') {s:Ps} {x:Rs (Bs × List α)} (h:zv ts one n s=some x):zv ts one' n' s=some x:=by
 unfold zv at h ⊢
 exact zq (fun x hx=>jN (fun acc s x h=>zq (ho _) (fun _ _ _ h=>h) h) n n' [] s x hn hx) (fun _ _ _ h=>h) h
theorem worded_up {α:Type} {ts:Ts} {one one':Nat→Ps→Option (Rs α)} (ho:∀ k s x,one k s=some x→one' k s=some x) {n n':Nat} (hn:n≤n') {s:Ps} {x:Rs (Bs × List α)} (h:zt ts one n s=some x):zt ts one' n' s=some x:=by
 unfold zt at h ⊢
 by_cases r1:qy (hdT ts s)=1
 ·rw [if_pos r1] at h ⊢; exact h
 rw [if_neg r1] at h ⊢
 by_cases r2:qy (hdT ts s)=2
 ·rw [if_pos r2] at h ⊢; exact zq (ho 2 _) (fun _ _ _ h=>h) h
 rw [if_neg r2] at h ⊢
 by_cases r3:qy (hdT ts s)=3
 ·rw [if_pos r3] at h ⊢; exact keywords_up (ho 3) hn h
 rw [if_neg r3] at h ⊢
 exact h
theorem temporaries_up {ts:Ts} {n n':Nat} (hn:n≤n') {s:Ps} {x:Rs Ts} (h:qv ts n s=some x):qv ts n' s=some x:=by
 unfold qv at h ⊢
 cases e:qN ts 12 s with
 | mk b s1 =>
  rw [e] at h
  cases b with
  | false=>exact h
  | true=>exact zq (fun x hx=>jN (fun _ _ _ h=>h) n n' [] s1 x hn hx) (fun _ _ _ h=>h) h
structure UpAll (ts:Ts) (n:Nat):Prop where
 expr:∀ n' s x,n≤n'→qD ts n s=some x→qD ts n' s=some x
 casc:∀ n' s x,n≤n'→zi ts n s=some x→zi ts n' s=some x
 sends:∀ n' most s x,n≤n'→zm ts n most s=some x→zm ts n' most s=some x
 ranks:∀ n' most rank m sent s x,n≤n'→zn ts n most rank m sent s=some x→zn ts n' most rank m sent s=some x
 msg:∀ n' s x,n≤n'→qM ts n s=some x→qM ts n' s=some x
 prim:∀ n' most s x,n≤n'→ze ts n most s=some x→ze ts n' most s=some x
 lit:∀ n' s x,n≤n'→zb ts n s=some x→zb ts n' s=some x
 elem:∀ n' s x,n≤n'→qX ts n s=some x→qX ts n' s=some x
 blk:∀ n' s x,n≤n'→zO ts n s=some x→zO ts n' s=some x
 stmt:∀ n' s x,n≤n'→qA ts n s=some x→qA ts n' s=some x
 body:∀ n' fin s x,n≤n'→zg ts n fin s=some x→zg ts n' fin s=some x
theorem up_all (ts:Ts):∀ n,UpAll ts n:=by
 intro n
 induction n with
 | zero =>
  refine ⟨fun _ s x _ h=>?_,fun _ s x _ h=>?_,fun _ _ s x _ h=>?_,fun _ _ _ _ _ s x _ h=>?_,fun _ s x _ h=>?_,fun _ _ s x _ h=>?_,fun _ s x _ h=>?_,fun _ s x _ h=>?_,fun _ s x _ h=>?_,fun _ s x _ h=>?_,fun _ _ s x _ h=>?_⟩ <;> first | (unfold qD at h; cases h) | (unfold zi at h; cases h) | (unfold zm at h; cases h) | (unfold zn at h; cases h) | (unfold qM at h; cases h) | (unfold ze at h; cases h) | (unfold zb at h; cases h) | (unfold qX at h; cases h) | (unfold zO at h; cases h) | (unfold qA at h; cases h) | (unfold zg at h; cases h)
 | succ n ih =>
  refine ⟨?_,?_,?_,?_,?_,?_,?_,?_,?_,?_,?_⟩
  ·intro n' s x hn h
   obtain ⟨n',rfl⟩:∃ m,n'=m+1:=⟨n' - 1,by omega⟩
   unfold qD at h ⊢
   split at h
   ·rename_i c; rw [if_pos c]; exact zq (ih.expr n' _ · (by omega)) (fun _ _ _ h=>h) h
   ·rename_i c; rw [if_neg c]; exact ih.casc n' s x (by omega) h
  ·intro n' s x hn h
   obtain ⟨n',rfl⟩:∃ m,n'=m+1:=⟨n' - 1,by omega⟩
   unfold zi at h ⊢;refine zq (ih.sends n' 3 s · (by omega)) (fun a s1 x h=>?_) h
   split at h
   ·rename_i c; rw [if_pos c]; exact h
   rename_i c
   rw [if_neg c]
   split at h
   ·rename_i c; rw [if_pos c]; exact h
   rename_i c
   rw [if_neg c];exact zq (fun x hx=>jN (fun acc s x h=>ih.msg n' s x (by omega) h) n n' [] _ x (by omega) hx) (fun _ _ _ h=>h) h
  ·intro n' most s x hn h
   obtain ⟨n',rfl⟩:∃ m,n'=m+1:=⟨n' - 1,by omega⟩
   unfold zm at h ⊢;exact zq (ih.prim n' most s · (by omega)) (fun a s1 x h=>ih.ranks n' _ _ _ _ _ x (by omega) h) h
  ·intro n' most rank m sent s x hn h
   obtain ⟨n',rfl⟩:∃ m,n'=m+1:=⟨n' - 1,by omega⟩
   unfold zn at h ⊢
   split at h
   ·rename_i c; rw [if_pos c]; exact h
   rename_i c
   rw [if_neg c]
   split at h
   ·rename_i c; rw [if_pos c]; exact zq (ih.msg n' s · (by omega)) (fun a s1 x h=>ih.ranks n' _ _ _ _ _ x (by omega) h) h
   ·rename_i c; rw [if_neg c]; exact ih.ranks n' _ _ _ _ _ x (by omega) h
  ·intro n' s x hn h
   obtain ⟨n',rfl⟩:∃ m,n'=m+1:=⟨n' - 1,by omega⟩
   unfold qM at h ⊢;exact zq (fun x hx=>worded_up (fun k s x h=>zq (ih.sends n' _ s · (by omega)) (fun _ _ _ h=>h) h) (by omega) hx) (fun _ _ _ h=>h) h
  ·intro n' most s x hn h
   obtain ⟨n',rfl⟩:∃ m,n'=m+1:=⟨n' - 1,by omega⟩
   unfold ze at h ⊢
   split at h
   ·rename_i c; rw [if_pos c]; exact h
   rename_i c
   rw [if_neg c]
   split at h
   ·rename_i c; rw [if_pos c]; exact zq (ih.expr n' _ · (by omega)) (fun _ _ _ h=>h) h
   rename_i c
   rw [if_neg c]
   split at h
   ·rename_i c; rw [if_pos c]; exact ih.blk n' s x (by omega) h
   ·rename_i c; rw [if_neg c]; exact ih.lit n' s x (by omega) h
  ·intro n' s x hn h
   obtain ⟨n',rfl⟩:∃ m,n'=m+1:=⟨n' - 1,by omega⟩
   unfold zb at h ⊢
   split at h
   ·rename_i c; rw [if_pos c]; exact h
   rename_i c
   rw [if_neg c]
   split at h
   ·rename_i c; rw [if_pos c]; exact h
   rename_i c
   rw [if_neg c]
   split at h
   ·rename_i c; rw [if_pos c]; exact h
   rename_i c
   rw [if_neg c]
   split at h
   ·rename_i c
    rw [if_pos c];exact zq (fun x hx=>jN (fun acc s x h=>ih.elem n' s x (by omega) h) n n' [] _ x (by omega) hx) (fun _ _ _ h=>h) h
   ·rename_i c; rw [if_neg c]; exact h
  ·intro n' s x hn h
   obtain ⟨n',rfl⟩:∃ m,n'=m+1:=⟨n' - 1,by omega⟩
   unfold qX at h ⊢
   split at h
   ·rename_i c; rw [if_pos c]; exact h
   ·rename_i c; rw [if_neg c]; exact ih.lit n' s x (by omega) h
  ·intro n' s x hn h
   obtain ⟨n',rfl⟩:∃ m,n'=m+1:=⟨n' - 1,by omega⟩
   unfold zO at h ⊢;refine zq (fun x hx=>jN (fun _ _ _ h=>h) n n' [] _ x (by omega) hx) (fun ps s1 x h=>?_) h
   dsimp only at h ⊢
   split at h
   ·exact h
   ·exact zq (fun x hx=>temporaries_up (by omega) hx) (fun tm s4 x h=>zq (ih.body n' _ _ · (by omega)) (fun _ _ _ h=>h) h) h
  ·intro n' s x hn h
   obtain ⟨n',rfl⟩:∃ m,n'=m+1:=⟨n' - 1,by omega⟩
   unfold qA at h ⊢
   split at h
   ·rename_i c; rw [if_pos c]; exact zq (ih.expr n' _ · (by omega)) (fun _ _ _ h=>h) h
   ·rename_i c; rw [if_neg c]; exact ih.expr n' s x (by omega) h
  ·intro n' fin s x hn h
   obtain ⟨n',rfl⟩:∃ m,n'=m+1:=⟨n' - 1,by omega⟩
   unfold zg at h ⊢;refine zq (fun x hx=>jN (fun acc s x h=>?_) n n' [] _ x (by omega) hx) (fun _ _ _ h=>h) h
   split at h
   ·rename_i c; rw [if_pos c]; exact h
   ·rename_i c; rw [if_neg c]; exact ih.stmt n' s x (by omega) h
theorem rest_up {ts:Ts} {n n':Nat} (hn:n≤n') {ps:Ts} {s:Ps} {x:Rs Src} (h:restP ts n ps s=some x):restP ts n' ps s=some x:=by
 unfold restP at h ⊢
 exact zq (fun x hx=>temporaries_up hn hx) (fun tm s1 x h=>zq ((up_all ts n).body n' _ _ · hn) (fun _ _ _ h=>h) h) h
theorem whole_up {m:Bool} {ts:Ts} {n n':Nat} (hn:n≤n') {s:Ps} {x:Rs Src} (h:wholeP m ts n s=some x):wholeP m ts n' s=some x:=by
 unfold wholeP at h ⊢
 cases m with
 | false=>rw [if_neg (by decide)] at h ⊢; exact rest_up hn h
 | true =>
  rw [if_pos rfl] at h ⊢;unfold methodP at h ⊢;exact zq (fun x hx=>worded_up (fun _ _ _ h=>h) hn hx) (fun x s1 y h=>zq (fun z hz=>rest_up hn hz) (fun _ _ _ h=>h) h) h
/-! what is read,whatever the fuel -/
def Ex (ts:Ts) (s:Ps) (n:Nd) (s1:Ps):Prop:=∃ f,qD ts f s=some (.ok n s1)
def Ca (ts:Ts) (s:Ps) (n:Nd) (s1:Ps):Prop:=∃ f,zi ts f s=some (.ok n s1)
def Se (ts:Ts) (most:Nat) (s:Ps) (n:Nd) (b:Bool) (s1:Ps):Prop:=∃ f,zm ts f most s=some (.ok (n,b) s1)
def Ra (ts:Ts) (most rank:Nat) (m:Nd) (sent:Bool) (s:Ps) (n:Nd) (b:Bool) (s1:Ps):Prop:=∃ f,zn ts f most rank m sent s=some (.ok (n,b) s1)
def Ms (ts:Ts) (s:Ps) (n:Nd) (s1:Ps):Prop:=∃ f,qM ts f s=some (.ok n s1)
def Pm (ts:Ts) (most:Nat) (s:Ps) (n:Nd) (s1:Ps):Prop:=∃ f,ze ts f most s=some (.ok n s1)
def Sm (ts:Ts) (s:Ps) (n:Nd) (s1:Ps):Prop:=∃ f,qA ts f s=some (.ok n s1)
def Ls {α:Type} (ts:Ts) (btw:Nat) (there:Ps→Bool × Ps) (one:Nat→List α→Ps→Option (Rs α)) (acc:List α) (s:Ps) (l:List α) (s1:Ps):Prop:=∃ f,qY ts btw there (one f) f acc s=some (.ok l s1)
def Up {α:Type} (one:Nat→List α→Ps→Option (Rs α)):Prop:=∀ n n' acc s x,n≤n'→one n acc s=some x→one n' acc s=some x
namespace Ls
variable {α:Type} {ts:Ts} {btw:Nat} {there:Ps→Bool × Ps} {one:Nat→List α→Ps→Option (Rs α)} {acc l:List α} {s s1 s2 s3:Ps} {a:α}
theorem nil (h:there s=(false,s1)):Ls ts btw there one acc s acc s1:=⟨1,by unfold qY; rw [h]⟩
theorem cons0 (hu:Up one) (hb:btw=0) (ht:there s=(true,s1)) (h1:∃ f,one f acc s1=some (.ok a s2)) (h2:Ls ts btw there one (acc++[a]) s2 l s3):Ls ts btw there one acc s l s3:=by
 obtain ⟨f1,h1⟩:=h1
 obtain ⟨f2,h2⟩:=h2
 refine ⟨f1+f2+1,?_⟩
 unfold qY
 rw [ht]
 dsimp only
 rw [hu f1 (f1+f2+1) _ _ _ (by omega) h1]
 dsimp only
 rw [if_pos hb]
 exact jN (fun acc s x h=>hu f2 (f1+f2+1) acc s x (by omega) h) f2 (f1+f2) _ _ _ (by omega) h2
theorem last (hu:Up one) (hb:btw≠0) (ht:there s=(true,s1)) (h1:∃ f,one f acc s1=some (.ok a s2)) (h2:qi ts btw s2=false):Ls ts btw there one acc s (acc++[a]) s2:=by
 obtain ⟨f1,h1⟩:=h1
 refine ⟨f1+1,?_⟩
 unfold qY
 rw [ht]
 dsimp only
 rw [hu f1 (f1+1) _ _ _ (by omega) h1]
 dsimp only
 rw [if_neg hb]
 unfold qN
 rw [h2]
 rfl
theorem more (hu:Up one) (hb:btw≠0) (ht:there s=(true,s1)) (h1:∃ f,one f acc s1=some (.ok a s2)) (hs:qi ts btw s2=true) (h2:Ls ts btw there one (acc++[a]) (qj ts s2) l s3):Ls ts btw there one acc s l s3:=by
 obtain ⟨f1,h1⟩:=h1
 obtain ⟨f2,h2⟩:=h2
 refine ⟨f1+f2+1,?_⟩
 unfold qY
 rw [ht]
 dsimp only
 rw [hu f1 (f1+f2+1) _ _ _ (by omega) h1]
 dsimp only
 rw [if_neg hb]
 unfold qN
 rw [hs]
 exact jN (fun acc s x h=>hu f2 (f1+f2+1) acc s x (by omega) h) f2 (f1+f2) _ _ _ (by omega) h2
end Ls
section
variable {ts:Ts} {s s1 s2 s3:Ps} {n m r:Nd} {b b':Bool} {most rank:Nat}
theorem Ex.assign (h1:qi ts 1 s=true) (h2:qi ts 14 (qj ts s)=true) (h:Ex ts (qj ts (qj ts s)) n s1):Ex ts s (.mk 8 (hdT ts s).1.text 0 (hdT ts s).2 [] [] [n]) s1:=by
 obtain ⟨f,h⟩:=h
 refine ⟨f+1,?_⟩
 unfold qD
 rw [if_pos ⟨h1,qk (s:=qj ts s) h2⟩,h]
 rfl
theorem Ex.casc (hn:¬(qi ts 1 s=true∧qi ts 14 (qj ts s)=true)) (h:Ca ts s n s1):Ex ts s n s1:=by
 obtain ⟨f,h⟩:=h
 refine ⟨f+1,?_⟩
 unfold qD
 rw [if_neg (fun c=>hn ⟨c.1,by unfold qi; exact decide_eq_true c.2⟩)]
 exact h
theorem Ca.one (h:Se ts 3 s n b s1) (h17:qi ts 17 s1=false):Ca ts s n s1:=by
 obtain ⟨f,h⟩:=h
 refine ⟨f+1,?_⟩
 unfold zi
 rw [h]
 show (if qi ts 17 s1=false then _ else _)=_
 rw [if_pos h17]
theorem Ca.more {ms:List Nd} {k:Nat} {t:Bs} {v:Int} {p:Nat} {ns:List Bs} {ps:List Nat} {r:Nd} {ks:List Nd} (h:Se ts 3 s (.mk k t v p ns ps (r :: ks)) true s1) (h17:qi ts 17 s1=true) (hl:Ls ts 17 (fun s=>(true,s)) (fun f _=>qM ts f) [] (qj ts s1) ms s2):Ca ts s (.mk 10 [] 0 (hdT ts s1).2 [] [] (r :: .mk 11 t v p ns ps ks :: ms)) s2:=by
 obtain ⟨f1,h⟩:=h
 obtain ⟨f2,hl⟩:=hl
 refine ⟨f1+f2+1,?_⟩
 unfold zi
 rw [(up_all ts f1).sends (f1+f2) _ _ _ (by omega) h]
 show (if qi ts 17 s1=false then _ else _)=_
 rw [if_neg (by rw [h17]; decide),if_neg (fun h=>by cases h),jN (fun acc s x h=>(up_all ts f2).msg (f1+f2) s x (by omega) h) f2 (f1+f2) _ _ _ (by omega) hl]
 rfl
theorem Se.mk (h1:Pm ts most s n s1) (h2:Ra ts most 1 n false s1 m b s2):Se ts most s m b s2:=by
 obtain ⟨f1,h1⟩:=h1
 obtain ⟨f2,h2⟩:=h2
 refine ⟨f1+f2+1,?_⟩
 unfold zm
 rw [(up_all ts f1).prim (f1+f2) _ _ _ (by omega) h1]
 exact (up_all ts f2).ranks (f1+f2) _ _ _ _ _ _ (by omega) h2
theorem Ra.over (h:most < rank):Ra ts most rank n b s n b s:=⟨1,by unfold zn; rw [if_pos h]⟩
theorem Ra.next (h:qy (hdT ts s)≠rank) (hr:rank≤most) (h2:Ra ts most (rank+1) n b s m b' s1):Ra ts most rank n b s m b' s1:=by
 obtain ⟨f,h2⟩:=h2
 refine ⟨f+1,?_⟩
 unfold zn
 rw [if_neg (by omega),if_neg h]
 exact h2
theorem Ra.msg (h:qy (hdT ts s)=rank) (hr:rank≤most) (h1:Ms ts s m s1) (h2:Ra ts most rank (sendN n m) true s1 r b' s2):Ra ts most rank n b s r b' s2:=by
 obtain ⟨f1,h1⟩:=h1
 obtain ⟨f2,h2⟩:=h2
 refine ⟨f1+f2+1,?_⟩
 unfold zn
 rw [if_neg (by omega),if_pos h,(up_all ts f1).msg (f1+f2) _ _ (by omega) h1]
 exact (up_all ts f2).ranks (f1+f2) _ _ _ _ _ _ (by omega) h2
theorem Ra.stop (h:qy (hdT ts s) < rank∨most < qy (hdT ts s)):Ra ts most rank n b s n b s:=by
 obtain ⟨d,hd⟩:∃ d,d=most+1 - rank:=⟨_,rfl⟩
 induction d generalizing rank with
 | zero=>exact Ra.over (by omega)
 | succ d ih =>
  have h1:qy (hdT ts s)≠rank:=by omega
  have h2:rank≤most:=by omega
  exact Ra.next h1 h2 (ih (rank:=rank+1) (by omega) (by omega))
theorem Ra.from {rank':Nat} (h:rank≤rank') (hm:rank'≤most) (hr:qy (hdT ts s)=rank') (h2:Ra ts most rank' n b s m b' s1):Ra ts most rank n b s m b' s1:=by
 obtain ⟨d,hd⟩:∃ d,d=rank' - rank:=⟨_,rfl⟩
 induction d generalizing rank with
 | zero=>rw [show rank=rank' by omega]; exact h2
 | succ d ih =>
  have h3:qy (hdT ts s)≠rank:=by omega
  have h4:rank≤most:=by omega
  exact Ra.next h3 h4 (ih (rank:=rank+1) (by omega) (by omega))
theorem Ms.unary (h:qy (hdT ts s)=1):Ms ts s (.mk 11 (hdT ts s).1.text 0 (hdT ts s).2 [] [] []) (qj ts s):=by
 refine ⟨1,?_⟩
 unfold qM zt
 rw [if_pos h]
 rfl
theorem Ms.binary (h:qy (hdT ts s)=2) (h1:Se ts 1 (qj ts s) n b s1):Ms ts s (.mk 11 (hdT ts s).1.text 0 (hdT ts s).2 [] [] [n]) s1:=by
 obtain ⟨f,h1⟩:=h1
 refine ⟨f+1,?_⟩
 unfold qM zt
 rw [if_neg (by omega),if_pos h]
 dsimp only
 rw [h1]
 rfl
def oneKw (ts:Ts) (f:Nat) (_:List ((Tok × Nat) × Nd)) (s:Ps):Option (Rs ((Tok × Nat) × Nd)):=qF (qF (zm ts f 2 (qj ts s)) fun x s1=>some (.ok x.1 s1)) (fun a s2=>some (.ok (hdT ts s,a) s2))
theorem up_kw (ts:Ts):Up (oneKw ts):=fun n n' acc s x hn h=>by
 unfold oneKw at h ⊢
 exact zq (fun x hx=>zq (fun y hy=>(up_all ts n).sends n' _ _ _ hn hy) (fun _ _ _ h=>h) hx) (fun _ _ _ h=>h) h
theorem Ms.keys {l:List ((Tok × Nat) × Nd)} (h:qy (hdT ts s)=3) (h1:Ls ts 0 (fun s=>(decide (qy (hdT ts s)=3),s)) (oneKw ts) [] s l s1):Ms ts s (.mk 11 (zH 0 [] (l.map (·.1)) s1).1 0 (hdT ts s).2 [] [] (l.map (·.2))) (zH 0 [] (l.map (·.1)) s1).2:=by
 obtain ⟨f,h1⟩:=h1
 refine ⟨f+1,?_⟩
 unfold qM zt zv
 rw [if_neg (by omega),if_neg (by omega),if_pos h]
 have h2:qY ts 0 (fun s=>(decide (qy (hdT ts s)=3),s)) (fun _ s=>qF (qF (zm ts f (3 - 1) (qj ts s)) fun x s1=>some (.ok x.1 s1)) (fun a s2=>some (.ok (hdT ts s,a) s2))) f [] s=some (.ok l s1):=h1
 rw [h2]
 rfl
theorem oneKw.mk (h1:Se ts 2 (qj ts s) n b s1):∃ f,oneKw ts f [] s=some (.ok (hdT ts s,n) s1):=by
 obtain ⟨f,h1⟩:=h1
 exact ⟨f,by unfold oneKw; rw [h1]; rfl⟩
theorem Pm.named (h:(hdT ts s).1.kind=1) (h1:jf ts most s=.ok n s1):Pm ts most s n s1:=⟨1,by unfold ze; rw [if_pos h,h1]⟩
theorem Pm.paren (h:(hdT ts s).1.kind=8) (h1:Ex ts (qj ts s) n s1) (h9:qi ts 9 s1=true):Pm ts most s n (qj ts s1):=by
 obtain ⟨f,h1⟩:=h1
 refine ⟨f+1,?_⟩
 unfold ze
 rw [if_neg (by rw [h]; decide),if_pos h,h1]
 show (match qS ts 9 s1 with | .bad x=>_ | .ok _ s2=>_)=_
 unfold qS
 rw [if_pos h9]
theorem Sm.expr (h:qi ts 15 s=false) (h1:Ex ts s n s1):Sm ts s n s1:=by
 obtain ⟨f,h1⟩:=h1
 refine ⟨f+1,?_⟩
 unfold qA
 rw [if_neg (by rw [h]; decide)]
 exact h1
def oneSt (ts:Ts) (f:Nat) (acc:List Nd) (s:Ps):Option (Rs Nd):=if retd acc=true then some (.bad (hdT ts s)) else qA ts f s
theorem up_st (ts:Ts):Up (oneSt ts):=fun n n' acc s x hn h=>by
 unfold oneSt at h ⊢
 split at h
 ·rename_i c; rw [if_pos c]; exact h
 ·rename_i c; rw [if_neg c]; exact (up_all ts n).stmt n' s x hn h
theorem oneSt.mk {acc:List Nd} (hr:retd acc=false) (h:Sm ts s n s1):∃ f,oneSt ts f acc s=some (.ok n s1):=by
 obtain ⟨f,h⟩:=h
 exact ⟨f,by unfold oneSt; rw [if_neg (by rw [hr]; decide)]; exact h⟩
end
theorem Reads.of {m:Bool} {l:Bs} {ts:Ts} {f:Nat} {t:Src} {s:Ps} (h:LexR l ts 0 0) (hw:wholeP m ts f s0=some (.ok t s)):Reads m l (if s.code=0 then some t else none) s.code (if s.code=0 then 0 else s.place):=by
 obtain ⟨r,c,a,hr⟩:=Reads.all m h
 obtain ⟨ts2,c0,a0,h1,h2⟩:=hr
 obtain ⟨rfl,rfl,rfl⟩:=h.unique h1
 rcases h2 with ⟨h2,_⟩ | ⟨_,h2⟩
 ·exact absurd rfl h2
 refine ⟨ts2,0,0,h,Or.inr ⟨rfl,?_⟩⟩
 unfold readP at h2 ⊢
 rw [show (⟨0,0,0,0⟩:Ps)=s0 from rfl] at h2 ⊢
 cases e:wholeP m ts2 (fuelT ts2) s0 with
 | none=>rw [e] at h2; cases h2
 | some x =>
  have e1:=whole_up (n':=f+fuelT ts2) (by omega) e
  have e2:=whole_up (n':=f+fuelT ts2) (by omega) hw
  rw [e1] at e2;injection e2 with e2
  subst e2;dsimp only
  by_cases hc:s.code=0
  ·rw [if_pos hc,if_pos hc,if_pos hc,hc]
  ·rw [if_neg hc,if_neg hc,if_neg hc]
end Go.Proofs.YtfhkhmgodkheaaaGreatDoor
namespace Go.Proofs.YtfhkhmgodkheaaaGreatDoor
def Bal {α:Type} (s:Ps) (r:Option (Rs α)):Prop:=∀ a s1,r=some (.ok a s1)→s1.opn=s.opn
theorem passP_opn {c p:Nat} {s:Ps}:(qR c p s).opn=s.opn:=passP_rest.2
theorem mostP_opn {x:Tok × Nat} {n:Nat} {s:Ps}:(jM x n s).opn=s.opn:=by unfold jM; split; exact passP_opn; rfl
theorem take_opn {ts:Ts} {s:Ps}:(qj ts s).opn=s.opn+(if (hdT ts s).1.kind=8∨(hdT ts s).1.kind=10∨(hdT ts s).1.kind=7 then 1 else if (hdT ts s).1.kind=9∨(hdT ts s).1.kind=11 then -1 else 0):=by
 show (qW (hdT ts s) s).opn=_
 unfold qW
 generalize hdT ts s=x
 split
 ·rename_i h; rw [if_neg (by omega),if_neg (by omega),mostP_opn]; omega
 split
 ·rename_i h; rw [if_neg (by omega),if_neg (by omega),mostP_opn]; omega
 split
 ·rename_i h; rw [if_neg (by omega),if_neg (by omega),mostP_opn]; omega
 split
 ·rfl
 split
 ·show s.opn - 1=_; omega
 ·omega
theorem take_opn0 {ts:Ts} {s:Ps} (h:¬((hdT ts s).1.kind=8∨(hdT ts s).1.kind=10∨(hdT ts s).1.kind=7∨(hdT ts s).1.kind=9∨(hdT ts s).1.kind=11)):(qj ts s).opn=s.opn:=by
 rw [take_opn,if_neg (by omega),if_neg (by omega)]; omega
theorem rank_kinds {x:Tok × Nat} (h:qy x≠0):x.1.kind=1∨x.1.kind=3∨x.1.kind=2:=by
 unfold qy at h
 by_cases h1:x.1.kind=1∨x.1.kind=3
 ·omega
 rw [if_neg h1] at h
 by_cases h2:x.1.kind=2
 ·omega
 ·rw [if_neg h2] at h; exact absurd rfl h
theorem take_opnR {ts:Ts} {s:Ps} (h:qy (hdT ts s)≠0):(qj ts s).opn=s.opn:=take_opn0 (by have:=rank_kinds h; omega)
theorem zV {ts:Ts} {s:Ps} {k:Nat} (h:qi ts k s=true) (hk:¬(k=8∨k=10∨k=7∨k=9∨k=11)):(qj ts s).opn=s.opn:=take_opn0 (by rw [qk h]; exact hk)
theorem Bal.bind {α β:Type} {s:Ps} {r:Option (Rs α)} {k:α→Ps→Option (Rs β)} (h:Bal s r) (hk:∀ a s1,r=some (.ok a s1)→Bal s1 (k a s1)):Bal s (qF r k):=by
 intro b s2 e
 obtain ⟨a,s1,e1,e2⟩:=qQ e
 rw [hk a s1 e1 b s2 e2,h a s1 e1]
theorem Bal.ok {α:Type} {s s1:Ps} {a:α} (h:s1.opn=s.opn):Bal s (some (.ok a s1)):=by
 intro b s2 e; injection e with e; injection e with e1 e2; subst e2; exact h
theorem Bal.bad {α:Type} {s:Ps} {x:Tok × Nat}:Bal s (some (.bad x):Option (Rs α)):=by intro b s2 e; injection e with e; cases e
theorem Bal.no {α:Type} {s:Ps}:Bal s (none:Option (Rs α)):=by intro b s2 e; cases e
theorem Bal.from {α:Type} {s t:Ps} {r:Option (Rs α)} (h:Bal t r) (e:t.opn=s.opn):Bal s r:=fun a s1 h1=>(h a s1 h1).trans e
theorem Bal.need {α:Type} {ts:Ts} {s:Ps} {k:Nat} {l:α} (hk:¬(k=8∨k=10∨k=7∨k=9∨k=11)):Bal s (match qS ts k s with | .bad x=>some (.bad x) | .ok _ s2=>some (.ok l s2):Option (Rs α)):=by
 unfold qS
 by_cases e:qi ts k s=true
 ·rw [if_pos e]; exact Bal.ok (zV e hk)
 ·rw [if_neg e]; exact Bal.bad
theorem listA_bal {α:Type} {ts:Ts} {btw:Nat} {there:Ps→Bool × Ps} {one:List α→Ps→Option (Rs α)} (hb:¬(btw=8∨btw=10∨btw=7∨btw=9∨btw=11)) (ht:∀ s,(there s).2.opn=s.opn) (ho:∀ acc s,(there s).1=true→Bal s (one acc (there s).2)):∀ (n:Nat) (acc:List α) (s:Ps),Bal s (qY ts btw there one n acc s):=by
 intro n
 induction n with
 | zero=>intro acc s; exact Bal.no
 | succ n ih =>
  intro acc s;unfold qY;rw [show there s=((there s).1,(there s).2) from rfl]
  cases hth:(there s).1 with
  | false=>exact Bal.ok (ht s)
  | true =>
   dsimp only
   cases e:one acc (there s).2 with
   | none=>exact Bal.no
   | some r =>
    cases r with
    | bad x=>exact Bal.bad
    | ok a s2 =>
     have h2:=ho acc s hth a s2 e;dsimp only
     by_cases hz:btw=0
     ·rw [if_pos hz]; exact (ih _ s2).from h2
     ·rw [if_neg hz]
      unfold qN
      by_cases e2:qi ts btw s2=true
      ·rw [if_pos e2]; exact (ih _ _).from ((zV e2 hb).trans h2)
      ·rw [if_neg e2]; exact Bal.ok h2
theorem words_bal:∀ (us:Ts) (i:Nat) (l:Bs) (s:Ps),(zH i l us s).2.opn=s.opn:=by
 intro us
 induction us with
 | nil=>intro i l s; rfl
 | cons x r ih =>
  intro i l s;unfold zH;rw [ih]
  split
  ·exact passP_opn
  ·rfl
theorem worded_bal {α:Type} {ts:Ts} {one:Nat→Ps→Option (Rs α)} (ho:∀ k s,Bal s (one k s)) (f:Nat) (s:Ps):Bal s (zt ts one f s):=by
 unfold zt
 split
 ·rename_i h; exact Bal.ok (take_opnR (by omega))
 split
 ·rename_i h; exact Bal.bind ((ho 2 _).from (take_opnR (by omega))) (fun a s1 _=>Bal.ok rfl)
 split
 ·unfold zv
  refine Bal.bind (listA_bal (there:=fun s=>(decide (qy (hdT ts s)=3),s)) (one:=fun _ s=>qF (one 3 (qj ts s)) (fun a s2=>some (.ok (hdT ts s,a) s2))) (btw:=0) (by decide) (fun s=>rfl) (fun acc s hth=>?_) f [] s) (fun l s1 _=>Bal.ok (words_bal _ _ _ _))
  have hk:qy (hdT ts s)=3:=by simpa using hth
  exact Bal.bind ((ho 3 _).from (take_opnR (by rw [hk]; decide))) (fun a s1 _=>Bal.ok rfl)
 ·exact Bal.bad
theorem integer_bal {ts:Ts} {s:Ps} (hk:(hdT ts s).1.kind=4∨(hdT ts s).1.kind=3):Bal s (some (jc ts s)):=by
 have h1:(qj ts s).opn=s.opn:=take_opn0 (by omega)
 unfold jc
 dsimp only
 split
 ·exact Bal.ok h1
 split
 ·rename_i h; exact Bal.ok ((zV h.2.1 (by decide)).trans h1)
 ·exact Bal.bad
theorem named_bal {ts:Ts} {s:Ps} {most:Nat} (hk:(hdT ts s).1.kind=1):Bal s (some (jf ts most s)):=by
 have h1:(qj ts s).opn=s.opn:=take_opn0 (by omega)
 unfold jf
 dsimp only
 split
 ·exact Bal.ok h1
 split
 ·exact Bal.ok h1
 split
 ·exact Bal.bad
 ·exact Bal.ok h1
theorem temporaries_bal {ts:Ts} (f:Nat) (s:Ps):Bal s (qv ts f s):=by
 unfold qv qN
 by_cases c:qi ts 12 s=true
 ·rw [if_pos c]
  exact (Bal.bind (listA_bal (α:=Tok × Nat) (there:=fun s=>(qi ts 1 s,s)) (one:=fun _ s=>some (.ok (hdT ts s) (qj ts s))) (btw:=0) (by decide) (fun s=>rfl) (fun acc s hth=>Bal.ok (zV hth (by decide))) f [] _) (fun l s2 _=>Bal.need (by decide))).from (zV c (by decide))
 ·rw [if_neg c]; exact Bal.ok rfl
structure BalAll (ts:Ts) (f:Nat):Prop where
 expr:∀ s,Bal s (qD ts f s)
 casc:∀ s,Bal s (zi ts f s)
 sends:∀ most s,Bal s (zm ts f most s)
 ranks:∀ most rank n sent s,1≤rank→Bal s (zn ts f most rank n sent s)
 msg:∀ s,Bal s (qM ts f s)
 prim:∀ most s,Bal s (ze ts f most s)
 lit:∀ s,Bal s (zb ts f s)
 elem:∀ s,Bal s (qX ts f s)
 blk:∀ s,(hdT ts s).1.kind=10→Bal s (zO ts f s)
 stmt:∀ s,Bal s (qA ts f s)
 body:∀ s,(∀ a s1,zg ts f 11 s=some (.ok a s1)→s1.opn=s.opn - 1)∧Bal s (zg ts f 18 s)
theorem bal_all (ts:Ts):∀ f,BalAll ts f:=by
 intro f
 induction f with
 | zero =>
  refine ⟨fun s=>?_,fun s=>?_,fun _ s=>?_,fun _ _ _ _ s _=>?_,fun s=>?_,fun _ s=>?_,fun s=>?_,fun s=>?_,fun s _=>?_,fun s=>?_,fun s=>⟨fun a s1 h=>?_,?_⟩⟩ <;> first | (unfold qD; exact Bal.no) | (unfold zi; exact Bal.no) | (unfold zm; exact Bal.no) | (unfold zn; exact Bal.no) | (unfold qM; exact Bal.no) | (unfold ze; exact Bal.no) | (unfold zb; exact Bal.no) | (unfold qX; exact Bal.no) | (unfold zO; exact Bal.no) | (unfold qA; exact Bal.no) | (unfold zg; exact Bal.no) | (unfold zg at h; cases h)
 | succ f ih =>
  refine ⟨?_,?_,?_,?_,?_,?_,?_,?_,?_,?_,?_⟩
  ·intro s
   unfold qD
   split
   ·rename_i c
    have h1:(qj ts s).opn=s.opn:=zV c.1 (by decide)
    have h2:(qj ts (qj ts s)).opn=(qj ts s).opn:=take_opn0 (by have e:(hdT ts (qj ts s)).1.kind=14:=c.2; omega)
    exact (Bal.bind (ih.expr _) (fun n s1 _=>Bal.ok rfl)).from (h2.trans h1)
   ·exact ih.casc s
  ·intro s
   unfold zi;refine Bal.bind (ih.sends 3 s) (fun x s1 _=>?_)
   split
   ·exact Bal.ok rfl
   rename_i c
   split
   ·exact Bal.bad
   refine (Bal.bind (listA_bal (btw:=17) (there:=fun s=>(true,s)) (one:=fun _=>qM ts f) (by decide) (fun s=>rfl) (fun acc s _=>ih.msg s) f [] _) (fun l s3 _=>?_)).from (zV (by simpa using c) (by decide))
   cases x.1.kids with
   | nil=>exact Bal.no
   | cons r ks=>exact Bal.ok rfl
  ·intro most s
   unfold zm;exact Bal.bind (ih.prim most s) (fun n s1 _=>ih.ranks most 1 n false s1 (Nat.le_refl _))
  ·intro most rank n sent s hr
   unfold zn
   split
   ·exact Bal.ok rfl
   split
   ·exact Bal.bind (ih.msg s) (fun m s1 _=>ih.ranks most rank _ true s1 hr)
   ·exact ih.ranks most (rank+1) n sent s (by omega)
  ·intro s
   unfold qM;exact Bal.bind (worded_bal (fun k s=>Bal.bind (ih.sends _ s) (fun x s1 _=>Bal.ok rfl)) f s) (fun x s1 _=>Bal.ok rfl)
  ·intro most s
   unfold ze
   split
   ·rename_i c; exact named_bal c
   split
   ·rename_i c
    intro n s2 e;obtain ⟨m,s1,e1,e2⟩:=qQ e;have h1:=ih.expr _ m s1 e1;unfold qS at e2
    by_cases h9:qi ts 9 s1=true
    ·rw [if_pos h9] at e2
     injection e2 with e2; injection e2 with _ e2; subst e2
     rw [take_opn,if_neg (by have:=qk h9; omega),if_pos (by have:=qk h9; omega),h1,take_opn,if_pos (Or.inl c)]
     omega
    ·rw [if_neg h9] at e2; injection e2 with e2; cases e2
   split
   ·rename_i c; exact ih.blk s c
   ·exact ih.lit s
  ·intro s
   unfold zb
   split
   ·rename_i c; exact integer_bal c
   split
   ·rename_i c; exact Bal.ok (take_opn0 (by omega))
   split
   ·rename_i c; exact Bal.ok (take_opn0 (by omega))
   split
   ·rename_i c
    intro n s2 e;obtain ⟨l,s1,e1,e2⟩:=qQ e;have h1:=listA_bal (btw:=0) (there:=fun s=>(!qi ts 9 s,s)) (one:=fun _=>qX ts f) (by decide) (fun s=>rfl) (fun acc s _=>ih.elem s) f [] _ l s1 e1
    have h3:(if 32 < l.length then qR 73 ((l.map Nd.place).getD 32 0) s1 else s1).opn=s1.opn:=by split; exact passP_opn; rfl
    generalize (if 32 < l.length then qR 73 ((l.map Nd.place).getD 32 0) s1 else s1)=s3 at *
    unfold qS at e2
    by_cases h9:qi ts 9 s3=true
    ·rw [if_pos h9] at e2
     injection e2 with e2; injection e2 with _ e2; subst e2
     rw [take_opn,if_neg (by have:=qk h9; omega),if_pos (by have:=qk h9; omega),h3,h1,take_opn,if_pos (by omega)]
     omega
    ·rw [if_neg h9] at e2; injection e2 with e2; cases e2
   ·exact Bal.bad
  ·intro s
   unfold qX
   split
   ·rename_i c; exact named_bal c.1
   ·exact ih.lit s
  ·intro s hk n s2 e
   unfold zO at e;obtain ⟨ps,s1,e1,e2⟩:=qQ e;have h1:=listA_bal (α:=Tok × Nat) (btw:=0) (there:=fun s=>qN ts 13 s) (one:=fun _ s=>some (qS ts 1 s)) (by decide) (fun s=>by
    unfold qN
    by_cases c:qi ts 13 s=true
    ·rw [if_pos c]; exact zV c (by decide)
    ·rw [if_neg c]) (fun acc s hth=>by
    have e:(qN ts 13 s).2.opn=s.opn:=by
     unfold qN
     by_cases c:qi ts 13 s=true
     ·rw [if_pos c]; exact zV c (by decide)
     ·rw [if_neg c]
    intro a s1 ea;injection ea with ea
    unfold qS at ea
    split at ea
    ·rename_i c
     injection ea with _ ea; subst ea
     rw [zV c (by decide),e]
    ·cases ea) f [] _ ps s1 e1
   have h3:(if 8 < ps.length then qR 73 (ps.getD 8 zj).2 s1 else s1).opn=s1.opn:=by split; exact passP_opn; rfl
   dsimp only at e2;generalize (if 8 < ps.length then qR 73 (ps.getD 8 zj).2 s1 else s1)=s3 at *
   have rest:∀ s4,(qF (qv ts f s4) fun tm s4=>qF (zg ts f 11 s4) fun l s5 =>
    some (.ok (Nd.mk 12 [] ps.length (hdT ts s).2 ((ps++tm).map (·.1.text)) ((ps++tm).map (·.2)) l) s5))=some (.ok n s2)→s2.opn=s4.opn - 1:=by
    intro s4 e4;obtain ⟨tm,s5,e5,e6⟩:=qQ e4;obtain ⟨l,s6,e7,e8⟩:=qQ e6;injection e8 with e8; injection e8 with _ e8; subst e8
    rw [(ih.body s5).1 l s6 e7,temporaries_bal f s4 tm s5 e5]
   have h10:(qj ts s).opn=s.opn+1:=by rw [take_opn,if_pos (by omega)]
   by_cases hc:0 < ps.length∧qi ts 11 s3=false
   ·rw [if_pos hc] at e2
    unfold qS at e2
    by_cases hb:qi ts 12 s3=true
    ·rw [if_pos hb] at e2
     have:=rest _ e2;rw [zV hb (by decide)] at this
     omega
    ·rw [if_neg hb] at e2; injection e2 with e2; cases e2
   ·rw [if_neg hc] at e2
    have:=rest _ e2;omega
  ·intro s
   unfold qA
   split
   ·rename_i c; exact (Bal.bind (ih.expr _) (fun n s1 _=>Bal.ok rfl)).from (zV c (by decide))
   ·exact ih.expr s
  ·intro s
   have hl:∀ fin,Bal s (qY ts 16 (fun s=>(!qi ts fin s,s)) (fun acc s=>if retd acc=true then some (.bad (hdT ts s)) else qA ts f s) f [] s):=fun fin=>listA_bal (by decide) (fun s=>rfl) (fun acc s _=>by
    dsimp only
    split
    ·exact Bal.bad
    ·exact ih.stmt s) f [] s
   constructor
   ·intro l s2 e
    unfold zg at e;obtain ⟨l0,s1,e1,e2⟩:=qQ e;have h1:=hl 11 l0 s1 e1;unfold qS at e2
    by_cases h11:qi ts 11 s1=true
    ·rw [if_pos h11] at e2
     injection e2 with e2; injection e2 with _ e2; subst e2
     rw [take_opn,if_neg (by have:=qk h11; omega),if_pos (by have:=qk h11; omega),h1]
     omega
    ·rw [if_neg h11] at e2; injection e2 with e2; cases e2
   ·unfold zg
    exact Bal.bind (hl 18) (fun l s1 _=>Bal.need (by decide))
/-! tokens of joined sources -/
theorem sh_get' (a:Nat) (us:Ts) (i:Nat) (hi:i < us.length):(Lx.sh a us)[i]?=some ((us[i]).1,(us[i]).2+a):=by
 unfold Lx.sh
 rw [List.getElem?_map,List.getElem?_eq_getElem hi]
 rfl
theorem sh_len (a:Nat) (us:Ts):(Lx.sh a us).length=us.length:=by simp [Lx.sh]
theorem Lo.of {us pre post rest:Ts} {a:Nat} {x y:Tok × Nat} (hx:term x.1.kind) (hy:term y.1.kind):Lo (us++x :: rest) (pre++(Lx.sh a us++y :: post)) 0 pre.length us.length:=by
 have g1:∀ i (hi:i < us.length),(us++x :: rest).getD i zj=us[i]:=fun i hi=>by
  rw [List.getD_eq_getElem?_getD,List.getElem?_append_left hi,List.getElem?_eq_getElem hi]; rfl
 have g2:∀ i (hi:i < us.length),(pre++(Lx.sh a us++y :: post)).getD (i+pre.length) zj=(us[i].1,us[i].2+a):=fun i hi=>by
  rw [List.getD_eq_getElem?_getD,List.getElem?_append_right (by omega),Nat.add_sub_cancel,List.getElem?_append_left (by rw [sh_len]; exact hi),sh_get' a us i hi]
  rfl
 refine ⟨fun i _ hi=>by rw [g1 i hi,g2 i hi],fun i _ hi=>?_,?_,?_⟩
 ·rw [g1 i (by omega),g1 (i+1) hi,g2 i (by omega),g2 (i+1) hi]
  show us[i+1].2+a=us[i].2+a+1 ↔ us[i+1].2=us[i].2+1
  omega
 ·rw [List.getD_eq_getElem?_getD,List.getElem?_append_right (Nat.le_refl _),Nat.sub_self]
  exact hx
 ·rw [List.getD_eq_getElem?_getD,List.getElem?_append_right (by omega),Nat.add_sub_cancel,List.getElem?_append_right (by rw [sh_len]; exact Nat.le_refl _),sh_len,Nat.sub_self]
  exact hy
theorem LexR.tok {l:Bs} {ts:Ts} (h:LexR l ts 0 0):l.length≤4096∧∃ us,Lx 0 l us Option.none∧ts=us++[(zx,l.length)]:=by
 rcases h with ⟨_,_,h,_⟩ | ⟨hl,us,er,hx,hr⟩
 ·cases h
 rcases hr with ⟨rfl,rfl,_,_⟩ | ⟨p,_,_,h,_⟩
 ·exact ⟨hl,us,hx,rfl⟩
 ·cases h
theorem LexR.mkU {l:Bs} {us:Ts} (hl:l.length≤4096) (h:Lx 0 l us Option.none):LexR l (us++[(zx,l.length)]) 0 0:=Or.inr ⟨hl,us,Option.none,h,Or.inl ⟨rfl,rfl,rfl,rfl⟩⟩
theorem term18:term 18:=Or.inr (Or.inr (Or.inr rfl))
theorem term16:term 16:=Or.inr (Or.inr (Or.inl rfl))
theorem term9:term 9:=Or.inl rfl
def thr (ts:Ts) (s:Ps):Bool × Ps:=(!qi ts 18 s,s)
theorem listA_acc {α:Type} {ts:Ts} {btw:Nat} {there:Ps→Bool × Ps} {one:List α→Ps→Option (Rs α)}:∀ (n:Nat) (acc:List α) (s:Ps) (l:List α) (s1:Ps),qY ts btw there one n acc s=some (.ok l s1)→(∃ r,l=acc++r)∧((there s).1=true→l.length≠acc.length):=by
 intro n
 induction n with
 | zero=>intro acc s l s1 h; cases h
 | succ n ih =>
  intro acc s l s1 h;unfold qY at h
  cases ht:there s with
  | mk b s0 =>
   rw [ht] at h
   cases b with
   | false =>
    injection h with h; injection h with h1 h2; subst h1
    exact ⟨⟨[],by simp⟩,fun h=>by cases h⟩
   | true =>
    dsimp only at h
    cases e:one acc s0 with
    | none=>rw [e] at h; cases h
    | some x =>
     rw [e] at h
     cases x with
     | bad x=>injection h with h; cases h
     | ok a s2 =>
      dsimp only at h;have key:∀ s3,qY ts btw there one n (acc++[a]) s3=some (.ok l s1)→(∃ r,l=acc++r)∧((true=true)→l.length≠acc.length):=by
       intro s3 h3;obtain ⟨⟨r,hr⟩,_⟩:=ih _ _ _ _ h3;exact ⟨⟨a :: r,by rw [hr]; simp⟩,fun _=>by rw [hr]; simp⟩
      by_cases hz:btw=0
      ·rw [if_pos hz] at h; exact key _ h
      ·rw [if_neg hz] at h
       cases e2:qN ts btw s2 with
       | mk bb s3 =>
        rw [e2] at h
        cases bb with
        | false=>injection h with h; injection h with h1 h2; subst h1; exact ⟨⟨[a],rfl⟩,fun _=>by simp⟩
        | true=>exact key _ h
theorem thr_pg {ts:Ts} {f:Nat} (acc:List Nd) (s:Ps) (hs:Okq ts s) (hth:(thr ts s).1=true):Pg ts s (oneSt ts f acc (thr ts s).2):=stmt_pg 18 acc s hs hth
theorem list_pg {ts:Ts} (f n:Nat) (acc:List Nd) (s:Ps) (hs:Okq ts s):Pq ts s (qY ts 16 (thr ts) (oneSt ts f) n acc s):=(zh (btw:=16) (there:=thr ts) (by decide) (fun s hs=>⟨Nat.le_refl _,hs⟩) thr_pg n acc s hs).1
theorem take_stop {ts:Ts} {s:Ps} (h:(hdT ts s).1.kind=18∨(hdT ts s).1.kind=16∨(hdT ts s).1.kind=9):(qj ts s).code=s.code∧(qj ts s).place=s.place:=by
 show (qW (hdT ts s) s).code=s.code∧(qW (hdT ts s) s).place=s.place
 unfold qW
 rw [if_neg (by omega),if_neg (by omega),if_neg (by omega),if_neg (by omega)]
 split <;> exact ⟨rfl,rfl⟩
theorem doit_run {l:Bs} {ts:Ts} {t:Src} (h:LexR l ts 0 0) (hr:Reads false l (some t) 0 0):∃ f tm st s1,qv ts (f+1) s0=some (.ok tm st)∧qY ts 16 (thr ts) (oneSt ts f) f [] st=some (.ok t.body s1)∧qi ts 18 s1=true∧s1.code=0∧t.names=tm.map (·.1.text)∧Okq ts st∧Okq ts s1∧s1.opn=0:=by
 obtain ⟨ts2,c0,a0,h1,h2⟩:=hr
 obtain ⟨rfl,rfl,rfl⟩:=h.unique h1
 rcases h2 with ⟨h2,_⟩ | ⟨_,h2⟩
 ·exact absurd rfl h2
 rcases readP_cases h2 with ⟨x,_,h3,_⟩ | ⟨t',s,hx,hc⟩
 ·cases h3
 rcases hc with ⟨hc,h3,_,_⟩ | ⟨_,h3,_⟩
 rotate_left
 ·cases h3
 injection h3 with h3; subst h3
 have e:restP ts2 (fuelT ts2) [] s0=some (.ok t s):=hx
 obtain ⟨f,hf⟩:∃ f,fuelT ts2=f+1:=⟨fuelT ts2 - 1,by unfold fuelT; omega⟩
 rw [hf] at e
 unfold restP at e
 obtain ⟨tm,st,e1,e2⟩:=qQ e
 obtain ⟨b,s2,e3,e4⟩:=qQ e2
 injection e4 with e4; injection e4 with e4 e5
 subst e4; subst e5
 have hok:=h.okq.1
 have hst:=(qZ (f+1) hok tm st e1).2
 unfold zg at e3
 obtain ⟨b',s1,e5,e6⟩:=qQ e3
 have e5':qY ts2 16 (thr ts2) (oneSt ts2 f) f [] st=some (.ok b' s1):=e5
 have hs1:=(list_pg f f [] st hst b' s1 e5').2
 unfold qS at e6
 by_cases c:qi ts2 18 s1=true
 ·rw [if_pos c] at e6
  injection e6 with e6; injection e6 with e6 e7
  subst e6; subst e7;refine ⟨f,tm,st,s1,e1,e5',c,?_,?_,hst,hs1,?_⟩
  ·rw [← (take_stop (ts:=ts2) (s:=s1) (Or.inl (qk c))).1]; exact hc
  ·rfl
  ·have b1:=temporaries_bal (f+1) s0 tm st e1
   have b2:=listA_bal (btw:=16) (there:=thr ts2) (one:=oneSt ts2 f) (by decide) (fun s=>rfl) (fun acc s _=>by
    unfold oneSt
    split
    ·exact Bal.bad
    ·exact (bal_all ts2 f).stmt s) f [] st b' s1 e5'
   rw [b2,b1]; rfl
 ·rw [if_neg c] at e6; injection e6 with e6; cases e6
theorem doit_of {l:Bs} {ts:Ts} (h:LexR l ts 0 0) {f:Nat} {tm:Ts} {st s1:Ps} {b:List Nd} (h1:qv ts (f+1) s0=some (.ok tm st)) (h2:qY ts 16 (thr ts) (oneSt ts f) f [] st=some (.ok b s1)) (h3:qi ts 18 s1=true) :
  Reads false l (if s1.code=0 then some ⟨[],0,0,tm.map (·.1.text),tm.map (·.2),b⟩ else none) s1.code (if s1.code=0 then 0 else s1.place):=by
 have hw:wholeP false ts (f+1) s0=some (.ok ⟨[],0,0,tm.map (·.1.text),tm.map (·.2),b⟩ (qj ts s1)):=by
  show restP ts (f+1) [] s0=_
  unfold restP;rw [h1]
  show qF (zg ts (f+1) 18 st) _=_
  have e:zg ts (f+1) 18 st=some (.ok b (qj ts s1)):=by
   unfold zg;have h2':qY ts 16 (fun s=>(!qi ts 18 s,s)) (fun acc s=>if retd acc=true then some (.bad (hdT ts s)) else qA ts f s) f [] st=some (.ok b s1):=h2
   rw [h2']
   show (match qS ts 18 s1 with | .bad x=>_ | .ok _ s2=>_)=_
   unfold qS;rw [if_pos h3]
  rw [e];rfl
 have:=Reads.of h hw
 obtain ⟨k1,k2⟩:=take_stop (ts:=ts) (s:=s1) (Or.inl (qk h3))
 rw [k1,k2] at this
 exact this
theorem list_up {ts:Ts} {f f' n n':Nat} {acc:List Nd} {s:Ps} {x:Rs (List Nd)} (hf:f≤f') (hn:n≤n') (h:qY ts 16 (thr ts) (oneSt ts f) n acc s=some x):qY ts 16 (thr ts) (oneSt ts f') n' acc s=some x:=jN (fun acc s x h=>up_st ts f f' acc s x hf h) n n' acc s x hn h
end Go.Proofs.YtfhkhmgodkheaaaGreatDoor
