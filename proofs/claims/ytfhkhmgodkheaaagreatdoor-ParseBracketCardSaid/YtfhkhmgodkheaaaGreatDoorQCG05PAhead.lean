import Derived.Test.YtfhkhmgodkheaaaGreatDoorQCG04LKnown
import Derived.Lib.ItoaNum
import Derived.Test.YtfhkhmgodkheaaaGreatDoorQCG02LRes
import Derived.Deep.DeepAppendWide
import Derived.Laws.AppendOwn
import Derived.Deep.RegionHeld3
import Derived.Deep.RegionHeldLaw
set_option linter.unusedSimpArgs false
set_option linter.unusedVariables false
set_option maxRecDepth 1000000
set_option maxHeartbeats 16000000
namespace Go.Proofs.YtfhkhmgodkheaaaGreatDoor
open Go.RowKit Go.Maps
theorem LexR.total (l:Bs):∃ ts c a,LexR l ts c a∧(c=0∨(ts=[]∧c≠0)):=by
 by_cases h:4096 < l.length
 ·exact ⟨[],73,4096,Or.inl ⟨h,rfl,rfl,rfl⟩,Or.inr ⟨rfl,by omega⟩⟩
 ·obtain ⟨us,er,hx⟩:=Lx.total l.length 0 l (Nat.le_refl _)
  cases er with
  | none=>exact ⟨_,0,0,Or.inr ⟨by omega,us,none,hx,Or.inl ⟨rfl,rfl,rfl,rfl⟩⟩,Or.inl rfl⟩
  | some p=>exact ⟨[],70,p,Or.inr ⟨by omega,us,some p,hx,Or.inr ⟨p,rfl,rfl,rfl,rfl⟩⟩,Or.inr ⟨rfl,by omega⟩⟩
theorem LexR.good {l:Bs} {ts:List (Tok × Nat)} {a:Nat} (h:LexR l ts 0 a):a=0∧l.length≤4096∧∃ us,Lx 0 l us none∧ts=us++[(zx,l.length)]:=by
 rcases h with ⟨_,_,h,_⟩ | ⟨h1,us,er,hx,h⟩
 ·cases h
 ·rcases h with ⟨rfl,h2,_,h3⟩ | ⟨p,_,_,h4,_⟩
  ·exact ⟨h3,h1,us,hx,h2⟩
  ·cases h4
theorem tokens_v {s:ByteArray} {ts:List (Tok × Nat)} {c a:Nat} (hl:LexR (lst s) ts c a) (hs:s.size≤140737488355328) (w:World) (hT:Tab w):Calls Tryz.prog 19 #[.string s] w fun e w' =>
  ∃ p cap,e=.returned (.tuple #[.slice p ts.length cap,.agg #[.int .i64 c,.int .i64 a]])∧RdT w' (.slice p ts.length cap) ts∧(0 < ts.length→∃ g,p=some ⟨g,0,none⟩)∧ts.length≤cap∧cap≤maxLen∧Bl w w':=by
 refine (tokens_is hl hs w hT).mono ?_
 rintro e w' ⟨v,rfl,ho,hb⟩
 have hr:=RdT.own ho
 rcases ho.2 with ⟨rfl,h2⟩ | ⟨g,cap,cur,rfl,h1,h2,h3,h4,h5,h6⟩
 ·exact ⟨none,0,by rw [h2],by rw [h2]; exact hr,fun h=>by omega,by omega,by unfold maxLen; omega,hb⟩
 ·exact ⟨_,cap,rfl,hr,fun _=>⟨g,rfl⟩,h3,h4,hb⟩
theorem zP (n:Int) (h0:-9223372036854775808≤n) (h1:n < 9223372036854775808):IntKind.i64.wrap n=n:=by rw [IntKind.wrap_i64]; omega
theorem RdT.cells {w:World} {g n cap:Nat} {ts:List (Tok × Nat)} (h:RdT w (.slice (some ⟨g,0,none⟩) n cap) ts):∀ j,j < ts.length →
  w.cell? ⟨g,j * 4,none⟩=some (.int .i64 (ts.getD j noT).1.kind)∧w.cell? ⟨g,j * 4+1,none⟩=some (.string (ba (ts.getD j noT).1.text)) ∧
  w.cell? ⟨g,j * 4+2,none⟩=some (.int .i64 (ts.getD j noT).1.num)∧w.cell? ⟨g,j * 4+3,none⟩=some (.int .i64 (ts.getD j noT).2):=by
 intro j hj
 obtain ⟨p,c,e,hp⟩:=h.at_
 injection e with e1 e2 e3
 obtain ⟨b,off,e4,hb,hc⟩:=hp (by omega)
 subst e1
 injection e4 with e4
 injection e4 with e5 e6
 subst e5 e6
 have:=hc j hj
 rw [Nat.zero_add] at this
 exact this
theorem append_lst (a b:ByteArray):lst (a++b)=lst a++lst b:=by
 unfold lst
 simp
/-! what Print writes,and that it is cut into the same tokens -/
def qt (l:Bs):Bs:=l.flatMap fun c=>if c.toNat=39 then [c,c] else [c]
theorem qt_cons (c:UInt8) (l:Bs):qt (c :: l)=(if c.toNat=39 then [c,c] else [c])++qt l:=by simp [qt]
def markT (k:Nat):Bs:=if k=7 then [35,40] else if k=14 then [58,61] else if k=8 then [40] else if k=9 then [41] else if k=10 then [91] else if k=11 then [93] else if k=12 then [124] else if k=13 then [58] else if k=15 then [94] else if k=16 then [46] else if k=17 then [59] else []
def wr (t:Tok):Bs :=
 if t.kind=1∨t.kind=3 then t.text else if t.kind=2 then t.text++[58] else if t.kind=4 then Lib.decDigits t.num else if t.kind=5 then 35 :: t.text else if t.kind=6 then 39 :: (qt t.text++[39]) else markT t.kind
def canB (t:Tok):Prop:=(t.kind≠4→t.num=0)∧((t.kind=1∨t.kind=2)∧nameB t.text=true∨t.kind=3∧opB t.text=true∨t.kind=4∧t.text=[]∧t.num≤1073741824∨t.kind=5∧symB t.text=true∨t.kind=6∨7≤t.kind∧t.kind≤17∧t.text=[])
theorem nameLen_take (l:Bs):qw (l.take (qw l))=qw l:=by
 by_cases hz:qw l=0
 ·rw [hz]
  rfl
 ·have hle:=jP l
  have hL:isL (hd l)=true:=by
   by_cases h:isL (hd l)=true
   ·exact h
   ·unfold qw at hz; rw [if_neg h] at hz; exact absurd rfl hz
  have hlen:(l.take (qw l)).length=qw l:=by rw [List.length_take]; omega
  have hh:hd (l.take (qw l))=hd l:=by
   cases l with
   | nil=>simp at hle; omega
   | cons c r =>
    obtain ⟨m,hm⟩:∃ m,qw (c :: r)=m+1:=⟨qw (c :: r) - 1,by omega⟩
    rw [hm];rfl
  have hU:∀ m:Bs,isL (hd m)=true→qw m=(m.takeWhile wN).length:=fun m hm=>by unfold qw; rw [if_pos hm]
  rw [hU (l.take (qw l)) (by rw [hh]; exact hL)]
  refine tw_eq wN _ _ (by omega) (fun j hj hjk=>?_) (fun h=>by omega)
  rw [List.getElem_take];have hj2:j < l.length:=by omega
  obtain ⟨c,ec,hc⟩:=tw_hd wN l j (by unfold qw at hjk; rw [if_pos hL] at hjk; exact hjk)
  rw [hd_drop hj2] at ec;rw [UInt8.toNat_inj.1 ec];exact hc
def pr:List Tok→Bs
 | []=>[]
 | [t]=>wr t
 | t :: u :: r=>wr t++32 :: pr (u :: r)
theorem cut_can {l:Bs} {t:Tok} {n:Nat} (h:cut l=some (some t,n)):canB t:=by
 have hn:=cut_n h
 obtain ⟨A,hA,hl⟩:∃ A:Bs,cut A=some (some t,n)∧A.length=n:=by
  refine ⟨l.take n,?_,by simp; omega⟩
  have:=cut_ext (A:=l.take n) (B:=l.drop n) (R:=[]) (Or.inl rfl) (nn_of hn.1 hn.2 (cut_nn h)) (by rw [List.take_append_drop]; exact h) (by simp; omega)
  rw [List.append_nil] at this;exact this
 clear h hn
 subst hl
 unfold cut at hA
 split at hA
 ·cases hA
 ·rename_i c r
  split at hA
  ·simp at hA
  split at hA
  ·obtain ⟨y,hy,e⟩:=Option.map_eq_some_iff.1 hA
   simp at e
  split at hA
  ·split at hA
   ·have e:=Option.some.inj hA
    have e1:=Option.some.inj (congrArg Prod.fst e);have e2:=congrArg Prod.snd e;simp only at e1 e2;subst e1;refine ⟨fun _=>rfl,Or.inl ⟨Or.inr rfl,?_⟩⟩
    have e4:((c :: r).take (qw (c :: r))).length=qw (c :: r):=by rw [List.length_take]; have:=jP (c :: r); omega
    rename_i hl _
    have hp:=nameLen_pos (l:=c :: r) hl;have e5:∀ X:Bs,X.length=qw (c :: r)→X≠[]:=fun X h1 h2=>by rw [h2] at h1; simp at h1; omega
    exact decide_eq_true ⟨e5 _ e4,by rw [e4,nameLen_take]⟩
   ·have e:=Option.some.inj hA
    have e1:=Option.some.inj (congrArg Prod.fst e);have e2:=congrArg Prod.snd e;simp only at e1 e2;subst e1;refine ⟨fun _=>rfl,Or.inl ⟨Or.inl rfl,?_⟩⟩
    rw [e2,List.take_length];exact decide_eq_true ⟨by simp,e2⟩
  split at hA
  ·split at hA
   ·rename_i hm
    have e:=Option.some.inj hA;have e1:=Option.some.inj (congrArg Prod.fst e);subst e1;exact ⟨fun h=>absurd rfl h,Or.inr (Or.inr (Or.inl ⟨rfl,rfl,hm⟩))⟩
   ·cases hA
  split at hA
  ·split at hA
   ·split at hA
    ·have e:=Option.some.inj hA
     have e1:some (⟨7,[],0⟩:Tok)=some t:=congrArg Prod.fst e;rw [← Option.some.inj e1];exact ⟨fun _=>rfl,Or.inr (Or.inr (Or.inr (Or.inr (Or.inr ⟨by simp,by simp,rfl⟩))))⟩
    ·cases hA
   ·rename_i hs
    have e:=Option.some.inj hA;have e1:=Option.some.inj (congrArg Prod.fst e);have e2:=congrArg Prod.snd e;simp only [List.length_cons] at e1 e2;have e3:zr r=r.length:=by omega
    subst e1;rw [e3,List.take_length];refine ⟨fun _=>rfl,Or.inr (Or.inr (Or.inr (Or.inl ⟨rfl,decide_eq_true ⟨fun h=>?_,e3⟩⟩)))⟩
    have h':r=[]:=h;rw [h'] at hs e3;exact hs e3
  split at hA
  ·have e:=Option.some.inj hA
   have e1:=Option.some.inj (congrArg Prod.fst e);have e2:=congrArg Prod.snd e;simp only at e1 e2;subst e1;rw [e2,List.take_length];exact ⟨fun _=>rfl,Or.inr (Or.inl ⟨rfl,decide_eq_true ⟨by simp,e2⟩⟩)⟩
  split at hA
  ·obtain ⟨y,hy,e⟩:=Option.map_eq_some_iff.1 hA
   have e1:=Option.some.inj (congrArg Prod.fst e);subst e1;exact ⟨fun _=>rfl,Or.inr (Or.inr (Or.inr (Or.inr (Or.inl rfl))))⟩
  split at hA
  ·have e:=Option.some.inj hA
   have e1:some (⟨14,[],0⟩:Tok)=some t:=congrArg Prod.fst e;rw [← Option.some.inj e1];exact ⟨fun _=>rfl,Or.inr (Or.inr (Or.inr (Or.inr (Or.inr ⟨by simp,by simp,rfl⟩))))⟩
  split at hA
  ·cases hA
  ·rename_i hm
   have e:=Option.some.inj hA;have e1:some (⟨markK c.toNat,[],0⟩:Tok)=some t:=congrArg Prod.fst e;rw [← Option.some.inj e1];have:markK c.toNat=0∨7≤markK c.toNat∧markK c.toNat≤17:=by
    unfold markK
    (repeat' split); all_goals omega
   exact ⟨fun _=>rfl,Or.inr (Or.inr (Or.inr (Or.inr (Or.inr ⟨by simp; omega,by simp; omega,rfl⟩))))⟩
theorem Lx.can {p:Nat} {l:Bs} {ts:List (Tok × Nat)} {e:Option Nat} (h:Lx p l ts e):∀ x∈ts,canB x.1:=by
 induction h with
 | stop p=>intro x hx; simp at hx
 | bad p l h1 h2=>intro x hx; simp at hx
 | pass p l n ts e h1 h2 ih=>exact ih
 | tok p l t n ts e h1 h2 ih =>
  intro x hx
  rcases List.mem_cons.1 hx with rfl | hx
  ·exact cut_can h1
  ·exact ih x hx
end Go.Proofs.YtfhkhmgodkheaaaGreatDoor
namespace Go.Proofs.YtfhkhmgodkheaaaGreatDoor
inductive Nt
 | mk (kind:Int) (text:Bs) (num:Int) (names:List Bs) (kids:List Nt)
namespace Nt
def kind:Nt→Int | mk k _ _ _ _=>k
def text:Nt→Bs | mk _ t _ _ _=>t
def num:Nt→Int | mk _ _ n _ _=>n
def names:Nt→List Bs | mk _ _ _ l _=>l
def kids:Nt→List Nt | mk _ _ _ _ l=>l
end Nt
def hasT (k:Nat):Bool:=decide (k=2∨k=3∨k=5∨k=6∨k=8∨k=9∨k=11)
def hasN (k:Nat):Bool:=decide (k=1∨k=12)
def hasM (k:Nat):Bool:=decide (k=12)
def hasK (k:Nat):Bool:=decide (k=4∨k=8∨k=9∨k=10∨k=11∨k=12∨k=13)
def zd (n:Nt) (k:Nat):Bool:=decide (n.kind=k) && ((hasT k || decide (n.text=[])) && ((hasN k || decide (n.num=0)) && ((hasM k || decide (n.names.length=0)) && (hasK k || decide (n.kids.length=0)))))
def nmB (l:Bs):Bool:=decide (l.length≤32) && decide (vari l≠1)
def nmsB (l:List Bs):Bool:=l.all nmB
def zo:Bs→List Bs
 | []=>[[]]
 | c :: r=>if c=58 then [] :: zo r else match zo r with
  | []=>[[c]]
  | p :: ps=>(c :: p) :: ps
def jB (l:Bs):Option Nat:=if 96 < l.length then none else if (sel l).2≠0∨8 < (sel l).1 then none else if (zo l).all (fun p=>decide (p.length≤32))=true then some (sel l).1 else none
def symOk (l:Bs):Bool:=decide (l.length≤96) && symB l
def rankN (n:Nt):Nat:=if n.kind=9 then qI n.text else if n.kind=8∨n.kind=10 then 4 else 0
def opnN (n:Nt) (most o:Nat):Nat:=if most < rankN n then o+1 else o
mutual
def litB:Nt→Nat→Bool
 | .mk k t m ns ks,o =>
  if k=1 then zd (.mk k t m ns ks) 1 && (decide (-1073741824≤m) && decide (m≤1073741823))
  else if k=2 then zd (.mk k t m ns ks) 2 && decide (t.length≤256)
  else if k=3 then zd (.mk k t m ns ks) 3 && symOk t
  else if k=5 then zd (.mk k t m ns ks) 5 && constB t
  else if k=4 then zd (.mk k t m ns ks) 4 && (decide (o < 24) && (decide (ks.length≤32) && litsB ks (o+1)))
  else false
def litsB:List Nt→Nat→Bool
 | [],_=>true
 | n :: r,o=>litB n o && litsB r o
end
mutual
def jJ:Nt→Nat→Bool
 | .mk k t m ns ks,o =>
  if k=6 then zd (.mk k t m ns ks) 6 && (nmB t && (decide (t=[115,101,108,102]) || decide (vari t=0)))
  else if k=8 then zd (.mk k t m ns ks) 8 && (nmB t && oneB ks o)
  else if k=9 then zd (.mk k t m ns ks) 9 && sendB ks t o
  else if k=10 then zd (.mk k t m ns ks) 10 && (decide (3≤ks.length) && cascB ks o)
  else if k=12 then zd (.mk k t m ns ks) 12 && (decide (o < 24) && (decide (0≤m∧m≤8∧m≤ns.length) && (nmsB ns && jF ks (o+1))))
  else litB (.mk k t m ns ks) o
def oneB:List Nt→Nat→Bool
 | [],_=>false
 | n :: r,o=>decide (r.length=0) && jJ n o
def sendB:List Nt→Bs→Nat→Bool
 | [],_,_=>false
 | n :: r,t,o=>decide (jB t=some r.length) && (opersB r (qI t - 1) o && (zd n 7 || (decide (opnN n (min (qI t) 2) o≤24) && jJ n (opnN n (min (qI t) 2) o))))
def cascB:List Nt→Nat→Bool
 | [],_=>false
 | n :: r,o=>msgsB r o && (zd n 7 || (decide (opnN n (min (qI ((r.map Nt.text).headD [])) 2) o≤24) && jJ n (opnN n (min (qI ((r.map Nt.text).headD [])) 2) o)))
def msgsB:List Nt→Nat→Bool
 | [],_=>true
 | .mk k t m ns ks :: r,o=>zd (.mk k t m ns ks) 11 && (decide (jB t=some ks.length) && opersB ks (qI t - 1) o) && msgsB r o
def opersB:List Nt→Nat→Nat→Bool
 | [],_,_=>true
 | n :: r,most,o=>(decide (opnN n most o≤24) && jJ n (opnN n most o)) && opersB r most o
def jF:List Nt→Nat→Bool
 | [],_=>true
 | .mk k t m ns ks :: r,o=>(if k=13∧r.length=0 then zd (.mk k t m ns ks) 13 && oneB ks o else jJ (.mk k t m ns ks) o) && jF r o
end
structure Tr where
 sel:Bs
 params:Int
 names:List Bs
 body:List Nt
def treeB (t:Tr):Bool:=match (if t.sel=[] then some 0 else jB t.sel) with
 | none=>false
 | some c=>decide (t.params=c) && (decide (c≤t.names.length) && (nmsB t.names && jF t.body 0))
def itoaB (n:Int):Bs:=Lib.itoa n
def kwPc:List Bs→List (List Bs)→Bool→List Bs
 | [],_,_=>[]
 | p :: ps,xs,first=>(if first then [] else [[32]])++((p++[58,32]) :: (xs.headD []++kwPc ps xs.tail false))
def jq (l:Bs):Bs:=if l.getLast?=some 58 then l.dropLast else l
def zk (t:Bs) (xs:List (List Bs)):List Bs :=
 if qI t=1 then [t] else if qI t=2 then (t++[32]) :: xs.headD [] else if qI t=3 then kwPc (zo (jq t)) xs true else []
def parPc:List Bs→Bool→List Bs
 | [],_=>[]
 | n :: r,first=>(if first then [] else [[32]])++((58 :: n) :: parPc r false)
def tmpPc (behind:Bool) (l:List Bs):List Bs:=if l=[] then [] else (if behind then [[32]] else [])++([124] :: (l.map (fun n=>32 :: n)++[[32,124]]))
def oprPc (n:Nt) (most:Nat) (x:List Bs):List Bs:=if rankN n≤most then x else [40] :: (x++[[41]])
mutual
def qP:Nt→List Bs
 | .mk k t m ns ks =>
  if k=1 then [itoaB m] else if k=2 then [wr ⟨6,t,0⟩] else if k=3 then [wr ⟨5,t,0⟩]
  else if k=4 then [35,40] :: (zJ ks [32] true++[[41]])
  else if k=5∨k=6 then [t] else if k=7 then [[115,117,112,101,114]]
  else if k=8 then (t++[32,58,61,32]) :: zJ ks [] true
  else if k=9 then sendPc ks t
  else if k=10 then cascPc ks
  else if k=11 then zk t (ji ks (qI t - 1))
  else if k=12 then [91] :: (parPc (ns.take m.toNat) true++((if 0 < m then [[32,124]] else [])++(tmpPc (decide (0 < m)) (ns.drop m.toNat)++((if ks.length=0 then [] else (if 0 < m∨m.toNat < ns.length then [[32]] else [])++zJ ks [46,32] true)++[[93]]))))
  else if k=13 then [94] :: zJ ks [] true
  else []
def zJ:List Nt→Bs→Bool→List Bs
 | [],_,_=>[]
 | n :: r,b,first=>(if first then [] else [b])++(qP n++zJ r b false)
def sendPc:List Nt→Bs→List Bs
 | [],_=>[]
 | n :: r,t=>oprPc n (min (qI t) 2) (qP n)++([32] :: zk t (ji r (qI t - 1)))
def cascPc:List Nt→List Bs
 | []=>[]
 | n :: r=>oprPc n (min (qI ((r.map Nt.text).headD [])) 2) (qP n)++([32] :: zJ r [59,32] true)
def ji:List Nt→Nat→List (List Bs)
 | [],_=>[]
 | n :: r,most=>oprPc n most (qP n) :: ji r most
end
def treePc (t:Tr):List Bs:=zk t.sel ((t.names.take t.params.toNat).map fun n=>[n]) ++
 (tmpPc (decide (t.sel≠[])) (t.names.drop t.params.toNat)++(if t.body.length=0 then [] else (if t.sel≠[]∨t.params.toNat < t.names.length then [[32]] else [])++zJ t.body [46,32] true))
def zU (l s:Bs):Bs:=if l.length≤4096 then l++s else l
def qH (l:Bs) (ps:List Bs):Bs:=ps.foldl zU l
theorem jR (l:Bs):qH l []=l:=rfl
theorem jh (l p:Bs) (ps:List Bs):qH l (p :: ps)=qH (zU l p) ps:=rfl
theorem zw (l:Bs) (a b:List Bs):qH l (a++b)=qH (qH l a) b:=List.foldl_append
def printP (t:Tr):Bs × Nat:=if treeB t=false then ([],77) else if 4096 < (qH [] (treePc t)).length then ([],73) else (qH [] (treePc t),0)
end Go.Proofs.YtfhkhmgodkheaaaGreatDoor
namespace Go.Proofs.YtfhkhmgodkheaaaGreatDoor
def qE:Nt:=.mk 0 [] 0 [] []
theorem all_getD {α:Type} (d:α) (f:α→Bool):∀ (l:List α),l.all f=true ↔ ∀ j,j < l.length→f (l.getD j d)=true:=by
 intro l
 induction l with
 | nil=>simp
 | cons a r ih =>
  rw [List.all_cons,Bool.and_eq_true,ih]
  constructor
  ·rintro ⟨h1,h2⟩ j hj
   cases j with
   | zero=>simpa using h1
   | succ j=>simpa using h2 j (by simpa using hj)
  ·intro h
   exact ⟨by simpa using h 0 (by simp),fun j hj=>by simpa using h (j+1) (by simpa using hj)⟩
theorem all_bad {α:Type} (d:α) (f:α→Bool) (l:List α) (j:Nat) (hj:j < l.length) (h:f (l.getD j d)=false):l.all f=false:=by
 cases e:l.all f with
 | false=>rfl
 | true=>rw [(all_getD d f l).1 e j hj] at h; cases h
theorem litsB_all:∀ (l:List Nt) (o:Nat),litsB l o=l.all (fun n=>litB n o):=by
 intro l
 induction l with
 | nil=>intro o; simp [litsB]
 | cons n r ih=>intro o; rw [litsB,ih,List.all_cons]
def operB (n:Nt) (most o:Nat):Bool:=decide (opnN n most o≤24) && jJ n (opnN n most o)
theorem opersB_all:∀ (l:List Nt) (most o:Nat),opersB l most o=l.all (fun n=>operB n most o):=by
 intro l
 induction l with
 | nil=>intro most o; simp [opersB]
 | cons n r ih=>intro most o; rw [opersB,ih,List.all_cons]; rfl
def msgB (t:Bs) (ks:List Nt) (o:Nat):Bool:=decide (jB t=some ks.length) && opersB ks (qI t - 1) o
theorem msgsB_all:∀ (l:List Nt) (o:Nat),msgsB l o=l.all (fun n=>zd n 11 && msgB n.text n.kids o):=by
 intro l
 induction l with
 | nil=>intro o; simp [msgsB]
 | cons n r ih =>
  intro o;obtain ⟨k,t,m,ns,ks⟩:=n;rw [msgsB,ih,List.all_cons];rfl
def stmB (n:Nt) (last:Bool) (o:Nat):Bool:=if n.kind=13∧last=true then zd n 13 && oneB n.kids o else jJ n o
def recvB (n:Nt) (rank o:Nat):Bool:=zd n 7 || operB n (min rank 2) o
theorem bodyB_cons (n:Nt) (r:List Nt) (o:Nat):jF (n :: r) o=(stmB n (decide (r.length=0)) o && jF r o):=by
 obtain ⟨k,t,m,ns,ks⟩:=n
 rw [jF]
 congr 1
 unfold stmB
 simp only [decide_eq_true_eq]
 rfl
theorem bodyB_true:∀ (l:List Nt) (o:Nat),jF l o=true ↔ ∀ j,j < l.length→stmB (l.getD j qE) (decide (j+1=l.length)) o=true:=by
 intro l
 induction l with
 | nil=>intro o; simp [jF]
 | cons n r ih =>
  intro o;rw [bodyB_cons,Bool.and_eq_true,ih]
  constructor
  ·rintro ⟨h1,h2⟩ j hj
   cases j with
   | zero =>
    have e:decide (0+1=(n :: r).length)=decide (r.length=0):=by simp
    rw [e]; simpa using h1
   | succ j =>
    have e:decide (j+1+1=(n :: r).length)=decide (j+1=r.length):=by simp
    rw [e]; simpa using h2 j (by simpa using hj)
  ·intro h
   refine ⟨?_,fun j hj=>?_⟩
   ·have:=h 0 (by simp)
    have e:decide (0+1=(n :: r).length)=decide (r.length=0):=by simp
    rw [e] at this; simpa using this
   ·have:=h (j+1) (by simpa using hj)
    have e:decide (j+1+1=(n :: r).length)=decide (j+1=r.length):=by simp
    rw [e] at this; simpa using this
theorem oneB_is (l:List Nt) (o:Nat):oneB l o=(decide (l.length=1) && jJ (l.getD 0 qE) o):=by
 cases l with
 | nil=>simp [oneB]
 | cons n r=>rw [oneB]; simp
theorem sendB_is (l:List Nt) (t:Bs) (o:Nat):sendB l t o=(decide (0 < l.length) && (msgB t l.tail o && recvB (l.getD 0 qE) (qI t) o)):=by
 cases l with
 | nil=>simp [sendB]
 | cons n r =>
  rw [sendB];simp [msgB,recvB,operB,Bool.and_assoc]
  try rfl
theorem cascB_is (l:List Nt) (o:Nat) (h:3≤l.length):cascB l o=(msgsB l.tail o && recvB (l.getD 0 qE) (qI (l.getD 1 qE).text) o):=by
 cases l with
 | nil=>simp at h
 | cons n r =>
  cases r with
  | nil=>simp at h
  | cons m r=>rw [cascB]; simp [recvB,operB]
theorem exprB_is (n:Nt) (o:Nat):jJ n o=(if n.kind=6 then zd n 6 && (nmB n.text && (decide (n.text=[115,101,108,102]) || decide (vari n.text=0)))
  else if n.kind=8 then zd n 8 && (nmB n.text && oneB n.kids o)
  else if n.kind=9 then zd n 9 && sendB n.kids n.text o
  else if n.kind=10 then zd n 10 && (decide (3≤n.kids.length) && cascB n.kids o)
  else if n.kind=12 then zd n 12 && (decide (o < 24) && (decide (0≤n.num∧n.num≤8∧n.num≤n.names.length) && (nmsB n.names && jF n.kids (o+1))))
  else litB n o):=by
 obtain ⟨k,t,m,ns,ks⟩:=n
 rw [jJ]
 rfl
theorem litB_is (n:Nt) (o:Nat):litB n o=(if n.kind=1 then zd n 1 && (decide (-1073741824≤n.num) && decide (n.num≤1073741823))
  else if n.kind=2 then zd n 2 && decide (n.text.length≤256)
  else if n.kind=3 then zd n 3 && symOk n.text
  else if n.kind=5 then zd n 5 && constB n.text
  else if n.kind=4 then zd n 4 && (decide (o < 24) && (decide (n.kids.length≤32) && litsB n.kids (o+1)))
  else false):=by
 obtain ⟨k,t,m,ns,ks⟩:=n
 rw [litB]
 rfl
end Go.Proofs.YtfhkhmgodkheaaaGreatDoor
namespace Go.Proofs.YtfhkhmgodkheaaaGreatDoor
open Go.RowKit Go.Maps Go.WideMaps
structure Fr (S:List Nat) (w w':World):Prop where
 os:w'.os=w.os
 tape:w'.tape=w.tape
 output:w'.output=w.output
 size:w.heap.size≤w'.heap.size
 block:∀ k,k < w.heap.size→k ∉ S→w'.heap[k]?=w.heap[k]?
namespace Fr
theorem refl (S:List Nat) (w:World):Fr S w w:=⟨rfl,rfl,rfl,Nat.le_refl _,fun _ _ _=>rfl⟩
theorem trans {S S':List Nat} {w w' w'':World} (h:Fr S w w') (k:Fr S' w' w'') (hs:∀ b∈S',b∈S∨w.heap.size≤b):Fr S w w'' :=
 ⟨k.os.trans h.os,k.tape.trans h.tape,k.output.trans h.output,Nat.le_trans h.size k.size,fun i hi hn=>by
  rw [k.block i (Nat.lt_of_lt_of_le hi h.size) (fun hm=>by rcases hs i hm with h1 | h1; exact hn h1; omega)]
  exact h.block i hi hn⟩
theorem mono {S S':List Nat} {w w':World} (h:Fr S w w') (hs:∀ b∈S,b∈S'∨w.heap.size≤b):Fr S' w w' :=
 ⟨h.os,h.tape,h.output,h.size,fun k hk hn=>h.block k hk (fun hm=>by rcases hs k hm with h1 | h1; exact hn h1; omega)⟩
theorem drew (S:List Nat) (w:World):Fr S w w.drew:=⟨rfl,rfl,rfl,Nat.le_refl _,fun _ _ _=>rfl⟩
theorem alloc (S:List Nat) (w:World) (o:Obj):Fr S w (w.alloc o):=⟨rfl,rfl,rfl,by simp,fun k hk _=>Below.heap_alloc _ _ _ hk⟩
theorem setCell {S:List Nat} (w:World) (a:Addr) (v:Value) (h:a.block∈S):Fr S w (w.setCell a v) :=
 ⟨rfl,rfl,rfl,by simp,fun k hk hn=>Below.heap_setCell _ _ _ _ (fun e=>hn (by rw [e]; exact h))⟩
theorem grown {S:List Nat} {w w':World} {row:Option Nat} (h:w.grownBy w' row) (hr:∀ k,row=some k→k∈S):Fr S w w' :=
 ⟨h.os,h.tape,h.output,h.size,fun k hk hn=>h.block k hk (fun e=>hn (hr k e.symm))⟩
theorem bl {w w':World} {S:List Nat} (h:Fr S w w') (hS:∀ b∈S,w.heap.size≤b):Bl w w' :=
 ⟨h.os,h.tape,h.output,h.size,fun k hk=>h.block k hk (fun hm=>by have:=hS k hm; omega)⟩
theorem ofBl {w w':World} (h:Bl w w') (S:List Nat):Fr S w w':=⟨h.os,h.tape,h.output,h.size,fun k hk _=>h.block k hk⟩
end Fr
def blk (o:Option Addr):List Nat:=match o with | some a=>[a.block] | none=>[]
theorem qC {w w':World} {base:Nat} {e:TypeId} {size:Nat} {v:Value} {n:Nat} {xs:List Value} (h:w.ownsRow base e size v n xs)
  (hb:∀ g,v.ownBlock=some g→w'.heap[g]?=w.heap[g]?):w'.ownsRow base e size v n xs:=by
 refine ⟨h.1,?_⟩
 rcases h.2 with ⟨rfl,h2⟩ | ⟨g,cap,cur,rfl,h1,h2,h3⟩
 ·exact Or.inl ⟨rfl,h2⟩
 ·exact Or.inr ⟨g,cap,cur,rfl,h1,(hb g rfl).trans h2,h3⟩
theorem qB {w:World} {base:Nat} {e:TypeId} {size:Nat} {v:Value} {n:Nat} {xs:List Value} (h:w.ownsRow base e size v n xs) (g:Nat) (hg:v.ownBlock=some g):base≤g∧g < w.heap.size:=by
 rcases h.2 with ⟨rfl,h2⟩ | ⟨g',cap,cur,rfl,h1,h2,h3⟩
 ·cases hg
 ·have:g'=g:=by simpa [Value.ownBlock] using hg
  subst this;exact ⟨h1,(Array.getElem?_eq_some_iff.1 h2).1⟩
theorem jj (p:Option Addr) (n c g:Nat):g∈blk p ↔ (Value.slice p n c).ownBlock=some g:=by
 cases p with
 | none=>simp [blk,Value.ownBlock]
 | some a=>simp [blk,Value.ownBlock,eq_comm]
theorem qz {w:World} {base:Nat} {e:TypeId} {size:Nat} {v:Value} {n:Nat} {xs:List Value} (h:w.ownsRow base e size v n xs):∃ p c,v=.slice p n c:=by
 rcases h.2 with ⟨rfl,h2⟩ | ⟨g',cap,cur,rfl,h1,h2,h3⟩
 ·exact ⟨none,0,by rw [h2]⟩
 ·exact ⟨_,_,rfl⟩
theorem push4 (w:World) (base:Nat) (p:Option Addr) (c n:Nat) (xs x:List Value) (h4:x.length=4) (h:w.ownsRow base 54 4 (.slice p n c) n xs) (hx:∀ u∈x,u.oneCell'=true) (hn:n+1≤2199023255552) (hB:base≤w.heap.size) :
  ∃ p' c' w',(Builtin.append_ #[50,50] 50 #[.slice p n c,.slice (some ⟨w.heap.size,0,none⟩) 1 1]).run Tryz.prog (w.alloc (.cells x.toArray 54))=.ok (.slice p' (n+1) c') w' ∧
   w'.ownsRow base 54 4 (.slice p' (n+1) c') (n+1) (xs++x)∧((p'=p∧c'=c∧Fr (blk p) w w')∨(Fr [] w w'∧∀ g∈blk p',w.heap.size≤g)):=by
 obtain ⟨i,hi,hz,hsize,hby⟩:=info_parts info30
 have hA:(w.alloc (.cells x.toArray 54)).heap.size=w.heap.size+1:=by simp
 have hown:(w.alloc (.cells x.toArray 54)).ownsRow base 54 4 (.slice p n c) n xs:=qC h (fun g hg=>Below.heap_alloc _ _ _ (qB h g hg).2)
 have hnews:∀ j u,x[j]?=some u→(w.alloc (.cells x.toArray 54)).cell? ((⟨w.heap.size,0,none⟩:Addr).add j)=some u:=by
  have:=World.news_of_block (heap_alloc_new w (.cells x.toArray 54))
  simpa using this
 have h63:n+1≤maxLen:=by unfold maxLen; omega
 have hb:((n+1)+(n+1) / 4+192) * 40≤281474976710656:=by omega
 obtain ⟨v',w',hr,h2,h3,_⟩:=run_append_own_wide (P:=Tryz.prog) (w.alloc (.cells x.toArray 54)) base 50 50 54 i _ 4 40 Tryz.underlying50 hi hz hsize hby rfl (by decide) _ _ _ hown ⟨w.heap.size,0,none⟩ 1 1 x (by rw [h4]) hnews hx h63 hb (by omega)
 rcases h.2 with ⟨e1,e2⟩ | ⟨g,c0,cur,e1,q1,q2,q3,q4,q5,q6⟩
 ·injection e1 with e1 e3 e4
  subst e1;subst e4;subst e2;have hnil:xs=[]:=List.length_eq_zero_iff.1 (by rw [h.1])
  subst hnil;have hr2:=run_append_nil (P:=Tryz.prog) (w.alloc (.cells x.toArray 54)) 50 50 54 i _ Tryz.underlying50 hi hz ⟨w.heap.size,0,none⟩ 1 1 x (by rw [hsize,h4]) hnews (by decide) (by decide) (by rw [hby]; decide)
  have hr3:=hr;rw [hr2] at hr3;injection hr3 with hv hw
  subst hv;subst hw;exact ⟨_,_,_,hr,h2,Or.inr ⟨(Fr.alloc [] w _).trans ((Fr.drew [] _).trans (Fr.alloc [] _ _) (by simp)) (by simp),fun g hg=>by simp [blk] at hg; omega⟩⟩
 ·injection e1 with e1 _ e4
  subst e1;subst e4
  by_cases hroom:n+1≤c
  ·have hg:(w.alloc (.cells x.toArray 54)).heap[g]?=some (.cells cur 54 (0,0)):=(Below.heap_alloc _ _ _ (qf q2)).trans q2
   have hr2:=run_append_room (P:=Tryz.prog) (w.alloc (.cells x.toArray 54)) 50 50 54 i Tryz.underlying50 hi g n c cur hg ⟨w.heap.size,0,none⟩ 1 1 x (by rw [hsize,h4]) hnews hx hroom (by rw [hsize,q5,h4]; omega)
   have hr3:=hr;rw [hr2] at hr3;injection hr3 with hv hw
   subst hv;refine ⟨_,_,w',hr,h2,Or.inl ⟨rfl,rfl,(Fr.alloc (blk (some ⟨g,0,none⟩)) w _).trans (Fr.grown (S:=[g]) h3 (fun k hk=>?_)) (by simp [blk])⟩⟩
   simp [Value.ownBlock] at hk
   simp [hk]
  ·have holds:∀ j u,xs[j]?=some u→(w.alloc (.cells x.toArray 54)).cell? ((⟨g,0,none⟩:Addr).add j)=some u:=hown.cells (g:=g) rfl
   have hr2:=run_append_grow (P:=Tryz.prog) (w.alloc (.cells x.toArray 54)) 50 50 54 i _ Tryz.underlying50 hi hz ⟨g,0,none⟩ n c xs (by rw [hsize]; exact h.1) holds ⟨w.heap.size,0,none⟩ 1 1 x (by rw [hsize,h4]) hnews (by omega) (by unfold maxLen at h63; omega) (by rw [hby]; exact growslice_fits_wide (by omega) hb)
   have hr3:=hr;rw [hr2] at hr3;injection hr3 with hv hw
   subst hv;subst hw;exact ⟨_,_,_,hr,h2,Or.inr ⟨(Fr.alloc [] w _).trans ((Fr.drew [] _).trans (Fr.alloc [] _ _) (by simp)) (by simp),fun g hg=>by simp [blk] at hg; omega⟩⟩
end Go.Proofs.YtfhkhmgodkheaaaGreatDoor
namespace Go.Proofs.YtfhkhmgodkheaaaGreatDoor
open Go.RowKit Go.Maps
def tkv (x:Tok × Nat):Value:=.agg #[.int .i64 x.1.kind,.string (ba x.1.text),.int .i64 x.1.num,.int .i64 x.2]
structure Pr (w:World) (P g c:Nat) (ts:Ts) (s:Ps):Prop where
 par:w.heap[P]?=some (.cells #[.slice (some ⟨g,0,none⟩) ts.length c,.int .i64 s.pos,.int .i64 s.opn,.int .i64 s.code,.int .i64 s.place] 77 (0,0))
 toks:RdT w (.slice (some ⟨g,0,none⟩) ts.length c) ts
 ne:g≠P
theorem Pr.keep {w w':World} {P g c:Nat} {ts:Ts} {s:Ps} (h:Pr w P g c ts s) (b:Bl w w'):Pr w' P g c ts s :=
 ⟨(b.block _ (qf h.par)).trans h.par,h.toks.keep b,h.ne⟩
theorem Pr.lt {w:World} {P g c:Nat} {ts:Ts} {s:Ps} (h:Pr w P g c ts s):P < w.heap.size:=qf h.par
theorem Pr.cells {w:World} {P g c:Nat} {ts:Ts} {s:Ps} (h:Pr w P g c ts s):w.cell? ⟨P,0,none⟩=some (.slice (some ⟨g,0,none⟩) ts.length c)∧w.cell? ⟨P,1,none⟩=some (.int .i64 s.pos)∧w.cell? ⟨P,2,none⟩=some (.int .i64 s.opn)∧w.cell? ⟨P,3,none⟩=some (.int .i64 s.code)∧w.cell? ⟨P,4,none⟩=some (.int .i64 s.place) :=
 ⟨by rw [qh h.par]; rfl,by rw [qh h.par]; rfl,by rw [qh h.par]; rfl,by rw [qh h.par]; rfl,by rw [qh h.par]; rfl⟩
theorem Pr.tok {w:World} {P g c:Nat} {ts:Ts} {s:Ps} (h:Pr w P g c ts s) (hp:s.pos < ts.length):w.cell? ⟨g,s.pos * 4,none⟩=some (.int .i64 (hdT ts s).1.kind)∧w.cell? ⟨g,s.pos * 4+1,none⟩=some (.string (ba (hdT ts s).1.text))∧w.cell? ⟨g,s.pos * 4+2,none⟩=some (.int .i64 (hdT ts s).1.num)∧w.cell? ⟨g,s.pos * 4+3,none⟩=some (.int .i64 (hdT ts s).2) :=
 h.toks.cells s.pos hp
theorem Pr.write {w w':World} {P g c:Nat} {ts:Ts} {s s':Ps} (h:Pr w P g c ts s) (f:Fr [P] w w') (hp:w'.heap[P]?=some (.cells #[.slice (some ⟨g,0,none⟩) ts.length c,.int .i64 s'.pos,.int .i64 s'.opn,.int .i64 s'.code,.int .i64 s'.place] 77 (0,0))):Pr w' P g c ts s':=by
 refine ⟨hp,?_,h.ne⟩
 obtain ⟨p,c',e,hq⟩:=h.toks.at_
 refine ⟨p,c',e,fun h0=>?_⟩
 obtain ⟨b,off,e4,hb,hc⟩:=hq h0
 injection e with e1 e2 e3
 have hbg:b=g:=by
  rw [← e1] at e4;injection e4 with e4
  injection e4 with e5
  exact e5.symm
 refine ⟨b,off,e4,Nat.lt_of_lt_of_le hb f.size,fun j hj=>?_⟩
 have e:∀ i,w'.cell? ⟨b,i,none⟩=w.cell? ⟨b,i,none⟩:=fun i=>World.cell?_of_block (w:=w) (f.block b hb (by rw [hbg]; simpa using h.ne))
 rw [e,e,e,e]
 exact hc j hj
theorem pass_ok (P g c:Nat) (ts:Ts) (s:Ps) (cd p:Nat) (w:World) (h:Pr w P g c ts s) (h1:s.place≤8192):Calls Tryz.prog 116 #[.pointer (some ⟨P,0,none⟩),.int .i64 cd,.int .i64 p] w fun e w'=>e=.returned (.tuple #[])∧Pr w' P g c ts (qR cd p s)∧Fr [P] w w':=by
 obtain ⟨a0,a1,a2,a3,a4⟩:=h.cells
 have f3:=qK h.par 3
 have f4:=qK h.par 4
 have HS:Hid (∀ W,W=(w.setCell ⟨P,3,none⟩ (.int .i64 cd)).setCell ⟨P,4,none⟩ (.int .i64 p)→Pr W P g c ts { s with code:=cd,place:=p }∧Fr [P] w W):=qd fun W hW=>by
  subst hW;have f:Fr [P] w ((w.setCell ⟨P,3,none⟩ (.int .i64 cd)).setCell ⟨P,4,none⟩ (.int .i64 p)):=(Fr.setCell w _ _ (by simp)).trans (Fr.setCell _ _ _ (by simp)) (fun b hb=>Or.inl hb)
  exact ⟨h.write f (by rw [zc (zc h.par 3 _) 4 _]; rfl),f⟩
 have HI:Hid (Pr w P g c ts s):=h
 by_cases hc:s.code=0
 ·have HP:Hid (qR cd p s={ s with code:=cd,place:=p }):=qd (by unfold qR; rw [if_pos (Or.inl hc)])
  rw [hc] at a3
  replace a3:w.cell? ⟨P,3,none⟩=some (.int .i64 0):=a3
  clear h hc
  go_enter Tryz.func116,Tryz.ntmps116
  go_wp2_with fail
  go_end0
  obtain ⟨h1,h2⟩:=HS.out _ rfl;exact ⟨rfl,by rw [HP.out]; exact h1,h2⟩
 ·have hci:((s.code:Int) == 0)=false:=beq_eq_false_iff_ne.2 (by omega)
  by_cases hp:p < s.place
  ·have HP:Hid (qR cd p s={ s with code:=cd,place:=p }):=qd (by unfold qR; rw [if_pos (Or.inr hp)])
   have hpi:(p:Int) < s.place:=by omega
   clear h hc hp
   go_enter Tryz.func116,Tryz.ntmps116
   go_wp2_with fail
   go_end0
   obtain ⟨h1,h2⟩:=HS.out _ rfl;exact ⟨rfl,by rw [HP.out]; exact h1,h2⟩
  ·have HP:Hid (qR cd p s=s):=qd (by unfold qR; rw [if_neg (by rintro (h | h); exact hc h; exact hp h)])
   have hpi:¬ (p:Int) < s.place:=by omega
   clear h hc hp
   go_enter Tryz.func116,Tryz.ntmps116
   go_wp2_with fail
   go_end0
   exact ⟨rfl,by rw [HP.out]; exact HI.out,Fr.refl _ _⟩
theorem ret54 {f:Func} {V w:World} {B:Nat} {tm:Array Value} {k n a:Nat} {t:Bs} (hres:f.results=#[.cell 2 54]) (hVb:V.heap[B]?=some (.cells #[.int .i64 k,.string (ba t),.int .i64 n,.int .i64 a] 54 (0,0))) (hVl:Bl w V)
  (h2:tm.getD 2 undef=.pointer (some ⟨B,0,none⟩)) :
  bodyPost Tryz.prog f (fun e w'=>e=.returned (.agg #[.int .i64 k,.string (ba t),.int .i64 n,.int .i64 a])∧Bl w w') .ret ⟨tm,[]⟩ V:=by
 have x0:V.cell? ⟨B,0,none⟩=some (.int .i64 k):=by rw [qh hVb]; rfl
 have x1:V.cell? ⟨B,1,none⟩=some (.string (ba t)):=by rw [qh hVb]; rfl
 have x2:V.cell? ⟨B,2,none⟩=some (.int .i64 n):=by rw [qh hVb]; rfl
 have x3:V.cell? ⟨B,3,none⟩=some (.int .i64 a):=by rw [qh hVb]; rfl
 have h2':tm[2]?.getD undef=.pointer (some ⟨B,0,none⟩):=by simpa using h2
 refine bodyPost_ret (v:=.agg #[.int .i64 k,.string (ba t),.int .i64 n,.int .i64 a]) (by simp [results,hres,go_sem,h2,h2',x0,x1,x2,x3]) rfl ⟨rfl,hVl⟩
theorem four_in {W:World} {B:Nat} (hr:W.heap[B]?=some z4) (a b c d:Value):((((W.setCell ⟨B,0,none⟩ a).setCell ⟨B,1,none⟩ b).setCell ⟨B,2,none⟩ c).setCell ⟨B,3,none⟩ d).drew.heap[B]?=some (.cells #[a,b,c,d] 54 (0,0)):=by
 show ((((W.setCell ⟨B,0,none⟩ a).setCell ⟨B,1,none⟩ b).setCell ⟨B,2,none⟩ c).setCell ⟨B,3,none⟩ d).heap[B]?=_
 rw [zc (zc (zc (zc hr 0 _) 1 _) 2 _) 3 _]
 rfl
theorem qV (w:World):Bl w w.drew:=⟨rfl,rfl,rfl,Nat.le_refl _,fun _ _=>rfl⟩
theorem four_bl {w W:World} {B:Nat} (hb:Bl w W) (hB:w.heap.size≤B) (a b c d:Value):Bl w ((((W.setCell ⟨B,0,none⟩ a).setCell ⟨B,1,none⟩ b).setCell ⟨B,2,none⟩ c).setCell ⟨B,3,none⟩ d).drew :=
 (jy (jy (jy (jy hb hB 0 _) hB 1 _) hB 2 _) hB 3 _).trans (qV _)
theorem four_set (W:World) (B:Nat) (a b c d:Value) (k:Nat) (h:k≠B):((((W.setCell ⟨B,0,none⟩ a).setCell ⟨B,1,none⟩ b).setCell ⟨B,2,none⟩ c).setCell ⟨B,3,none⟩ d).heap[k]?=W.heap[k]?:=by
 rw [Below.heap_setCell _ _ _ _ (by exact h),Below.heap_setCell _ _ _ _ (by exact h),Below.heap_setCell _ _ _ _ (by exact h),Below.heap_setCell _ _ _ _ (by exact h)]
theorem four_drew (W:World) (B:Nat) (a b c d:Value):∀ k,k≠B→((((W.setCell ⟨B,0,none⟩ a).setCell ⟨B,1,none⟩ b).setCell ⟨B,2,none⟩ c).setCell ⟨B,3,none⟩ d).drew.heap[k]?=W.heap[k]?:=fun k h=>four_set W B a b c d k h
theorem zI (P g c:Nat) (ts:Ts) (s:Ps) (w:World) (h:Pr w P g c ts s) (hp:s.pos < ts.length) (hl:ts.length≤8192):Calls Tryz.prog 54 #[.pointer (some ⟨P,0,none⟩)] w fun e w'=>e=.returned (tkv (hdT ts s))∧Bl w w':=by
 have hpi:(s.pos:Int) < ts.length:=by omega
 obtain ⟨W,hW⟩:∃ W,W=w.alloc (.cells #[.int .i64 0,.string ⟨#[]⟩,.int .i64 0,.int .i64 0] 54):=⟨_,rfl⟩
 have HB:Hid (Bl w W):=by rw [hW]; exact Bl.alloc _ _
 have HR:Hid (W.heap[w.heap.size]?=some z4):=by rw [hW]; exact heap_alloc_new w _
 have HP:=qd (h.keep HB.out)
 obtain ⟨a0,a1,_⟩:=HP.out.cells
 obtain ⟨t0,t1,t2,t3⟩:=HP.out.tok hp
 obtain ⟨r0,r1,r2,r3,y0,y1,y2,y3⟩:=resF HR.out
 have hPl:=h.lt
 have hgl:g < w.heap.size:=by
  obtain ⟨p,c',e,hq⟩:=h.toks.at_;obtain ⟨b,off,e4,hb,hc⟩:=hq (by omega)
  injection e with e1
  rw [← e1] at e4;injection e4 with e4
  injection e4 with e5
  rw [e5]; exact hb
 clear h
 unfold tkv
 generalize hdT ts s=x at *
 obtain ⟨⟨tk,tt,tn⟩,tp⟩:=x
 dsimp only at *
 generalize s.pos=q at *
 have HKp:Hid (∀ X:World,(∀ k,k≠w.heap.size→X.heap[k]?=W.heap[k]?)→X.cell? ⟨P,0,none⟩=some (.slice (some ⟨g,0,none⟩) ts.length c)∧X.cell? ⟨P,1,none⟩=some (.int .i64 q)∧X.cell? ⟨g,q * 4,none⟩=some (.int .i64 tk)∧X.cell? ⟨g,q * 4+1,none⟩=some (.string (ba tt))∧X.cell? ⟨g,q * 4+2,none⟩=some (.int .i64 tn)∧X.cell? ⟨g,q * 4+3,none⟩=some (.int .i64 tp)):=qd fun X hX=>by
  have eP:∀ i,X.cell? ⟨P,i,none⟩=W.cell? ⟨P,i,none⟩:=fun i=>World.cell?_of_block (w:=W) (hX P (by omega))
  have eg:∀ i,X.cell? ⟨g,i,none⟩=W.cell? ⟨g,i,none⟩:=fun i=>World.cell?_of_block (w:=W) (hX g (by omega))
  rw [eP,eP,eg,eg,eg,eg];exact ⟨a0,a1,t0,t1,t2,t3⟩
 have HK0:=qd (HKp.out W (fun k _=>rfl))
 have HK1:=qd (HKp.out W.drew (fun k _=>rfl))
 have HK2:=qd (HKp.out _ (four_set W w.heap.size (.int .i64 tk) (.string (ba tt)) (.int .i64 tn) (.int .i64 tp)))
 have HK3:=qd (HKp.out _ (four_drew W w.heap.size (.int .i64 tk) (.string (ba tt)) (.int .i64 tn) (.int .i64 tp)))
 go_enter Tryz.func54,Tryz.ntmps54
 go_wp2_with fail
 rw [← hW]
 clear hW
 go_region_held3 (fun V=>V.cell? ⟨P,0,none⟩=some (.slice (some ⟨g,0,none⟩) ts.length c)∧V.cell? ⟨P,1,none⟩=some (.int .i64 q)∧V.cell? ⟨g,q * 4,none⟩=some (.int .i64 tk)∧V.cell? ⟨g,q * 4+1,none⟩=some (.string (ba tt))∧V.cell? ⟨g,q * 4+2,none⟩=some (.int .i64 tn)∧V.cell? ⟨g,q * 4+3,none⟩=some (.int .i64 tp)) (first | exact HK0.out | exact HK1.out | exact HK2.out | exact HK3.out) (fail)
 have HF:=qd (four_in HR.out (.int .i64 tk) (.string (ba tt)) (.int .i64 tn) (.int .i64 tp))
 have HG:=qd (four_bl HB.out (Nat.le_refl _) (.int .i64 tk) (.string (ba tt)) (.int .i64 tn) (.int .i64 tp))
 generalize ((((W.setCell ⟨w.heap.size,0,none⟩ (.int .i64 tk)).setCell ⟨w.heap.size,1,none⟩ (.string (ba tt))).setCell ⟨w.heap.size,2,none⟩ (.int .i64 tn)).setCell ⟨w.heap.size,3,none⟩ (.int .i64 tp)).drew=V at *
 go_wp2_with fail
 exact ret54 Tryz.results54 HF.out HG.out rfl
end Go.Proofs.YtfhkhmgodkheaaaGreatDoor
