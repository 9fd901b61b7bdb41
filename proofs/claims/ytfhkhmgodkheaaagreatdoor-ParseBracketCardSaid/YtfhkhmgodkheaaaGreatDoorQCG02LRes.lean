import Derived.Test.YtfhkhmgodkheaaaGreatDoorQCG01LSym
import Derived.Deep.Draws
import Derived.Lib.SmallJoins
set_option linter.unusedSimpArgs false
set_option linter.unusedVariables false
set_option maxRecDepth 1000000
set_option maxHeartbeats 16000000
namespace Go.Proofs.YtfhkhmgodkheaaaGreatDoor
open Go.RowKit
def nameB (l:Bs):Bool:=decide (l≠[]∧qw l=l.length)
def opB (l:Bs):Bool:=decide (l≠[]∧zE l=l.length)
def symB (l:Bs):Bool:=decide (l≠[]∧zr l=l.length)
def smallB (l:Bs):Bool:=isS (hd l)
def resB (l:Bs):Bool:=decide (l=[115,101,108,102]∨l=[115,117,112,101,114]∨l=[110,105,108]∨l=[116,114,117,101]∨l=[102,97,108,115,101])
def kwsNF:Nat→Bs→Option Nat
 | 0,l=>if l=[] then some 0 else none
 | f+1,l=>if l=[] then some 0 else if qT l=0∨isS (hd l)=false then none else (kwsNF f (l.drop (qT l))).map (·+1)
def kwsN (l:Bs):Option Nat:=kwsNF l.length l
theorem kwsNF_any:∀ (f g:Nat) (l:Bs),l.length≤f→l.length≤g→kwsNF f l=kwsNF g l:=by
 intro f
 induction f with
 | zero =>
  intro g l hf hg;have:l=[]:=List.length_eq_zero_iff.1 (by omega)
  subst this
  cases g <;> simp [kwsNF]
 | succ f ih =>
  intro g l hf hg
  by_cases hl:l=[]
  ·subst hl; cases g <;> simp [kwsNF]
  ·have:=List.length_pos_iff.2 hl
   obtain ⟨g,rfl⟩:∃ g',g=g'+1:=⟨g - 1,by omega⟩
   unfold kwsNF;rw [if_neg hl,if_neg hl]
   by_cases hk:qT l=0∨isS (hd l)=false
   ·rw [if_pos hk,if_pos hk]
   ·rw [if_neg hk,if_neg hk,ih g (l.drop (qT l)) (by simp; omega) (by simp; omega)]
theorem kwsN_step (l:Bs):kwsN l=if l=[] then some 0 else if qT l=0∨isS (hd l)=false then none else (kwsN (l.drop (qT l))).map (·+1):=by
 by_cases hl:l=[]
 ·subst hl; rfl
 ·have:=List.length_pos_iff.2 hl
  unfold kwsN;obtain ⟨n,hn⟩:∃ n,l.length=n+1:=⟨l.length - 1,by omega⟩
  rw [hn];unfold kwsNF;rw [if_neg hl,if_neg hl]
  by_cases hk:qT l=0∨isS (hd l)=false
  ·rw [if_pos hk,if_pos hk]
  ·rw [if_neg hk,if_neg hk,kwsNF_any n (l.drop (qT l)).length _ (by simp; omega) (Nat.le_refl _)]
   cases (l.drop (qT l)).length <;> rfl
def kwAns (o:Option Nat):Nat × Nat:=match o with | some (n+1)=>(n+1,0) | _=>(0,1)
def sel (l:Bs):Nat × Nat:=if nameB l=true∧smallB l=true∧resB l=false then (0,0) else if opB l=true then (1,0) else kwAns (kwsN l)
def vari (l:Bs):Nat:=if resB l=true then 78 else if nameB l=true then 0 else 1
theorem lst_nil {s:ByteArray}:lst s=[] ↔ s.size=0:=by
 rw [← qo]; exact List.length_eq_zero_iff.symm
theorem tl_lst (s:ByteArray):s.toList=lst s:=ByteArray.toList_eq s
theorem isName_ok (s:ByteArray) (w:World) (hs:s.size≤140737488355328):Calls Tryz.prog 92 #[.string s] w fun e w'=>e=.returned (.bool (nameB (lst s)))∧Bl w w':=by
 by_cases h0:s.size=0
 ·have hE:s.toList.isEmpty=true:=jE h0
  have e:nameB (lst s)=false:=decide_eq_false (fun h=>h.1 (lst_nil.2 h0))
  go_enter Tryz.func92,Tryz.ntmps92
  go_wp2_with (go_at_call 72; refine (jL s w hs).mono ?_; rintro e w1 ⟨rfl,b1⟩)
  go_ret
  exact ⟨by rw [e]; rfl,Bl.refl w⟩
 ·have hE:s.toList.isEmpty=false:=ja h0
  have e:Hid (nameB (lst s)=((qw (lst s):Int) == (s.size:Int))):=by
   unfold Hid nameB;rw [Bool.eq_iff_iff,qo];simp only [decide_eq_true_eq,beq_iff_eq,lst_nil,ne_eq];omega
  go_enter Tryz.func92,Tryz.ntmps92
  go_wp2_with (go_at_call 72; refine (jL s w hs).mono ?_; rintro e w1 ⟨rfl,b1⟩)
  all_goals (go_ret; exact ⟨by rw [e.out]; rfl,b1⟩)
theorem isOp_ok (s:ByteArray) (w:World) (hs:s.size≤140737488355328):Calls Tryz.prog 95 #[.string s] w fun e w'=>e=.returned (.bool (opB (lst s)))∧w'=w:=by
 by_cases h0:s.size=0
 ·have hE:s.toList.isEmpty=true:=jE h0
  have e:opB (lst s)=false:=decide_eq_false (fun h=>h.1 (lst_nil.2 h0))
  go_enter Tryz.func95,Tryz.ntmps95
  go_wp2_with (go_at_call 76; refine (opLength_ok s w hs).mono ?_; rintro e w1 ⟨rfl,rfl⟩)
  go_ret
  exact ⟨by rw [e]; rfl,rfl⟩
 ·have hE:s.toList.isEmpty=false:=ja h0
  have e:Hid (opB (lst s)=((zE (lst s):Int) == (s.size:Int))):=by
   unfold Hid opB;rw [Bool.eq_iff_iff,qo];simp only [decide_eq_true_eq,beq_iff_eq,lst_nil,ne_eq];omega
  go_enter Tryz.func95,Tryz.ntmps95
  go_wp2_with (go_at_call 76; refine (opLength_ok s w hs).mono ?_; rintro e w1 ⟨rfl,rfl⟩)
  all_goals (go_ret; exact ⟨by rw [e.out]; rfl,rfl⟩)
theorem isSym_ok (s:ByteArray) (w:World) (hs:s.size≤140737488355328):Calls Tryz.prog 181 #[.string s] w fun e w'=>e=.returned (.bool (symB (lst s)))∧Bl w w':=by
 by_cases h0:s.size=0
 ·have hE:s.toList.isEmpty=true:=jE h0
  have e:symB (lst s)=false:=decide_eq_false (fun h=>h.1 (lst_nil.2 h0))
  go_enter Tryz.func181,Tryz.ntmps181
  go_wp2_with (go_at_call 75; refine (symLength_ok s w hs).mono ?_; rintro e w1 ⟨rfl,b1⟩)
  go_ret
  exact ⟨by rw [e]; rfl,Bl.refl w⟩
 ·have hE:s.toList.isEmpty=false:=ja h0
  have e:Hid (symB (lst s)=((zr (lst s):Int) == (s.size:Int))):=by
   unfold Hid symB;rw [Bool.eq_iff_iff,qo];simp only [decide_eq_true_eq,beq_iff_eq,lst_nil,ne_eq];omega
  go_enter Tryz.func181,Tryz.ntmps181
  go_wp2_with (go_at_call 75; refine (symLength_ok s w hs).mono ?_; rintro e w1 ⟨rfl,b1⟩)
  all_goals (go_ret; exact ⟨by rw [e.out]; rfl,b1⟩)
theorem isSmall_ok (s:ByteArray) (w:World):Calls Tryz.prog 93 #[.string s] w fun e w'=>e=.returned (.bool (smallB (lst s)))∧w'=w:=by
 by_cases h0:s.size=0
 ·have hE:s.toList.isEmpty=true:=jE h0
  have e:smallB (lst s)=false:=by rw [lst_nil.2 h0]; rfl
  go_enter Tryz.func93,Tryz.ntmps93
  go_wp2
  go_ret
  exact ⟨by rw [e]; rfl,rfl⟩
 ·have hE:s.toList.isEmpty=false:=ja h0
  have hp:0 < s.size:=by omega
  have b0:Hid (hd (lst s)=(s[0]'hp).toNat):=get_lst s 0 hp
  go_enter Tryz.func93,Tryz.ntmps93
  go_wp2
  all_goals (go_ret; exact ⟨congrArg (fun b=>Ending.returned (Value.bool b)) (by unfold smallB; rw [b0.out,Bool.eq_iff_iff,isS_iff]; simp <;> omega),rfl⟩)
theorem isRes_ok (s:ByteArray) (w:World):Calls Tryz.prog 94 #[.string s] w fun e w'=>e=.returned (.bool (resB (lst s)))∧w'=w:=by
 have e:Hid (resB (lst s)=(s.toList == [115,101,108,102] || (s.toList == [115,117,112,101,114] || (s.toList == [110,105,108] || (s.toList == [116,114,117,101] || s.toList == [102,97,108,115,101]))))):=by
  unfold Hid resB;rw [tl_lst,Bool.eq_iff_iff];simp
 go_enter Tryz.func94,Tryz.ntmps94
 go_wp2
 all_goals (go_ret; refine ⟨?_,rfl⟩; rw [e.out]; simp_all)
theorem vari_ok (s:ByteArray) (w:World) (hs:s.size≤140737488355328):Calls Tryz.prog 98 #[.string s] w fun e w'=>e=.returned (.int .i64 (vari (lst s)))∧Bl w w':=by
 have hn:=isName_ok s w hs
 have hr:=isRes_ok s w
 have e:Hid (vari (lst s)=if resB (lst s)=true then 78 else if nameB (lst s)=true then 0 else 1):=qd rfl
 generalize vari (lst s)=v at *
 generalize resB (lst s)=r at *
 generalize nameB (lst s)=n at *
 go_enter Tryz.func98,Tryz.ntmps98
 cases r <;> cases n
 all_goals go_wp2_with (first | (go_at_call 94; refine hr.mono ?_; rintro e w1 ⟨rfl,rfl⟩) | (go_at_call 92; refine hn.mono ?_; rintro e w1 ⟨rfl,b1⟩))
 all_goals go_ret
 all_goals first | exact ⟨by rw [e.out]; rfl,b1⟩ | exact ⟨by rw [e.out]; rfl,Bl.refl _⟩
end Go.Proofs.YtfhkhmgodkheaaaGreatDoor
namespace Go.Proofs.YtfhkhmgodkheaaaGreatDoor
inductive Nd
 | mk (kind:Nat) (text:Bs) (num:Int) (place:Nat) (names:List Bs) (places:List Nat) (kids:List Nd)
namespace Nd
def kind:Nd→Nat | mk k _ _ _ _ _ _=>k
def text:Nd→Bs | mk _ t _ _ _ _ _=>t
def num:Nd→Int | mk _ _ n _ _ _ _=>n
def place:Nd→Nat | mk _ _ _ p _ _ _=>p
def names:Nd→List Bs | mk _ _ _ _ l _ _=>l
def places:Nd→List Nat | mk _ _ _ _ _ l _=>l
def kids:Nd→List Nd | mk _ _ _ _ _ _ l=>l
end Nd
structure Ps where
 pos:Nat
 opn:Int
 code:Nat
 place:Nat
deriving DecidableEq
inductive Rs (α:Type)
 | ok (a:α) (s:Ps)
 | bad (x:Tok × Nat)
abbrev Ts:=List (Tok × Nat)
def zj:Tok × Nat:=(⟨0,[],0⟩,0)
def hdT (ts:Ts) (s:Ps):Tok × Nat:=ts.getD s.pos zj
def qi (ts:Ts) (k:Nat) (s:Ps):Bool:=decide ((hdT ts s).1.kind=k)
def qR (c p:Nat) (s:Ps):Ps:=if s.code=0∨p < s.place then { s with code:=c,place:=p } else s
def jM (x:Tok × Nat) (n:Nat) (s:Ps):Ps:=if n < x.1.text.length then qR 73 x.2 s else s
def qW (x:Tok × Nat) (s:Ps):Ps :=
 if x.1.kind=1∨x.1.kind=2 then jM x 32 s
 else if x.1.kind=5 then jM x 96 s
 else if x.1.kind=6 then jM x 256 s
 else if x.1.kind=8∨x.1.kind=10∨x.1.kind=7 then { (if 24≤s.opn then qR 72 x.2 s else s) with opn:=s.opn+1 }
 else if x.1.kind=9∨x.1.kind=11 then { s with opn:=s.opn - 1 }
 else s
def qj (ts:Ts) (s:Ps):Ps:={ qW (hdT ts s) s with pos:=s.pos+1 }
def qS (ts:Ts) (k:Nat) (s:Ps):Rs (Tok × Nat):=if qi ts k s=true then .ok (hdT ts s) (qj ts s) else .bad (hdT ts s)
def qN (ts:Ts) (k:Nat) (s:Ps):Bool × Ps:=if qi ts k s=true then (true,qj ts s) else (false,s)
def qI (l:Bs):Nat:=if (sel l).2≠0 then 0 else if (sel l).1=0 then 1 else if l.getLast?=some 58 then 3 else 2
def qy (x:Tok × Nat):Nat:=if x.1.kind=1∨x.1.kind=3 then qI x.1.text else if x.1.kind=2 then qI (x.1.text++[58]) else 0
def constB (l:Bs):Bool:=decide (l=[110,105,108]∨l=[116,114,117,101]∨l=[102,97,108,115,101])
def qY {α:Type} (ts:Ts) (btw:Nat) (there:Ps→Bool × Ps) (one:List α→Ps→Option (Rs α)):Nat→List α→Ps→Option (Rs (List α))
 | 0,_,_=>none
 | f+1,acc,s=>match there s with
  | (false,s1)=>some (.ok acc s1)
  | (true,s1)=>match one acc s1 with
   | none=>none
   | some (.bad x)=>some (.bad x)
   | some (.ok a s2) =>
    if btw=0 then qY ts btw there one f (acc++[a]) s2
    else match qN ts btw s2 with
     | (false,s3)=>some (.ok (acc++[a]) s3)
     | (true,s3)=>qY ts btw there one f (acc++[a]) s3
def qF {α β:Type} (r:Option (Rs α)) (k:α→Ps→Option (Rs β)):Option (Rs β):=match r with
 | none=>none
 | some (.bad x)=>some (.bad x)
 | some (.ok a s)=>k a s
def zH:Nat→Bs→Ts→Ps→Bs × Ps
 | _,l,[],s=>(l,s)
 | i,l,x :: r,s=>zH (i+1) (l++x.1.text++[58]) r (if 96 < (l++x.1.text++[58]).length∨8≤i then qR 73 x.2 s else s)
def zv {α:Type} (ts:Ts) (one:Ps→Option (Rs α)) (f:Nat) (s:Ps):Option (Rs (Bs × List α)) :=
 qF (qY ts 0 (fun s=>(decide (qy (hdT ts s)=3),s)) (fun _ s=>qF (one (qj ts s)) (fun a s2=>some (.ok (hdT ts s,a) s2))) f [] s)
  fun l s2=>some (.ok ((zH 0 [] (l.map (·.1)) s2).1,l.map (·.2)) (zH 0 [] (l.map (·.1)) s2).2)
def zt {α:Type} (ts:Ts) (one:Nat→Ps→Option (Rs α)) (f:Nat) (s:Ps):Option (Rs (Bs × List α)) :=
 if qy (hdT ts s)=1 then some (.ok ((hdT ts s).1.text,[]) (qj ts s))
 else if qy (hdT ts s)=2 then qF (one 2 (qj ts s)) (fun a s2=>some (.ok ((hdT ts s).1.text,[a]) s2))
 else if qy (hdT ts s)=3 then zv ts (one 3) f s
 else some (.bad (hdT ts s))
def jc (ts:Ts) (s:Ps):Rs Nd :=
 let x:=hdT ts s
 let s1:=qj ts s
 if x.1.kind=4∧x.1.num≤1073741823 then .ok (.mk 1 [] x.1.num x.2 [] [] []) s1
 else if x.1.text=[45]∧qi ts 4 s1=true∧(hdT ts s1).2=x.2+1 then .ok (.mk 1 [] (-((hdT ts s1).1.num:Int)) x.2 [] [] []) (qj ts s1)
 else .bad x
def jf (ts:Ts) (most:Nat) (s:Ps):Rs Nd :=
 let x:=hdT ts s
 let s1:=qj ts s
 if constB x.1.text=true then .ok (.mk 5 x.1.text 0 x.2 [] [] []) s1
 else if x.1.text≠[115,117,112,101,114] then .ok (.mk 6 x.1.text 0 x.2 [] [] []) s1
 else if qy (hdT ts s1)=0∨most < qy (hdT ts s1) then .bad x
 else .ok (.mk 7 [] 0 x.2 [] [] []) s1
def qv (ts:Ts) (f:Nat) (s:Ps):Option (Rs Ts) :=
 match qN ts 12 s with
 | (false,s1)=>some (.ok [] s1)
 | (true,s1)=>qF (qY ts 0 (fun s=>(qi ts 1 s,s)) (fun _ s=>some (.ok (hdT ts s) (qj ts s))) f [] s1) fun l s2=>match qS ts 12 s2 with
  | .bad x=>some (.bad x)
  | .ok _ s3=>some (.ok l s3)
def retd (l:List Nd):Bool:=match l.getLast? with | some n=>decide (n.kind=13) | none=>false
def sendN (r m:Nd):Nd:=.mk 9 m.text m.num m.place m.names m.places (r :: m.kids)
mutual
def qD (ts:Ts):Nat→Ps→Option (Rs Nd)
 | 0,_=>none
 | f+1,s=>if qi ts 1 s=true∧(ts.getD (s.pos+1) zj).1.kind=14 then
   qF (qD ts f (qj ts (qj ts s))) fun n s2=>some (.ok (.mk 8 (hdT ts s).1.text 0 (hdT ts s).2 [] [] [n]) s2)
  else zi ts f s
def zi (ts:Ts):Nat→Ps→Option (Rs Nd)
 | 0,_=>none
 | f+1,s=>qF (zm ts f 3 s) fun x s1 =>
   if qi ts 17 s1=false then some (.ok x.1 s1)
   else if x.2=false then some (.bad (hdT ts s1))
   else qF (qY ts 17 (fun s=>(true,s)) (fun _=>qM ts f) f [] (qj ts s1)) fun l s2 =>
    match x.1.kids with
    | []=>none
    | r :: ks=>some (.ok (.mk 10 [] 0 (hdT ts s1).2 [] [] (r :: .mk 11 x.1.text x.1.num x.1.place x.1.names x.1.places ks :: l)) s2)
def zm (ts:Ts):Nat→Nat→Ps→Option (Rs (Nd × Bool))
 | 0,_,_=>none
 | f+1,most,s=>qF (ze ts f most s) fun n s1=>zn ts f most 1 n false s1
def zn (ts:Ts):Nat→Nat→Nat→Nd→Bool→Ps→Option (Rs (Nd × Bool))
 | 0,_,_,_,_,_=>none
 | f+1,most,rank,n,sent,s =>
  if most < rank then some (.ok (n,sent) s)
  else if qy (hdT ts s)=rank then qF (qM ts f s) fun m s1=>zn ts f most rank (sendN n m) true s1
  else zn ts f most (rank+1) n sent s
def qM (ts:Ts):Nat→Ps→Option (Rs Nd)
 | 0,_=>none
 | f+1,s=>qF (zt ts (fun rank s=>qF (zm ts f (rank - 1) s) fun x s1=>some (.ok x.1 s1)) f s) fun x s1=>some (.ok (.mk 11 x.1 0 (hdT ts s).2 [] [] x.2) s1)
def ze (ts:Ts):Nat→Nat→Ps→Option (Rs Nd)
 | 0,_,_=>none
 | f+1,most,s =>
  if (hdT ts s).1.kind=1 then some (jf ts most s)
  else if (hdT ts s).1.kind=8 then qF (qD ts f (qj ts s)) fun n s1=>match qS ts 9 s1 with
   | .bad x=>some (.bad x)
   | .ok _ s2=>some (.ok n s2)
  else if (hdT ts s).1.kind=10 then zO ts f s
  else zb ts f s
def zb (ts:Ts):Nat→Ps→Option (Rs Nd)
 | 0,_=>none
 | f+1,s =>
  if (hdT ts s).1.kind=4∨(hdT ts s).1.kind=3 then some (jc ts s)
  else if (hdT ts s).1.kind=6 then some (.ok (.mk 2 (hdT ts s).1.text 0 (hdT ts s).2 [] [] []) (qj ts s))
  else if (hdT ts s).1.kind=5 then some (.ok (.mk 3 (hdT ts s).1.text 0 (hdT ts s).2 [] [] []) (qj ts s))
  else if (hdT ts s).1.kind=7 then qF (qY ts 0 (fun s=>(!qi ts 9 s,s)) (fun _=>qX ts f) f [] (qj ts s)) fun l s1 =>
   match qS ts 9 (if 32 < l.length then qR 73 ((l.map Nd.place).getD 32 0) s1 else s1) with
   | .bad x=>some (.bad x)
   | .ok _ s2=>some (.ok (.mk 4 [] 0 (hdT ts s).2 [] [] l) s2)
  else some (.bad (hdT ts s))
def qX (ts:Ts):Nat→Ps→Option (Rs Nd)
 | 0,_=>none
 | f+1,s=>if (hdT ts s).1.kind=1∧constB (hdT ts s).1.text=true then some (jf ts 0 s) else zb ts f s
def zO (ts:Ts):Nat→Ps→Option (Rs Nd)
 | 0,_=>none
 | f+1,s=>qF (qY ts 0 (fun s=>qN ts 13 s) (fun _ s=>some (qS ts 1 s)) f [] (qj ts s)) fun ps s1 =>
   let s2:=if 8 < ps.length then qR 73 (ps.getD 8 zj).2 s1 else s1
   match (if 0 < ps.length∧qi ts 11 s2=false then qS ts 12 s2 else .ok zj s2) with
   | .bad x=>some (.bad x)
   | .ok _ s3=>qF (qv ts f s3) fun tm s4=>qF (zg ts f 11 s4) fun l s5 =>
    some (.ok (.mk 12 [] ps.length (hdT ts s).2 ((ps++tm).map (·.1.text)) ((ps++tm).map (·.2)) l) s5)
def qA (ts:Ts):Nat→Ps→Option (Rs Nd)
 | 0,_=>none
 | f+1,s=>if qi ts 15 s=true then qF (qD ts f (qj ts s)) fun n s1=>some (.ok (.mk 13 [] 0 (hdT ts s).2 [] [] [n]) s1) else qD ts f s
def zg (ts:Ts):Nat→Nat→Ps→Option (Rs (List Nd))
 | 0,_,_=>none
 | f+1,fin,s=>qF (qY ts 16 (fun s=>(!qi ts fin s,s)) (fun acc s=>if retd acc=true then some (.bad (hdT ts s)) else qA ts f s) f [] s) fun l s1=>match qS ts fin s1 with
  | .bad x=>some (.bad x)
  | .ok _ s2=>some (.ok l s2)
end
structure Src where
 sel:Bs
 place:Nat
 params:Nat
 names:List Bs
 places:List Nat
 body:List Nd
def restP (ts:Ts) (f:Nat) (ps:Ts) (s:Ps):Option (Rs Src) :=
 qF (qv ts f s) fun tm s1=>qF (zg ts f 18 s1) fun l s2=>some (.ok ⟨[],0,ps.length,(ps++tm).map (·.1.text),(ps++tm).map (·.2),l⟩ s2)
def doitP (ts:Ts) (f:Nat) (s:Ps):Option (Rs Src):=restP ts f [] s
def methodP (ts:Ts) (f:Nat) (s:Ps):Option (Rs Src) :=
 qF (zt ts (fun _ s=>some (qS ts 1 s)) f s) fun x s1=>qF (restP ts f x.2 s1) fun t s2=>some (.ok { t with sel:=x.1,place:=(hdT ts s).2 } s2)
def readP (ts:Ts) (whole:Nat→Ps→Option (Rs Src)) (f:Nat):Option (Option Src × Nat × Nat):=match whole f ⟨0,0,0,0⟩ with
 | none=>none
 | some (.bad x)=>some (none,71,x.2)
 | some (.ok t s)=>if s.code=0 then some (some t,0,0) else some (none,s.code,s.place)
end Go.Proofs.YtfhkhmgodkheaaaGreatDoor
namespace Go.Proofs.YtfhkhmgodkheaaaGreatDoor
open Go.RowKit
def ba (l:Bs):ByteArray:=⟨l.toArray⟩
theorem qJ (l:Bs):lst (ba l)=l:=by simp [lst,ba]
theorem ba_lst (s:ByteArray):ba (lst s)=s:=by simp [lst,ba]
theorem lst_mid (s:ByteArray) (a b:Nat):lst (s.extract a b)=((lst s).drop a).take (b - a):=by
 unfold lst
 simp [ByteArray.data_extract,List.extract_eq_take_drop]
theorem ba_mid (s:ByteArray) (a b:Nat):ba (((lst s).drop a).take (b - a))=s.extract a b:=by rw [← lst_mid,ba_lst]
theorem ba_upto (s:ByteArray) (b:Nat):ba ((lst s).take b)=s.extract 0 b:=by
 have:=ba_mid s 0 b
 simpa using this
abbrev Q4:=Nat × Bs × Nat × Nat
def cv (x:Q4):Value:=.tuple #[.agg #[.int .i64 x.1,.string (ba x.2.1),.int .i64 x.2.2.1,.int .i64 0],.int .i64 x.2.2.2]
def zG (l:Bs):Q4:=match cut l with
 | none=>(0,[],0,0)
 | some (none,n)=>(0,[],0,n)
 | some (some t,n)=>(t.kind,t.text,t.num,n)
theorem ba_nil:ba []=⟨#[]⟩:=rfl
theorem indexByte_cmt (r:Bs):Lib.indexByte r 34=match cmt r with | none=>-1 | some n=>(n:Int) - 1:=by
 induction r with
 | nil=>rfl
 | cons c r ih =>
  unfold Lib.indexByte cmt
  by_cases h:c=34
  ·subst h; simp
  ·have h2:¬ c.toNat=34:=fun e=>h (UInt8.toNat_inj.1 e)
   rw [if_neg h2];simp [h];rw [ih]
   cases hc:cmt r with
   | none=>simp
   | some n=>have:=cmt_n _ _ hc; simp; omega
def jb (n:Nat):Nat:=if isB n=true then 1 else if n=34 then 2 else if n=35 then 5 else if n=39 then 7 else if markK n≠0 then 8 else if isL n=true then 3 else if isD n=true then 4 else if isO n=true then 6 else 0
theorem cutNothing_ok (s:ByteArray) (w:World):Calls Tryz.prog 41 #[.string s] w fun e w'=>e=.returned (cv (0,[],0,0))∧Bl w w':=by
 go_enter Tryz.func41,Tryz.ntmps41
 go_wp2
 refine bodyPost_ret (v:=cv (0,[],0,0)) (by simp [results,Tryz.results41,go_sem,cv,ba]) rfl ⟨rfl,Bl.alloc _ _⟩
theorem cutBlank_ok (s:ByteArray) (w:World):Calls Tryz.prog 42 #[.string s] w fun e w'=>e=.returned (cv (0,[],0,1))∧Bl w w':=by
 go_enter Tryz.func42,Tryz.ntmps42
 go_wp2
 refine bodyPost_ret (v:=cv (0,[],0,1)) (by simp [results,Tryz.results42,go_sem,cv,ba]) rfl ⟨rfl,Bl.alloc _ _⟩
theorem isObN_ok (n:Nat) (hn:n < 256) (w:World):Calls Tryz.prog 52 #[.int .u8 n] w fun e w'=>e=.returned (.bool (isO n))∧w'=w:=by
 have h:=isOb_ok (UInt8.ofNat n) w
 rw [UInt8.toNat_ofNat_of_lt' hn] at h
 exact h
theorem kindOf_32 (w:World):Calls Tryz.prog 30 #[.int .u8 32] w fun e w'=>e=.returned (.int .i64 1)∧w'=w:=by
 go_enter Tryz.func30,Tryz.ntmps30
 go_wp2
 go_ret
 exact ⟨rfl,rfl⟩
theorem kindOf_9 (w:World):Calls Tryz.prog 30 #[.int .u8 9] w fun e w'=>e=.returned (.int .i64 1)∧w'=w:=by
 go_enter Tryz.func30,Tryz.ntmps30
 go_wp2
 go_ret
 exact ⟨rfl,rfl⟩
theorem kindOf_10 (w:World):Calls Tryz.prog 30 #[.int .u8 10] w fun e w'=>e=.returned (.int .i64 1)∧w'=w:=by
 go_enter Tryz.func30,Tryz.ntmps30
 go_wp2
 go_ret
 exact ⟨rfl,rfl⟩
theorem kindOf_13 (w:World):Calls Tryz.prog 30 #[.int .u8 13] w fun e w'=>e=.returned (.int .i64 1)∧w'=w:=by
 go_enter Tryz.func30,Tryz.ntmps30
 go_wp2
 go_ret
 exact ⟨rfl,rfl⟩
theorem kindOf_34 (w:World):Calls Tryz.prog 30 #[.int .u8 34] w fun e w'=>e=.returned (.int .i64 2)∧w'=w:=by
 go_enter Tryz.func30,Tryz.ntmps30
 go_wp2
 go_ret
 exact ⟨rfl,rfl⟩
theorem kindOf_35 (w:World):Calls Tryz.prog 30 #[.int .u8 35] w fun e w'=>e=.returned (.int .i64 5)∧w'=w:=by
 go_enter Tryz.func30,Tryz.ntmps30
 go_wp2
 go_ret
 exact ⟨rfl,rfl⟩
theorem kindOf_39 (w:World):Calls Tryz.prog 30 #[.int .u8 39] w fun e w'=>e=.returned (.int .i64 7)∧w'=w:=by
 go_enter Tryz.func30,Tryz.ntmps30
 go_wp2
 go_ret
 exact ⟨rfl,rfl⟩
theorem kindOf_40 (w:World):Calls Tryz.prog 30 #[.int .u8 40] w fun e w'=>e=.returned (.int .i64 8)∧w'=w:=by
 go_enter Tryz.func30,Tryz.ntmps30
 go_wp2
 go_ret
 exact ⟨rfl,rfl⟩
theorem kindOf_41 (w:World):Calls Tryz.prog 30 #[.int .u8 41] w fun e w'=>e=.returned (.int .i64 8)∧w'=w:=by
 go_enter Tryz.func30,Tryz.ntmps30
 go_wp2
 go_ret
 exact ⟨rfl,rfl⟩
theorem kindOf_91 (w:World):Calls Tryz.prog 30 #[.int .u8 91] w fun e w'=>e=.returned (.int .i64 8)∧w'=w:=by
 go_enter Tryz.func30,Tryz.ntmps30
 go_wp2
 go_ret
 exact ⟨rfl,rfl⟩
theorem kindOf_93 (w:World):Calls Tryz.prog 30 #[.int .u8 93] w fun e w'=>e=.returned (.int .i64 8)∧w'=w:=by
 go_enter Tryz.func30,Tryz.ntmps30
 go_wp2
 go_ret
 exact ⟨rfl,rfl⟩
theorem kindOf_124 (w:World):Calls Tryz.prog 30 #[.int .u8 124] w fun e w'=>e=.returned (.int .i64 8)∧w'=w:=by
 go_enter Tryz.func30,Tryz.ntmps30
 go_wp2
 go_ret
 exact ⟨rfl,rfl⟩
theorem kindOf_58 (w:World):Calls Tryz.prog 30 #[.int .u8 58] w fun e w'=>e=.returned (.int .i64 8)∧w'=w:=by
 go_enter Tryz.func30,Tryz.ntmps30
 go_wp2
 go_ret
 exact ⟨rfl,rfl⟩
theorem kindOf_94 (w:World):Calls Tryz.prog 30 #[.int .u8 94] w fun e w'=>e=.returned (.int .i64 8)∧w'=w:=by
 go_enter Tryz.func30,Tryz.ntmps30
 go_wp2
 go_ret
 exact ⟨rfl,rfl⟩
theorem kindOf_46 (w:World):Calls Tryz.prog 30 #[.int .u8 46] w fun e w'=>e=.returned (.int .i64 8)∧w'=w:=by
 go_enter Tryz.func30,Tryz.ntmps30
 go_wp2
 go_ret
 exact ⟨rfl,rfl⟩
theorem kindOf_59 (w:World):Calls Tryz.prog 30 #[.int .u8 59] w fun e w'=>e=.returned (.int .i64 8)∧w'=w:=by
 go_enter Tryz.func30,Tryz.ntmps30
 go_wp2
 go_ret
 exact ⟨rfl,rfl⟩
theorem kindOf_L (n:Nat) (hn:n < 256) (w:World) (q32:¬ (n:Int)=32) (q9:¬ (n:Int)=9) (q10:¬ (n:Int)=10) (q13:¬ (n:Int)=13) (q34:¬ (n:Int)=34) (q35:¬ (n:Int)=35) (q39:¬ (n:Int)=39) (q40:¬ (n:Int)=40) (q41:¬ (n:Int)=41) (q91:¬ (n:Int)=91) (q93:¬ (n:Int)=93) (q124:¬ (n:Int)=124) (q58:¬ (n:Int)=58) (q94:¬ (n:Int)=94) (q46:¬ (n:Int)=46) (q59:¬ (n:Int)=59) (hL:isL n=true):Calls Tryz.prog 30 #[.int .u8 n] w fun e w'=>e=.returned (.int .i64 3)∧w'=w:=by
 go_enter Tryz.func30,Tryz.ntmps30
 go_wp2_with (first | (go_at_call 50; refine (jr n _).mono ?_; rintro e w' ⟨rfl,rfl⟩) | (go_at_call 51; refine (jg n _).mono ?_; rintro e w' ⟨rfl,rfl⟩) | (go_at_call 52; refine (isObN_ok n hn _).mono ?_; rintro e w' ⟨rfl,rfl⟩))
 go_ret
 exact ⟨rfl,rfl⟩
theorem kindOf_D (n:Nat) (hn:n < 256) (w:World) (q32:¬ (n:Int)=32) (q9:¬ (n:Int)=9) (q10:¬ (n:Int)=10) (q13:¬ (n:Int)=13) (q34:¬ (n:Int)=34) (q35:¬ (n:Int)=35) (q39:¬ (n:Int)=39) (q40:¬ (n:Int)=40) (q41:¬ (n:Int)=41) (q91:¬ (n:Int)=91) (q93:¬ (n:Int)=93) (q124:¬ (n:Int)=124) (q58:¬ (n:Int)=58) (q94:¬ (n:Int)=94) (q46:¬ (n:Int)=46) (q59:¬ (n:Int)=59) (hL:isL n=false) (hD:isD n=true):Calls Tryz.prog 30 #[.int .u8 n] w fun e w'=>e=.returned (.int .i64 4)∧w'=w:=by
 go_enter Tryz.func30,Tryz.ntmps30
 go_wp2_with (first | (go_at_call 50; refine (jr n _).mono ?_; rintro e w' ⟨rfl,rfl⟩) | (go_at_call 51; refine (jg n _).mono ?_; rintro e w' ⟨rfl,rfl⟩) | (go_at_call 52; refine (isObN_ok n hn _).mono ?_; rintro e w' ⟨rfl,rfl⟩))
 go_ret
 exact ⟨rfl,rfl⟩
theorem kindOf_O (n:Nat) (hn:n < 256) (w:World) (q32:¬ (n:Int)=32) (q9:¬ (n:Int)=9) (q10:¬ (n:Int)=10) (q13:¬ (n:Int)=13) (q34:¬ (n:Int)=34) (q35:¬ (n:Int)=35) (q39:¬ (n:Int)=39) (q40:¬ (n:Int)=40) (q41:¬ (n:Int)=41) (q91:¬ (n:Int)=91) (q93:¬ (n:Int)=93) (q124:¬ (n:Int)=124) (q58:¬ (n:Int)=58) (q94:¬ (n:Int)=94) (q46:¬ (n:Int)=46) (q59:¬ (n:Int)=59) (hL:isL n=false) (hD:isD n=false) (hO:isO n=true):Calls Tryz.prog 30 #[.int .u8 n] w fun e w'=>e=.returned (.int .i64 6)∧w'=w:=by
 go_enter Tryz.func30,Tryz.ntmps30
 go_wp2_with (first | (go_at_call 50; refine (jr n _).mono ?_; rintro e w' ⟨rfl,rfl⟩) | (go_at_call 51; refine (jg n _).mono ?_; rintro e w' ⟨rfl,rfl⟩) | (go_at_call 52; refine (isObN_ok n hn _).mono ?_; rintro e w' ⟨rfl,rfl⟩))
 go_ret
 exact ⟨rfl,rfl⟩
theorem kindOf_X (n:Nat) (hn:n < 256) (w:World) (q32:¬ (n:Int)=32) (q9:¬ (n:Int)=9) (q10:¬ (n:Int)=10) (q13:¬ (n:Int)=13) (q34:¬ (n:Int)=34) (q35:¬ (n:Int)=35) (q39:¬ (n:Int)=39) (q40:¬ (n:Int)=40) (q41:¬ (n:Int)=41) (q91:¬ (n:Int)=91) (q93:¬ (n:Int)=93) (q124:¬ (n:Int)=124) (q58:¬ (n:Int)=58) (q94:¬ (n:Int)=94) (q46:¬ (n:Int)=46) (q59:¬ (n:Int)=59) (hL:isL n=false) (hD:isD n=false) (hO:isO n=false):Calls Tryz.prog 30 #[.int .u8 n] w fun e w'=>e=.returned (.int .i64 0)∧w'=w:=by
 go_enter Tryz.func30,Tryz.ntmps30
 go_wp2_with (first | (go_at_call 50; refine (jr n _).mono ?_; rintro e w' ⟨rfl,rfl⟩) | (go_at_call 51; refine (jg n _).mono ?_; rintro e w' ⟨rfl,rfl⟩) | (go_at_call 52; refine (isObN_ok n hn _).mono ?_; rintro e w' ⟨rfl,rfl⟩))
 go_ret
 exact ⟨rfl,rfl⟩
theorem kindOf_ok (n:Nat) (hn:n < 256) (w:World):Calls Tryz.prog 30 #[.int .u8 n] w fun e w'=>e=.returned (.int .i64 (jb n))∧w'=w:=by
 by_cases h32:n=32
 ·subst h32; exact kindOf_32 w
 by_cases h9:n=9
 ·subst h9; exact kindOf_9 w
 by_cases h10:n=10
 ·subst h10; exact kindOf_10 w
 by_cases h13:n=13
 ·subst h13; exact kindOf_13 w
 by_cases h34:n=34
 ·subst h34; exact kindOf_34 w
 by_cases h35:n=35
 ·subst h35; exact kindOf_35 w
 by_cases h39:n=39
 ·subst h39; exact kindOf_39 w
 by_cases h40:n=40
 ·subst h40; exact kindOf_40 w
 by_cases h41:n=41
 ·subst h41; exact kindOf_41 w
 by_cases h91:n=91
 ·subst h91; exact kindOf_91 w
 by_cases h93:n=93
 ·subst h93; exact kindOf_93 w
 by_cases h124:n=124
 ·subst h124; exact kindOf_124 w
 by_cases h58:n=58
 ·subst h58; exact kindOf_58 w
 by_cases h94:n=94
 ·subst h94; exact kindOf_94 w
 by_cases h46:n=46
 ·subst h46; exact kindOf_46 w
 by_cases h59:n=59
 ·subst h59; exact kindOf_59 w
 have hb:¬ isB n=true:=fun h=>by rw [isB_iff] at h; omega
 have hm:¬ markK n≠0:=fun h=>by
  unfold markK at h;simp [h40,h41,h91,h93,h124,h58,h94,h46,h59] at h
 have e:jb n=if isL n=true then 3 else if isD n=true then 4 else if isO n=true then 6 else 0:=by
  unfold jb;rw [if_neg hb,if_neg h34,if_neg h35,if_neg h39,if_neg hm]
 have Z:∀ v:Nat,¬ n=v→¬ (n:Int)=(v:Int):=fun v h h2=>h (Int.ofNat_inj.1 h2)
 rw [e]
 by_cases cL:isL n=true
 ·rw [if_pos cL]; exact kindOf_L n hn w (Z 32 h32) (Z 9 h9) (Z 10 h10) (Z 13 h13) (Z 34 h34) (Z 35 h35) (Z 39 h39) (Z 40 h40) (Z 41 h41) (Z 91 h91) (Z 93 h93) (Z 124 h124) (Z 58 h58) (Z 94 h94) (Z 46 h46) (Z 59 h59) cL
 ·rw [if_neg cL]
  have cL':isL n=false:=by simpa using cL
  by_cases cD:isD n=true
  ·rw [if_pos cD]; exact kindOf_D n hn w (Z 32 h32) (Z 9 h9) (Z 10 h10) (Z 13 h13) (Z 34 h34) (Z 35 h35) (Z 39 h39) (Z 40 h40) (Z 41 h41) (Z 91 h91) (Z 93 h93) (Z 124 h124) (Z 58 h58) (Z 94 h94) (Z 46 h46) (Z 59 h59) cL' cD
  ·rw [if_neg cD]
   have cD':isD n=false:=by simpa using cD
   by_cases cO:isO n=true
   ·rw [if_pos cO]; exact kindOf_O n hn w (Z 32 h32) (Z 9 h9) (Z 10 h10) (Z 13 h13) (Z 34 h34) (Z 35 h35) (Z 39 h39) (Z 40 h40) (Z 41 h41) (Z 91 h91) (Z 93 h93) (Z 124 h124) (Z 58 h58) (Z 94 h94) (Z 46 h46) (Z 59 h59) cL' cD' cO
   ·rw [if_neg cO]; exact kindOf_X n hn w (Z 32 h32) (Z 9 h9) (Z 10 h10) (Z 13 h13) (Z 34 h34) (Z 35 h35) (Z 39 h39) (Z 40 h40) (Z 41 h41) (Z 91 h91) (Z 93 h93) (Z 124 h124) (Z 58 h58) (Z 94 h94) (Z 46 h46) (Z 59 h59) cL' cD' (by simpa using cO)
theorem cutQ_cmt {l:Bs} (h:hd l=34):zG l=match cmt (l.drop 1) with | none=>(0,[],0,0) | some n=>(0,[],0,n+1):=by
 cases l with
 | nil=>simp [hd] at h
 | cons c r =>
  have h':c.toNat=34:=h;have e:(c :: r).drop 1=r:=rfl;unfold zG cut;rw [e];simp only [h',show isB 34=false from rfl]
  cases cmt r <;> simp
theorem cutQ_word {l:Bs} (h:isL (hd l)=true):zG l=if qT l=0 then (1,l.take (qw l),0,qw l) else (2,l.take (qw l),0,qT l):=by
 have hp:=nameLen_pos h
 cases l with
 | nil=>simp [hd,isL] at h
 | cons c r =>
  have h':isL c.toNat=true:=h;have hb:isB c.toNat=false:=by rw [Bool.eq_false_iff]; intro h2; rw [isB_iff] at h2; rw [isL_iff] at h'; omega
  have hq:¬ c.toNat=34:=by intro h2; rw [isL_iff] at h'; omega
  by_cases hc:zL ((c :: r).drop (qw (c :: r)))=true
  ·have hk:qT (c :: r)=qw (c :: r)+1:=by unfold qT; rw [if_pos ⟨by omega,hc⟩]
   rw [hk,if_neg (by omega)]
   unfold zG cut;simp only [hb,hq,h',hc,if_true,if_false,Bool.false_eq_true]
  ·have hk:qT (c :: r)=0:=by unfold qT; rw [if_neg (fun h2=>hc h2.2)]
   rw [hk,if_pos rfl];unfold zG cut;simp only [hb,hq,h',hc,if_true,if_false,Bool.false_eq_true]
theorem cutQ_op {l:Bs} (h:isO (hd l)=true):zG l=(3,l.take (zE l),0,zE l):=by
 cases l with
 | nil=>simp [hd,isO] at h
 | cons c r =>
  have h':isO c.toNat=true:=h;rw [isO_iff] at h';have hb:isB c.toNat=false:=by rw [Bool.eq_false_iff]; intro h2; rw [isB_iff] at h2; omega
  have hL:isL c.toNat=false:=by rw [Bool.eq_false_iff]; intro h2; rw [isL_iff] at h2; omega
  have hD:isD c.toNat=false:=by rw [Bool.eq_false_iff]; intro h2; rw [isD_iff] at h2; omega
  have hq:¬ c.toNat=34:=by omega
  have hh:¬ c.toNat=35:=by omega
  unfold zG cut;simp only [hb,hq,hL,hD,hh,if_false,Bool.false_eq_true];rw [if_pos (show isO c.toNat=true from h)]
theorem cutQ_hash {l:Bs} (h:hd l=35):zG l=if zr (l.drop 1)=0 then (if hd (l.drop 1)=40 then (7,[],0,2) else (0,[],0,0)) else (5,(l.drop 1).take (zr (l.drop 1)),0,zr (l.drop 1)+1):=by
 cases l with
 | nil=>simp [hd] at h
 | cons c r =>
  have h':c.toNat=35:=h;have e:(c :: r).drop 1=r:=rfl;unfold zG cut;rw [e];simp only [h',show isB 35=false from rfl,show isL 35=false from rfl,show isD 35=false from rfl,if_false,Bool.false_eq_true]
  by_cases hs:zr r=0
  ·simp only [hs,if_true]
   by_cases h40:hd r=40
   ·simp [h40,mk]
   ·simp [h40]
  ·simp [hs]
theorem cutQ_mark {l:Bs} (h:jb (hd l)=8):zG l=if hd l=58∧hd (l.drop 1)=61 then (14,[],0,2) else (markK (hd l),[],0,1):=by
 cases l with
 | nil=>simp [hd,jb,markK,isB,isL,isD,isO] at h
 | cons c r =>
  have e:(c :: r).drop 1=r:=rfl;have e0:hd (c :: r)=c.toNat:=rfl;have key:c.toNat=40∨c.toNat=41∨c.toNat=91∨c.toNat=93∨c.toNat=124∨c.toNat=58∨c.toNat=94∨c.toNat=46∨c.toNat=59:=by
   have K:∀ n,n < 256→jb n=8→n=40∨n=41∨n=91∨n=93∨n=124∨n=58∨n=94∨n=46∨n=59:=by decide +kernel
   exact K c.toNat c.toNat_lt h
  unfold zG cut;rw [e,e0]
  rcases key with k | k | k | k | k | k | k | k | k <;> simp only [k,isB,isL,isD,isO,markK,mk] <;> by_cases h61:hd r=61 <;> simp [h61]
theorem cutQ_blank {l:Bs} (h:isB (hd l)=true):zG l=(0,[],0,1):=by
 cases l with
 | nil=>simp [hd,isB] at h
 | cons c r =>
  have h':isB c.toNat=true:=h;unfold zG cut;simp only [h',if_true]
theorem cutQ_other {l:Bs} (h:jb (hd l)=0):zG l=(0,[],0,0):=by
 cases l with
 | nil=>rfl
 | cons c r =>
  have K:∀ n,n < 256→jb n=0→isB n=false∧n≠34∧isL n=false∧isD n=false∧n≠35∧isO n=false∧n≠39∧n≠58∧markK n=0:=by decide +kernel
  obtain ⟨k1,k2,k3,k4,k5,k6,k7,k8,k9⟩:=K c.toNat c.toNat_lt h;unfold zG cut;simp [k1,k2,k3,k4,k5,k6,k7,k8,k9]
theorem qf {w:World} {b:Nat} {o:Obj} (h:w.heap[b]?=some o):b < w.heap.size:=(Array.getElem?_eq_some_iff.1 h).1
theorem qh {w:World} {b:Nat} {A:Array Value} {t:TypeId} {f:Nat × Nat} (h:w.heap[b]?=some (.cells A t f)) {i:Nat}:w.cell? ⟨b,i,none⟩=A[i]?:=by
 simp [World.cell?,h]
theorem qK {w:World} {b:Nat} {A:Array Value} {t:TypeId} (h:w.heap[b]?=some (.cells A t (0,0))) (i:Nat):w.frozen? ⟨b,i,none⟩=false:=by
 simp [World.frozen?,h]
theorem zc {w:World} {b:Nat} {A:Array Value} {t:TypeId} {f:Nat × Nat} (h:w.heap[b]?=some (.cells A t f)) (i:Nat) (v:Value):(w.setCell ⟨b,i,none⟩ v).heap[b]?=some (.cells (A.setIfInBounds i v) t f):=by
 simp [World.setCell,Array.getElem?_modify,h]
def z4:Obj:=.cells #[.int .i64 0,.string ⟨#[]⟩,.int .i64 0,.int .i64 0] 54 (0,0)
theorem res_in {w W:World} (h:Bl (w.alloc (.cells #[.int .i64 0,.string ⟨#[]⟩,.int .i64 0,.int .i64 0] 54)) W):W.heap[w.heap.size]?=some z4∧Bl w W∧w.heap.size < W.heap.size:=by
 have e:W.heap[w.heap.size]?=some z4:=by
  rw [h.block w.heap.size (by simp)]
  exact heap_alloc_new w _
 exact ⟨e,(Bl.alloc w _).trans h,qf e⟩
theorem resF {W:World} {B:Nat} (h:W.heap[B]?=some z4) :
  W.cell? ⟨B,0,none⟩=some (.int .i64 0)∧W.cell? ⟨B,1,none⟩=some (.string ⟨#[]⟩)∧W.cell? ⟨B,2,none⟩=some (.int .i64 0)∧W.cell? ⟨B,3,none⟩=some (.int .i64 0) ∧
  W.frozen? ⟨B,0,none⟩=false∧W.frozen? ⟨B,1,none⟩=false∧W.frozen? ⟨B,2,none⟩=false∧W.frozen? ⟨B,3,none⟩=false :=
 ⟨by rw [qh h]; rfl,by rw [qh h]; rfl,by rw [qh h]; rfl,by rw [qh h]; rfl,qK h 0,qK h 1,qK h 2,qK h 3⟩
theorem jy {w W:World} (h:Bl w W) {B:Nat} (hB:w.heap.size≤B) (i:Nat) (v:Value):Bl w (W.setCell ⟨B,i,none⟩ v) :=
 Below.trans h ⟨rfl,rfl,rfl,by simp,fun k hk=>Below.heap_setCell _ _ _ _ (by show k≠B; omega)⟩
theorem ret4 {f:Func} {W w:World} {B:Nat} {tm:Array Value} (x:Q4) {v0 v1 v2 v3:Value} (hres:f.results=#[.cell 2 54,.tmp 3]) (hr:W.heap[B]?=some z4) (hb:Bl w W) (hB:w.heap.size≤B)
  (h2:tm.getD 2 undef=.pointer (some ⟨B,0,none⟩)) (h3:tm.getD 3 undef=.int .i64 x.2.2.2) (e0:v0=.int .i64 x.1) (e1:v1=.string (ba x.2.1)) (e2:v2=.int .i64 x.2.2.1) (e3:v3=.int .i64 0) :
  bodyPost Tryz.prog f (fun e w'=>e=.returned (cv x)∧Bl w w') .ret ⟨tm,[]⟩ ((((W.setCell ⟨B,0,none⟩ v0).setCell ⟨B,1,none⟩ v1).setCell ⟨B,2,none⟩ v2).setCell ⟨B,3,none⟩ v3):=by
 subst e0 e1 e2 e3
 obtain ⟨V,hV⟩:∃ V,V=((((W.setCell ⟨B,0,none⟩ (.int .i64 x.1)).setCell ⟨B,1,none⟩ (.string (ba x.2.1))).setCell ⟨B,2,none⟩ (.int .i64 x.2.2.1)).setCell ⟨B,3,none⟩ (.int .i64 0)):=⟨_,rfl⟩
 have hVb:V.heap[B]?=some (.cells #[.int .i64 x.1,.string (ba x.2.1),.int .i64 x.2.2.1,.int .i64 0] 54 (0,0)):=by
  rw [hV,zc (zc (zc (zc hr 0 _) 1 _) 2 _) 3 _];rfl
 have hVl:Bl w V:=by rw [hV]; exact jy (jy (jy (jy hb hB 0 _) hB 1 _) hB 2 _) hB 3 _
 rw [← hV]
 clear hV
 have x0:V.cell? ⟨B,0,none⟩=some (.int .i64 x.1):=by rw [qh hVb]; rfl
 have x1:V.cell? ⟨B,1,none⟩=some (.string (ba x.2.1)):=by rw [qh hVb]; rfl
 have x2:V.cell? ⟨B,2,none⟩=some (.int .i64 x.2.2.1):=by rw [qh hVb]; rfl
 have x3:V.cell? ⟨B,3,none⟩=some (.int .i64 0):=by rw [qh hVb]; rfl
 have h2':tm[2]?.getD undef=.pointer (some ⟨B,0,none⟩):=by simpa using h2
 have h3':tm[3]?.getD undef=.int .i64 x.2.2.2:=by simpa using h3
 refine bodyPost_ret (v:=cv x) (by simp [results,hres,go_sem,h2,h3,h2',h3',x0,x1,x2,x3,cv]) rfl ⟨rfl,hVl⟩
end Go.Proofs.YtfhkhmgodkheaaaGreatDoor
