import Derived.Test.YtfhkhmgodkheaaaGreatDoorQCG30TEx
import Derived.RangeFuncNested
import Derived.RangeFuncBound
import Derived.RangeFuncCalls
import Derived.RangeFuncLeaves
import Derived.Shelf.Abstract
import Derived.Shelf.RegionOpen
import Derived.WalkKit
import Derived.OwnWalkIn
import Derived.TacticsInMore
import Derived.LoopNIn
import Derived.LoopIn
import Derived.Shelf.Strings.Search2
set_option linter.unusedSimpArgs false
set_option linter.unusedVariables false
set_option maxRecDepth 1000000
set_option maxHeartbeats 16000000
namespace Go.Proofs.YtfhkhmgodkheaaaGreatDoor
open Go.RowKit Go.Shelf
theorem fr_put (W:World) (l:Nat) (o:Obj):Fr [l] W (W.putObj l o):=⟨rfl,rfl,rfl,by simp,fun k hk hn=>World.putObj_heap_other (by simpa using hn)⟩
def Kn (B:Nat) (W W':World):Prop:=∀ b o,B≤b→W.heap[b]?=some o→o.isCells=false→W'.heap[b]?=some o
def Stays {β:Type} (B sB:Nat) (I:β→World→Prop):Prop:=∀ s A C b,I s A→Fr [b] A C→((b=sB∧∃ x:Value,C.heap[sB]?=some (.cells #[x] 9 (0,0)))∨B≤b∧∃ o:Obj,A.heap[b]?=some o∧o.isCells=false)→I s C
def SeqB {α:Type} (n:Nat) (P:Program) (gf:Nat) (lb:Array Value) (encs:α→Array Value) (sB:Nat) (Kp:World→World→Prop) (L:List α) (w:World):Prop :=
 ∀ (l:Nat) (J Jx:List α→World→Prop) (W:World),Bl w W→(∀ s A C,J s A→Fr [sB] A C→(∃ x:Value,C.heap[sB]?=some (.cells #[x] 9 (0,0)))→J s C)→(∀ s A C,Jx s A→Fr [sB] A C→(∃ x:Value,C.heap[sB]?=some (.cells #[x] 9 (0,0)))→Jx s C) →
  (∀ pre x W1,J pre W1→(pre++[x]) <+: L→YieldAt Fence.wide (n - 1) P l (encs x) W1 fun e W'=>(e=.returned (.bool true)∧J (pre++[x]) W'∧Kp W1 W')∨(e=.returned (.bool false)∧Jx (pre++[x]) W')) →
  J [] W→CallsIn Fence.wide n P gf (#[.func (.yield l) #[] #[]]++lb) W fun e W'=>(∃ v,e=.returned v)∧(J L W'∨∃ pre,Jx pre W')
def LeftB {α:Type} (B:Nat) (Kp:World→World→Prop) (I Ix:List α→World→Prop) (xs:List α) (W:World):Exit→Act→World→Prop
 | .normal,_,W'=>Kn B W W'∧Kp W W'∧I xs W'
 | .ret,_,W'=>Kn B W W'∧Ix xs W'
 | _,_,_=>False
theorem range_box {α:Type} {n:Nat} {P:Program} {g:Operand} {ps:Array Tmp} {assign body:Code} {Q:Exit→Act→World→Prop} {a:Act} {w:World} (h1:1≤n) {gf:Nat} {lb:Array Value} (hg:a.eval g=.func (.func gf) #[] lb) (eg:Enters P gf)
  {encs:α→Array Value} {sB:Nat} {Kp:World→World→Prop} {L:List α} (hseq:SeqB (n - 1) P gf lb encs sB Kp L w) (hsB:sB < w.heap.size) (hKt:∀ A B C,Kp A B→Kp B C→Kp A C) (hKb:∀ A l o,w.heap.size≤l→Kp A (A.putObj l o)) (hps:∀ x,(encs x).size=ps.size)
  (I Ix:List α→World→Prop) (hI:Stays w.heap.size sB I) (hIx:Stays w.heap.size sB Ix) (h0:∀ W,Bl w W→I [] W) (a1:α→Act)
  (hassign:∀ (l:Nat) (x:α) (W:World) (K:Act→World→Prop),K (a1 x) W→assign.wpIn (Fence.wide.inRound l) (n - 1 - 1) P (Exit.then K (fun _ _ _=>False)) { tmps:=(ps.zip (encs x)).foldl (fun t (p,v)=>t.setIfInBounds p v) a.tmps,defers:=[] } W)
  (hbody:∀ (l:Nat) (pre:List α) (x:α) (W:World),I pre W→(pre++[x]) <+: L→body.wpIn (Fence.wide.inRound l) (n - 1 - 1) P (LeftB w.heap.size Kp I Ix (pre++[x]) W) (a1 x) W)
  (hdone:∀ (D:Nat) (W:World),w.heap.size≤D→I L W→W.heap[D]?=some (.deferred (some []))→Q .normal { a with defers:={ target:=.collected D,args:=#[] } :: a.defers } W)
  (hstop:∀ (D:Nat) (pre:List α) (W:World),w.heap.size≤D→Ix pre W→W.heap[D]?=some (.deferred (some []))→Code.ret.wpIn Fence.wide n P Q { a with defers:={ target:=.collected D,args:=#[] } :: a.defers } W) :
  (Code.rangeFunc g ps assign body).wpIn Fence.wide n P Q a w:=by
 refine wpIn_rangeFunc fun fn hfn=>?_
 obtain ⟨d,hd⟩:∃ d,w.heap.size=d:=⟨_,rfl⟩
 obtain ⟨lp,hlp⟩:∃ lp:LoopState→Option Code→Loop,lp=fun st pe=>{ state:=st,pending:=pe,fn:=fn,tmps:=a.tmps,params:=ps,assign:=assign,body:=body,defers:=d }:=⟨_,rfl⟩
 have ent:=run_enterLoop_outer (P:=P) (w:=w) fn a.tmps ps assign body
 rw [hd] at ent
 obtain ⟨V,hV⟩:∃ V,(w.alloc (.deferred (some []))).alloc (.loop (lp .ready none))=V:=⟨_,rfl⟩
 have entV:(Instr.enterLoop fn a.tmps ps assign body none).run P w=.ok (d+1,[{ target:=.collected d,args:=#[] }]) V:=by rw [ent,← hV,hlp]
 have bV:Bl w V:=hV▸(Bl.alloc _ _).trans (Bl.alloc _ _)
 have recV:V.heap[d+1]?=some (.loop (lp .ready none)):=by
  have:=heap_alloc_new (w.alloc (.deferred (some []))) (.loop (lp .ready none));rw [World.size_alloc,hd,hV] at this;exact this
 have defV:V.heap[d]?=some (.deferred (some [])):=by
  rw [← hV,Below.heap_alloc _ _ _ (by rw [World.size_alloc]; omega),← hd]
  exact heap_alloc_new w _
 rw [hd] at hsB hKb hI hIx hbody hdone hstop
 refine ⟨d+1,_,V,{ target:=.fn (.func gf) lb,args:=#[.func (.yield (d+1)) #[] #[]] },V,gf,#[.func (.yield (d+1)) #[] #[]]++lb,V,entV,by simp only [resolve,hg]; simp [go_sem],fun _ _=>trivial,by have:=eg; unfold Enters at this; simp [invoke,go_sem,this],fun _=>h1,?_⟩
 refine (hseq (d+1) (fun pre W=>I pre W∧W.heap[d+1]?=some (.loop (lp .ready none))∧W.heap[d]?=some (.deferred (some [])))
  (fun pre W=>Ix pre W∧W.heap[d+1]?=some (.loop (lp .done (some .ret)))∧W.heap[d]?=some (.deferred (some []))) V bV
  (fun s A C h f hx=>⟨hI s A C sB h.1 f (Or.inl ⟨rfl,hx⟩),(f.block _ (qf h.2.1) (by simp; omega)).trans h.2.1,(f.block _ (qf h.2.2) (by simp; omega)).trans h.2.2⟩)
  (fun s A C h f hx=>⟨hIx s A C sB h.1 f (Or.inl ⟨rfl,hx⟩),(f.block _ (qf h.2.1) (by simp; omega)).trans h.2.1,(f.block _ (qf h.2.2) (by simp; omega)).trans h.2.2⟩)
  ?_ ⟨h0 V bV,recV,defV⟩).mono ?_
 ·rintro pre x W ⟨hi,hl,hk⟩ hpre
  have hy:=run_yield (P:=P) (args:=encs x) hl (by rw [hlp]; exact hps x)
  rw [hlp] at hy;refine ⟨fn,_,assign,body,hy,roundIn_of_wpIn hfn (hassign (d+1) x W _ ⟨_,run_beginRound hl (by rw [hlp]),?_⟩)⟩
  obtain ⟨U,hU⟩:∃ U,W.putObj (d+1) (.loop { lp .ready none with state:=.busy })=U:=⟨_,rfl⟩
  have fU:Fr [d+1] W U:=hU▸fr_put _ _ _;have lU:U.heap[d+1]?=some (.loop { lp .ready none with state:=.busy }):=hU▸World.putObj_heap_same (qf hl)
  have kU:U.heap[d]?=some (.deferred (some [])):=(fU.block _ (qf hk) (by simp)).trans hk
  have pU:Kp W U:=hU▸hKb W _ _ (by omega)
  rw [hU];refine wpIn_mono (hbody (d+1) pre x U (hI _ _ _ _ hi fU (Or.inr ⟨by omega,_,hl,rfl⟩)) hpre) ?_
  intro e a3 W3 hp;have fin:∀ jump:Option Code,Kn d U W3→∃ X,(Instr.endRound (d+1) jump).run P W3=.ok (.bool jump.isNone) X∧Fr [d+1] W3 X∧W3.heap[d+1]?=some (.loop { lp .ready none with state:=.busy })∧X=W3.putObj (d+1) (.loop (lp (if jump.isNone then .ready else .done) jump))∧X.heap[d+1]?=some (.loop (lp (if jump.isNone then .ready else .done) jump))∧X.heap[d]?=some (.deferred (some [])):=fun jump kn=>by
   have l3:=kn _ _ (by omega) lU rfl
   have k3:=kn _ _ (Nat.le_refl _) kU rfl;have er:=run_endRound (P:=P) jump l3;rw [hlp] at er;refine ⟨_,?_,fr_put _ _ _,l3,rfl,World.putObj_heap_same (qf l3),(World.putObj_heap_other (by omega)).trans k3⟩
   rw [hlp];exact er
  cases e with
  | normal =>
   obtain ⟨kn,kp,hi3⟩:=hp;obtain ⟨X,er,fX,l3,eX,lX,kX⟩:=fin none kn;exact ⟨_,X,er,Or.inl ⟨rfl,⟨hI _ _ _ _ hi3 fX (Or.inr ⟨by omega,_,l3,rfl⟩),lX,kX⟩,hKt _ _ _ (hKt _ _ _ pU kp) (eX▸hKb _ _ _ (by omega))⟩⟩
  | ret =>
   obtain ⟨kn,hi3⟩:=hp;obtain ⟨X,er,fX,l3,eX,lX,kX⟩:=fin (some .ret) kn;exact ⟨_,X,er,Or.inr ⟨rfl,hIx _ _ _ _ hi3 fX (Or.inr ⟨by omega,_,l3,rfl⟩),lX,kX⟩⟩
  | exit id=>exact hp.elim
  | goto t=>exact hp.elim
  | panic ch=>exact hp.elim
  | outgrown=>exact hp.elim
 ·rintro e W2 ⟨⟨v,rfl⟩,(⟨hi,hl,hk⟩ | ⟨pre,hi,hl,hk⟩)⟩
  ·refine ⟨none,_,by have:=run_endLoop (P:=P) hl (by rw [hlp]; simp); rw [hlp] at this; exact this,?_⟩
   exact hdone d _ (Nat.le_refl _) (hI _ _ _ _ hi (fr_put _ _ _) (Or.inr ⟨by omega,_,hl,rfl⟩)) ((World.putObj_heap_other (by omega)).trans hk)
  ·refine ⟨some .ret,_,by have:=run_endLoop (P:=P) hl (by rw [hlp]; simp); rw [hlp] at this; exact this,?_⟩
   exact hstop d pre _ (Nat.le_refl _) (hIx _ _ _ _ hi (fr_put _ _ _) (Or.inr ⟨by omega,_,hl,rfl⟩)) ((World.putObj_heap_other (by omega)).trans hk)
end Go.Proofs.YtfhkhmgodkheaaaGreatDoor
namespace Go.Proofs.YtfhkhmgodkheaaaGreatDoor
open Go.RowKit Go.Shelf
attribute [local go_sem] Oper.semAt_some
theorem index_lite (s:ByteArray) (w:World):Calls Tryz.prog 142 #[.string s,.string ⟨#[58]⟩] w fun e w'=>e=.returned (.int .i64 (Lib.indexByte s.data.toList 58))∧w'=w:=Any.stringslite_Index_one { Tryz.lays155 with } s 58 w
theorem index_one (s:ByteArray) (w:World):Calls Tryz.prog 121 #[.string s,.string ⟨#[58]⟩] w fun e w'=>e=.returned (.int .i64 (Lib.indexByte s.data.toList 58))∧w'=w:=by
 have H:=qd (index_lite s w)
 go_enter Tryz.func121,Tryz.ntmps121
 go_wp2_with (go_at_call 142; refine H.out.mono ?_; rintro e w1 ⟨rfl,h⟩; have h3:=h.symm; subst h3)
 go_ret
 exact ⟨rfl,rfl⟩
theorem parts_at:∀ (l:Bs),(Lib.indexByte l 58=-1∧zo l=[l])∨∃ k:Nat,Lib.indexByte l 58=k∧k < l.length∧zo l=l.take k :: zo (l.drop (k+1)):=by
 intro l
 induction l with
 | nil=>exact Or.inl ⟨rfl,rfl⟩
 | cons c r ih =>
  unfold Lib.indexByte
  by_cases hc:c=58
  ·subst hc
   refine Or.inr ⟨0,by simp,by simp,?_⟩
   simp [zo]
  ·have hb:(c == 58)=false:=by simpa using hc
   rw [hb]
   rcases ih with ⟨h1,h2⟩ | ⟨k,h1,h2,h3⟩
   ·refine Or.inl ⟨by rw [h1]; rfl,?_⟩
    rw [zo,if_neg hc,h2]
   ·refine Or.inr ⟨k+1,?_,by simp; omega,?_⟩
    ·rw [h1]
     have:((k:Int) == -1)=false:=by rw [beq_eq_false_iff_ne]; omega
     rw [this];simp
    ·rw [zo,if_neg hc,h3]
     simp
theorem ba_data (l:Bs):(ba l).data.toList=l:=by simp [ba]
theorem ba_ext (l:Bs) (a b:Nat):(ba l).extract a b=ba ((l.drop a).take (b - a)):=by
 have:=ba_mid (ba l) a b
 rw [qJ] at this
 exact this.symm
structure Bxs (eB sB vB:Nat) (t:Bs) (W:World):Prop where
 e:W.heap[eB]?=some (.cells #[.string ⟨#[58]⟩] 9 (0,0))
 s:W.heap[sB]?=some (.cells #[.string (ba t)] 9 (0,0))
 v:W.heap[vB]?=some (.cells #[.int .i64 0] 3 (0,0))
def Kb (eB sB vB:Nat) (A C:World):Prop:=C.heap[eB]?=A.heap[eB]?∧C.heap[sB]?=A.heap[sB]?∧C.heap[vB]?=A.heap[vB]?
theorem Bxs.kb {eB sB vB:Nat} {t:Bs} {A C:World} (h:Bxs eB sB vB t A) (k:Kb eB sB vB A C):Bxs eB sB vB t C:=⟨k.1.trans h.e,k.2.1.trans h.s,k.2.2.trans h.v⟩
def leftIn (sB:Nat) (W:World):Nat:=match W.cell? ⟨sB,0,none⟩ with | some (.string s)=>s.size | _=>0
theorem split1_in (n:Nat) (hn:1≤n) (lp eB sB vB:Nat) (h1:eB≠sB) (h2:vB≠sB) (t:Bs) (ht:t.length≤268435456) (J Jx:List Bs→World→Prop)
  (hJ:∀ s A C,J s A→Fr [sB] A C→(∃ x:Value,C.heap[sB]?=some (.cells #[x] 9 (0,0)))→J s C)
  (hY:∀ pre x W1,J pre W1→(pre++[x]) <+: zo t→YieldAt Fence.wide (n - 1) Tryz.prog lp #[.string (ba x)] W1 fun e W'=>(e=.returned (.bool true)∧J (pre++[x]) W'∧Kb eB sB vB W1 W')∨(e=.returned (.bool false)∧Jx (pre++[x]) W'))
  (W:World) (h:Bxs eB sB vB t W) (h0:J [] W) :
  CallsIn Fence.wide n Tryz.prog 119 #[.func (.yield lp) #[] #[],.pointer (some ⟨eB,0,none⟩),.pointer (some ⟨sB,0,none⟩),.pointer (some ⟨vB,0,none⟩)] W fun e W'=>(∃ v,e=.returned v)∧(J (zo t) W'∨∃ pre,Jx pre W'):=by
 have HX:=qd h
 have c0:W.cell? ⟨eB,0,none⟩=some (.string ⟨#[58]⟩):=by rw [qh h.e]; rfl
 clear h
 refine callsIn_of_wp Tryz.func119 rfl trivial ?_ rfl
 simp only [Tryz.ntmps119,List.size_toArray,List.length_cons,List.length_nil,Nat.reduceAdd,Nat.reduceSub,Array.replicate_succ,Array.replicate_zero,List.push_toArray,List.append_toArray,List.nil_append,List.cons_append]
 gi_wp2
 gi_loopw [7] (fun _ wr=>∃ pre rest,Hid (pre++zo rest=zo t)∧Hid (rest.length≤t.length)∧J pre wr∧Hid (Bxs eB sB vB rest wr)) (fun _ wr=>leftIn sB wr)
 case atStart=>exact ⟨[],t,rfl,Nat.le_refl _,h0,HX⟩
 case round =>
  obtain ⟨pre,rest,hP,hL,hj,hB⟩:=hrel;have e0:wr.cell? ⟨eB,0,none⟩=some (.string ⟨#[58]⟩):=by rw [qh hB.out.e]; rfl
  have e1:wr.cell? ⟨sB,0,none⟩=some (.string (ba rest)):=by rw [qh hB.out.s]; rfl
  have e2:wr.cell? ⟨vB,0,none⟩=some (.int .i64 0):=by rw [qh hB.out.v]; rfl
  have HI:=qd (index_one (ba rest) wr);rw [ba_data] at HI;have hsz:(ba rest).size=rest.length:=by rw [← qo,qJ]
  rcases parts_at rest with ⟨q1,q2⟩ | ⟨k,q1,q2,q3⟩
  ·rw [q1] at HI
   have hlast:Hid (pre++[rest]=zo t):=qd (by rw [← hP.out,q2])
   obtain ⟨fn,tmps,assign,body,hy,hR⟩:=hY pre rest wr hj (by rw [hlast.out]; exact List.prefix_rfl)
   clear q1 q2 hP hsz c0 hB
   gi_wp2
   refine ⟨trivial,?_⟩;refine (callsIn_wide.2 HI.out).mono ?_;rintro e W5 ⟨rfl,hw5⟩;have hw6:=hw5.symm;subst hw6;clear hw5
   gi_wp2
   refine hR.mono ?_;clear hy hR;rintro e W6 (⟨rfl,hJ6,hk6⟩ | ⟨rfl,hJx6⟩)
   ·gi_wp2
    go_end0
    exact ⟨⟨_,rfl⟩,.inl (by rw [← hlast.out]; exact hJ6)⟩
   ·gi_wp2
    go_end0
    exact ⟨⟨_,rfl⟩,.inr ⟨_,hJx6⟩⟩
  ·rw [q1] at HI
   have hnext:Hid ((pre++[rest.take k])++zo (rest.drop (k+1))=zo t):=qd (by rw [← hP.out,q3]; simp)
   obtain ⟨fn,tmps,assign,body,hy,hR⟩:=hY pre (rest.take k) wr hj ⟨zo (rest.drop (k+1)),hnext.out⟩;have x1:(ba rest).extract 0 k=ba (rest.take k):=by rw [ba_ext]; simp
   have x2:(ba rest).extract (k+1) rest.length=ba (rest.drop (k+1)):=by
    rw [ba_ext,List.take_of_length_le (by simp)]
   have k1:¬ (k:Int) < 0:=by omega
   have k2:(k:Int)≤rest.length:=by omega
   have k3:(k:Int)+1≤rest.length:=by omega
   have hl:=hL.out;have kw:IntKind.i64.wrap ((k:Int)+1)=(k:Int)+1:=zP _ (by omega) (by omega)
   have HB2:=qd hB.out;have hL2:Hid ((rest.drop (k+1)).length≤t.length):=qd (by simp; omega)
   have hM:Hid ((rest.drop (k+1)).length < rest.length):=qd (by simp; omega)
   clear q1 q3 hP c0 hB
   gi_wp2
   refine ⟨trivial,?_⟩;refine (callsIn_wide.2 HI.out).mono ?_;rintro e W5 ⟨rfl,hw5⟩;have hw6:=hw5.symm;subst hw6;clear hw5
   gi_wp2
   refine hR.mono ?_;clear hy hR;rintro e W6 (⟨rfl,hJ6,hk6⟩ | ⟨rfl,hJx6⟩)
   ·have hB6:=HB2.out.kb hk6
    have g0:W6.cell? ⟨eB,0,none⟩=some (.string ⟨#[58]⟩):=by rw [qh hB6.e]; rfl
    have g1:W6.cell? ⟨sB,0,none⟩=some (.string (ba rest)):=by rw [qh hB6.s]; rfl
    have g2:W6.frozen? ⟨sB,0,none⟩=false:=qK hB6.s 0;have H6:=qd hB6;clear hB6 hk6
    gi_wp2
    have fS:Fr [sB] W6 (W6.setCell ⟨sB,0,none⟩ (.string (ba (rest.drop (k+1))))):=Fr.setCell _ _ _ (by simp)
    have sS:(W6.setCell ⟨sB,0,none⟩ (.string (ba (rest.drop (k+1))))).heap[sB]?=some (.cells #[.string (ba (rest.drop (k+1)))] 9 (0,0)):=zc H6.out.s 0 _;refine ⟨⟨_,rest.drop (k+1),hnext,hL2,hJ _ _ _ hJ6 fS ⟨_,sS⟩,qd ⟨(fS.block _ (qf H6.out.e) (by simpa using h1)).trans H6.out.e,sS,(fS.block _ (qf H6.out.v) (by simpa using h2)).trans H6.out.v⟩⟩,?_⟩
    have m1:leftIn sB (W6.setCell ⟨sB,0,none⟩ (.string (ba (rest.drop (k+1)))))=(rest.drop (k+1)).length:=by
     unfold leftIn;rw [qh sS]
     show (ba (rest.drop (k+1))).size=_
     rw [← qo,qJ]
    have m2:leftIn sB wr=rest.length:=by
     unfold leftIn;rw [e1]
     show (ba rest).size=_
     rw [← qo,qJ]
    rw [m1,m2];exact hM.out
   ·gi_wp2
    refine bodyPost_ret (results_none rfl _ _ _) rfl ?_;exact ⟨⟨_,rfl⟩,.inr ⟨_,hJx6⟩⟩
theorem split_seq (n:Nat) (hn:1≤n) (eB sB vB:Nat) (h1:eB≠sB) (h2:vB≠sB) (t:Bs) (ht:t.length≤268435456) (w:World) (h:Bxs eB sB vB t w) :
  SeqB n Tryz.prog 119 #[.pointer (some ⟨eB,0,none⟩),.pointer (some ⟨sB,0,none⟩),.pointer (some ⟨vB,0,none⟩)] (fun x:Bs=>#[Value.string (ba x)]) sB (Kb eB sB vB) (zo t) w:=by
 intro l J Jx W hW hJ hJx hY h0
 exact split1_in n hn l eB sB vB h1 h2 t ht J Jx hJ hY W ⟨(hW.block _ (qf h.e)).trans h.e,(hW.block _ (qf h.s)).trans h.s,(hW.block _ (qf h.v)).trans h.v⟩ h0
theorem splitSeq_ok (t:Bs) (w:World):Calls Tryz.prog 97 #[.string (ba t),.string ⟨#[58]⟩,.int .i64 0] w fun e w'=>e=.returned (.func (.func 119) #[] #[.pointer (some ⟨w.heap.size+1,0,none⟩),.pointer (some ⟨w.heap.size,0,none⟩),.pointer (some ⟨w.heap.size+2,0,none⟩)])∧Bl w w'∧w'.heap.size=w.heap.size+3∧Bxs (w.heap.size+1) w.heap.size (w.heap.size+2) t w':=by
 have hmf:∀ (fn:Fn) (first cap:Array Value) (w:World),(Instr.makeFunc fn first cap).run Tryz.prog w=.ok (.func fn first cap) w:=fun _ _ _ _=>rfl
 have hX:Hid (Bl w (((w.alloc (.cells #[.string (ba t)] 9)).alloc (.cells #[.string ⟨#[58]⟩] 9)).alloc (.cells #[.int .i64 0] 3))∧(((w.alloc (.cells #[.string (ba t)] 9)).alloc (.cells #[.string ⟨#[58]⟩] 9)).alloc (.cells #[.int .i64 0] 3)).heap.size=w.heap.size+3∧Bxs (w.heap.size+1) w.heap.size (w.heap.size+2) t (((w.alloc (.cells #[.string (ba t)] 9)).alloc (.cells #[.string ⟨#[58]⟩] 9)).alloc (.cells #[.int .i64 0] 3))):=qd (by
  have z1:(w.alloc (.cells #[.string (ba t)] 9)).heap.size=w.heap.size+1:=by simp
  have z2:((w.alloc (.cells #[.string (ba t)] 9)).alloc (.cells #[.string ⟨#[58]⟩] 9)).heap.size=w.heap.size+2:=by simp
  refine ⟨((Bl.alloc _ _).trans (Bl.alloc _ _)).trans (Bl.alloc _ _),by simp,?_,?_,?_⟩
  ·rw [Below.heap_alloc _ _ _ (by rw [z2]; omega),← z1]; exact heap_alloc_new _ _
  ·rw [Below.heap_alloc _ _ _ (by rw [z2]; omega),Below.heap_alloc _ _ _ (by rw [z1]; omega)]; exact heap_alloc_new _ _
  ·rw [← z2]; exact heap_alloc_new _ _)
 go_enter Tryz.func97,Tryz.ntmps97
 go_wp2_with fail
 go_ret
 exact ⟨rfl,hX.out⟩
theorem splitSeq2_ok (t:Bs) (w:World):Calls Tryz.prog 62 #[.string (ba t),.string ⟨#[58]⟩] w fun e w'=>e=.returned (.func (.func 119) #[] #[.pointer (some ⟨w.heap.size+1,0,none⟩),.pointer (some ⟨w.heap.size,0,none⟩),.pointer (some ⟨w.heap.size+2,0,none⟩)])∧Bl w w'∧w'.heap.size=w.heap.size+3∧Bxs (w.heap.size+1) w.heap.size (w.heap.size+2) t w':=by
 have H:=qd (splitSeq_ok t w)
 go_enter Tryz.func62,Tryz.ntmps62
 go_wp2_with (go_at_call 97; refine H.out.mono ?_; rintro e w1 ⟨rfl,b1⟩)
 go_ret
 exact ⟨rfl,b1⟩
theorem tk2 {V:World} {A B:Nat} {tm:Array Value} {x y:Value} {R:Ending→World→Prop} (hA:V.cell? ⟨A,0,none⟩=some x) (hB:V.cell? ⟨B,0,none⟩=some y)
  (h2:tm.getD 2 undef=.pointer (some ⟨A,0,none⟩)) (h3:tm.getD 3 undef=.pointer (some ⟨B,0,none⟩)) (hR:R (.returned (.tuple #[x,y])) V):bodyPost Tryz.prog Tryz.f35 R .ret ⟨tm,[]⟩ V:=by
 have h2':tm[2]?.getD undef=.pointer (some ⟨A,0,none⟩):=by simpa using h2
 have h3':tm[3]?.getD undef=.pointer (some ⟨B,0,none⟩):=by simpa using h3
 refine bodyPost_ret (v:=.tuple #[x,y]) (by simp [results,Tryz.results35,go_sem,h2,h2',h3,h3',hA,hB]) rfl hR
theorem takes_long (t:Bs) (w:World) (h:96 < t.length):Calls Tryz.prog 35 #[.string (ba t)] w fun e w'=>e=.returned (.tuple #[.int .i64 0,.bool false])∧Bl w w':=by
 have hsz:(ba t).size=t.length:=by rw [← qo,qJ]
 have q:(96:Int) < t.length:=by omega
 have B1:Hid (Bl w ((w.alloc (.cells #[.int .i64 0] 3)).alloc (.cells #[.bool false] 4))):=qd ((Bl.alloc _ _).trans (Bl.alloc _ _))
 clear h
 go_enter Tryz.func35,Tryz.ntmps35
 go_wp2_with fail
 have y0:((w.alloc (.cells #[.int .i64 0] 3)).alloc (.cells #[.bool false] 4)).cell? ⟨w.heap.size,0,none⟩=some (.int .i64 0):=by simp [go_sem]
 have y1:((w.alloc (.cells #[.int .i64 0] 3)).alloc (.cells #[.bool false] 4)).cell? ⟨w.heap.size+1,0,none⟩=some (.bool false):=by simp [go_sem]
 exact tk2 y0 y1 rfl rfl ⟨rfl,B1.out⟩
theorem set3 {w1:World} {A:Nat} {x:Value} (k0:w1.heap[A]?=some (.cells #[x] 3 (0,0))) (k1:w1.heap[A+1]?=some (.cells #[.bool false] 4 (0,0))) (u v:Value) (b:Bool) :
  Fr [A,A+1] w1 (((w1.setCell ⟨A,0,none⟩ u).setCell ⟨A,0,none⟩ v).setCell ⟨A+1,0,none⟩ (.bool b))∧(((w1.setCell ⟨A,0,none⟩ u).setCell ⟨A,0,none⟩ v).setCell ⟨A+1,0,none⟩ (.bool b)).cell? ⟨A,0,none⟩=some v∧(((w1.setCell ⟨A,0,none⟩ u).setCell ⟨A,0,none⟩ v).setCell ⟨A+1,0,none⟩ (.bool b)).cell? ⟨A+1,0,none⟩=some (.bool b):=by
 have s1:=zc (v:=u) k0 0
 have s2:=zc (v:=v) s1 0
 have f1:Fr [A] w1 (w1.setCell ⟨A,0,none⟩ u):=Fr.setCell _ _ _ (by simp)
 have f2:Fr [A] (w1.setCell ⟨A,0,none⟩ u) ((w1.setCell ⟨A,0,none⟩ u).setCell ⟨A,0,none⟩ v):=Fr.setCell _ _ _ (by simp)
 have r2:=(f2.block _ (by have:=f1.size; have:=qf k1; omega) (by simp)).trans ((f1.block _ (qf k1) (by simp)).trans k1)
 generalize (w1.setCell ⟨A,0,none⟩ u).setCell ⟨A,0,none⟩ v=X at *
 have s3:=zc (v:=.bool b) r2 0
 have f3:Fr [A+1] X (X.setCell ⟨A+1,0,none⟩ (.bool b)):=Fr.setCell _ _ _ (by simp)
 have r3:=(f3.block _ (qf s2) (by simp)).trans s2
 refine ⟨((f1.mono (S':=[A,A+1]) (fun b hb=>by simp at hb; simp [hb])).trans f2 (fun b hb=>by simp at hb; simp [hb])).trans f3 (fun b hb=>by simp at hb; simp [hb]),by rw [qh r3]; rfl,by rw [qh s3]; rfl⟩
theorem set2 {w1:World} {A:Nat} {x:Value} (k0:w1.heap[A]?=some (.cells #[x] 3 (0,0))) (k1:w1.heap[A+1]?=some (.cells #[.bool false] 4 (0,0))) (v:Value) (b:Bool) :
  Fr [A,A+1] w1 ((w1.setCell ⟨A,0,none⟩ v).setCell ⟨A+1,0,none⟩ (.bool b))∧((w1.setCell ⟨A,0,none⟩ v).setCell ⟨A+1,0,none⟩ (.bool b)).heap[A]?=some (.cells #[v] 3 (0,0))∧((w1.setCell ⟨A,0,none⟩ v).setCell ⟨A+1,0,none⟩ (.bool b)).heap[A+1]?=some (.cells #[.bool b] 4 (0,0)):=by
 have s2:=zc (v:=v) k0 0
 have f2:Fr [A] w1 (w1.setCell ⟨A,0,none⟩ v):=Fr.setCell _ _ _ (by simp)
 have r2:=(f2.block _ (qf k1) (by simp)).trans k1
 generalize w1.setCell ⟨A,0,none⟩ v=X at *
 have s3:=zc (v:=.bool b) r2 0
 have f3:Fr [A+1] X (X.setCell ⟨A+1,0,none⟩ (.bool b)):=Fr.setCell _ _ _ (by simp)
 have r3:=(f3.block _ (qf s2) (by simp)).trans s2
 exact ⟨(f2.mono (S':=[A,A+1]) (fun b hb=>by simp at hb; simp [hb])).trans f3 (fun b hb=>by simp at hb; simp [hb]),r3,s3⟩
theorem takes_bad (t:Bs) (w:World) (h:t.length≤96) (hb:(sel t).2≠0∨8 < (sel t).1):Calls Tryz.prog 35 #[.string (ba t)] w fun e w'=>e=.returned (.tuple #[.int .i64 0,.bool false])∧Bl w w':=by
 have hsz:(ba t).size=t.length:=by rw [← qo,qJ]
 have q:¬ (96:Int) < t.length:=by omega
 obtain ⟨W2,hW2⟩:∃ X,(w.alloc (.cells #[.int .i64 0] 3)).alloc (.cells #[.bool false] 4)=X:=⟨_,rfl⟩
 have B1:Hid (Bl w W2):=qd (hW2▸(Bl.alloc _ _).trans (Bl.alloc _ _))
 have g0:Hid (W2.heap[w.heap.size]?=some (.cells #[.int .i64 0] 3 (0,0))):=qd (by rw [← hW2,Below.heap_alloc _ _ _ (by simp)]; exact heap_alloc_new _ _)
 have g1:Hid (W2.heap[w.heap.size+1]?=some (.cells #[.bool false] 4 (0,0))):=qd (by
  have:=heap_alloc_new (w.alloc (.cells #[.int .i64 0] 3)) (.cells #[.bool false] 4);rw [World.size_alloc,hW2] at this;exact this)
 have HS:=qd (sel_ok (ba t) W2 (by omega))
 rw [qJ] at HS
 generalize sel t=q at *
 obtain ⟨c,er⟩:=q
 dsimp only at *
 have hcase:Hid (((er:Int) != 0)=true∨(((er:Int) != 0)=false∧(8:Int) < c)):=qd (by
  by_cases he:er=0
  ·exact Or.inr ⟨by rw [bne_eq_false_iff_eq]; omega,by omega⟩
  ·exact Or.inl (by rw [bne_iff_ne]; omega))
 clear h hb
 rcases hcase.out with q1 | ⟨q1,q2⟩
 ·go_enter Tryz.func35,Tryz.ntmps35
  go_wp2_with (
        go_at_call 61; refine HS.out.mono ?_; rintro e w1 ⟨rfl,b1⟩
        have k0:=qd ((b1.block _ (qf g0.out)).trans g0.out);have k1:=qd ((b1.block _ (qf g1.out)).trans g1.out);have c0:w1.cell? ⟨w.heap.size,0,none⟩=some (.int .i64 0):=by rw [qh k0.out]; rfl
        have f0:w1.frozen? ⟨w.heap.size,0,none⟩=false:=qK k0.out 0;have c1:w1.cell? ⟨w.heap.size+1,0,none⟩=some (.bool false):=by rw [qh k1.out]; rfl
        have f1:w1.frozen? ⟨w.heap.size+1,0,none⟩=false:=qK k1.out 0;have BB:=qd (B1.out.trans b1))
  obtain ⟨z1,z2,z3⟩:=set3 k0.out k1.out (.int .i64 c) (.int .i64 0) false;exact tk2 z2 z3 rfl rfl ⟨rfl,((Fr.ofBl BB.out []).trans z1 (by simp)).bl (by simp)⟩
 ·go_enter Tryz.func35,Tryz.ntmps35
  go_wp2_with (
        go_at_call 61; refine HS.out.mono ?_; rintro e w1 ⟨rfl,b1⟩
        have k0:=qd ((b1.block _ (qf g0.out)).trans g0.out);have k1:=qd ((b1.block _ (qf g1.out)).trans g1.out);have c0:w1.cell? ⟨w.heap.size,0,none⟩=some (.int .i64 0):=by rw [qh k0.out]; rfl
        have f0:w1.frozen? ⟨w.heap.size,0,none⟩=false:=qK k0.out 0;have c1:w1.cell? ⟨w.heap.size+1,0,none⟩=some (.bool false):=by rw [qh k1.out]; rfl
        have f1:w1.frozen? ⟨w.heap.size+1,0,none⟩=false:=qK k1.out 0;have BB:=qd (B1.out.trans b1))
  obtain ⟨z1,z2,z3⟩:=set3 k0.out k1.out (.int .i64 c) (.int .i64 0) false;exact tk2 z2 z3 rfl rfl ⟨rfl,((Fr.ofBl BB.out []).trans z1 (by simp)).bl (by simp)⟩
def TkI (w:World) (t:Bs) (c:Nat) (pre:List Bs) (W:World):Prop:=Hid ((∀ x∈pre,x.length≤32)∧Bl w W∧W.heap[w.heap.size]?=some (.cells #[.int .i64 c] 3 (0,0))∧W.heap[w.heap.size+1]?=some (.cells #[.bool false] 4 (0,0)))
def TkX (w:World) (t:Bs) (pre:List Bs) (W:World):Prop:=Hid ((∃ x∈zo t,¬ x.length≤32)∧Bl w W∧W.heap[w.heap.size]?=some (.cells #[.int .i64 0] 3 (0,0))∧W.heap[w.heap.size+1]?=some (.cells #[.bool false] 4 (0,0)))
theorem tkI_stays {w:World} {t:Bs} {c B sB:Nat} (h1:w.heap.size+2≤sB) (h2:w.heap.size+2≤B):Stays B sB (TkI w t c):=by
 intro s A C b h f hb
 have hl:w.heap.size+2≤b:=by rcases hb with ⟨rfl,_⟩ | ⟨h,_⟩ <;> omega
 obtain ⟨p,q,r,v⟩:=h.out
 exact qd ⟨p,((Fr.ofBl q []).trans f (by simp; omega)).bl (by simp),(f.block _ (qf r) (by simp; omega)).trans r,(f.block _ (qf v) (by simp; omega)).trans v⟩
theorem tkX_stays {w:World} {t:Bs} {B sB:Nat} (h1:w.heap.size+2≤sB) (h2:w.heap.size+2≤B):Stays B sB (TkX w t):=by
 intro s A C b h f hb
 have hl:w.heap.size+2≤b:=by rcases hb with ⟨rfl,_⟩ | ⟨h,_⟩ <;> omega
 obtain ⟨p,q,r,v⟩:=h.out
 exact qd ⟨p,((Fr.ofBl q []).trans f (by simp; omega)).bl (by simp),(f.block _ (qf r) (by simp; omega)).trans r,(f.block _ (qf v) (by simp; omega)).trans v⟩
theorem takes_rng (t:Bs) (w:World) (h:t.length≤96) (c:Nat) (hs:sel t=(c,0)) (hc:c≤8):Calls Tryz.prog 35 #[.string (ba t)] w fun e w'=>e=.returned (.tuple (if (zo t).all (fun p=>decide (p.length≤32))=true then #[.int .i64 c,.bool true] else #[.int .i64 0,.bool false]))∧Bl w w':=by
 have hsz:(ba t).size=t.length:=by rw [← qo,qJ]
 have q:¬ (96:Int) < t.length:=by omega
 obtain ⟨W2,hW2⟩:∃ X,(w.alloc (.cells #[.int .i64 0] 3)).alloc (.cells #[.bool false] 4)=X:=⟨_,rfl⟩
 have s2:Hid (W2.heap.size=w.heap.size+2):=qd (by rw [← hW2]; simp)
 have B1:Hid (Bl w W2):=qd (hW2▸(Bl.alloc _ _).trans (Bl.alloc _ _))
 have g0:Hid (W2.heap[w.heap.size]?=some (.cells #[.int .i64 0] 3 (0,0))):=qd (by rw [← hW2,Below.heap_alloc _ _ _ (by simp)]; exact heap_alloc_new _ _)
 have g1:Hid (W2.heap[w.heap.size+1]?=some (.cells #[.bool false] 4 (0,0))):=qd (by
  have:=heap_alloc_new (w.alloc (.cells #[.int .i64 0] 3)) (.cells #[.bool false] 4);rw [World.size_alloc,hW2] at this;exact this)
 have HS:=qd (sel_ok (ba t) W2 (by omega))
 rw [qJ,hs] at HS
 dsimp only at HS
 have q8:¬ (8:Int) < c:=by omega
 have HSp:=qd (splitSeq2_ok t)
 have hl:=h
 clear hs hc h
 obtain ⟨TV,hTV⟩:∃ TV,(if (zo t).all (fun p=>decide (p.length≤32))=true then #[Value.int .i64 c,.bool true] else #[.int .i64 0,.bool false])=TV:=⟨_,rfl⟩
 rw [hTV]
 have T1:Hid ((zo t).all (fun p=>decide (p.length≤32))=true→TV=#[.int .i64 c,.bool true]):=qd (fun h=>by rw [← hTV,if_pos h])
 have T2:Hid ((zo t).all (fun p=>decide (p.length≤32))=false→TV=#[.int .i64 0,.bool false]):=qd (fun h=>by rw [← hTV,if_neg (by rw [h]; simp)])
 clear hTV
 refine (callsIn_wide (n:=3)).1 ?_
 refine callsIn_of_wp_marks Tryz.func35 rfl trivial ?_ rfl
 simp only [Tryz.ntmps35,List.size_toArray,List.length_cons,List.length_nil,Nat.reduceAdd,Nat.reduceSub,Array.replicate_succ,Array.replicate_zero,List.push_toArray,List.append_toArray,List.nil_append,List.cons_append]
 gi_wp2
 refine ⟨trivial,?_⟩
 refine (callsIn_wide.2 HS.out).mono ?_
 rintro e w1 ⟨rfl,b1⟩
 have k0:=qd ((b1.block _ (qf g0.out)).trans g0.out)
 have k1:=qd ((b1.block _ (qf g1.out)).trans g1.out)
 have c0:w1.cell? ⟨w.heap.size,0,none⟩=some (.int .i64 0):=by rw [qh k0.out]; rfl
 have f0:w1.frozen? ⟨w.heap.size,0,none⟩=false:=qK k0.out 0
 obtain ⟨W3,hW3⟩:∃ X,w1.setCell ⟨w.heap.size,0,none⟩ (.int .i64 c)=X:=⟨_,rfl⟩
 have fr3:Fr [w.heap.size] w1 W3:=hW3▸Fr.setCell _ _ _ (by simp)
 have m0:Hid (W3.heap[w.heap.size]?=some (.cells #[.int .i64 c] 3 (0,0))):=qd (hW3▸zc k0.out 0 _)
 have m1:=qd ((fr3.block _ (qf k1.out) (by simp)).trans k1.out)
 have d0:W3.cell? ⟨w.heap.size,0,none⟩=some (.int .i64 c):=by rw [qh m0.out]; rfl
 have B3:Hid (Bl w W3):=qd (((Fr.ofBl (B1.out.trans b1) []).trans fr3 (by simp)).bl (by simp))
 clear HS
 gi_wp2
 refine ⟨trivial,?_⟩
 refine (callsIn_wide.2 (HSp.out _)).mono ?_
 rintro e w4 ⟨rfl,b4,z4,hx4⟩
 gi_wp2
 have hz3:w.heap.size+2≤W3.heap.size:=by have:=b1.size; have:=fr3.size; have:=s2.out; omega
 have N0:Hid (w4.heap[w.heap.size]?=some (.cells #[.int .i64 c] 3 (0,0))):=qd ((b4.block _ (qf m0.out)).trans m0.out)
 have N1:Hid (w4.heap[w.heap.size+1]?=some (.cells #[.bool false] 4 (0,0))):=qd ((b4.block _ (qf m1.out)).trans m1.out)
 have B4:Hid (Bl w w4):=qd (B3.out.trans b4)
 have HX4:=qd hx4
 have Z4:=qd z4
 clear HSp k0 k1 c0 f0 hW3 fr3 m0 m1 d0 B3 b4 z4 hx4 b1 hW2 g0 g1 B1 s2
 refine range_box (n:=3) (by omega) (gf:=119) (lb:=#[.pointer (some ⟨W3.heap.size+1,0,none⟩),.pointer (some ⟨W3.heap.size,0,none⟩),.pointer (some ⟨W3.heap.size+2,0,none⟩)]) rfl (ent 119 _ _ Tryz.func119 (by kernel_rfl) rfl)
  (split_seq 2 (by omega) (W3.heap.size+1) W3.heap.size (W3.heap.size+2) (by omega) (by omega) t (by omega) w4 HX4.out) (qf HX4.out.s)
  (fun A B C h k=>⟨k.1.trans h.1,k.2.1.trans h.2.1,k.2.2.trans h.2.2⟩)
  (fun A l o hl=>by
   have:=Z4.out;exact ⟨World.putObj_heap_other (by omega),World.putObj_heap_other (by omega),World.putObj_heap_other (by omega)⟩)
  (fun _=>rfl) (TkI w t c) (TkX w t) (tkI_stays hz3 (by have:=Z4.out; omega)) (tkX_stays hz3 (by have:=Z4.out; omega)) (fun W hW=>qd ⟨by simp,B4.out.trans hW,(hW.block _ (qf N0.out)).trans N0.out,(hW.block _ (qf N1.out)).trans N1.out⟩)
  (fun x=>{ tmps:=#[Value.string (ba t),undef,.pointer (some ⟨w.heap.size,0,none⟩),.pointer (some ⟨w.heap.size+1,0,none⟩),.int .i64 0,.string (ba x),.string (ba t),.int .i64 (t.length:Nat),.bool false,.tuple #[.int .i64 c,.int .i64 0],.string (ba t),.tuple #[.int .i64 c,.int .i64 0],.int .i64 c,.int .i64 0,.int .i64 0,.bool false,.bool false,.int .i64 c,.bool (decide ((8:Int) < c)),.bool (decide ((8:Int) < c)),.string (ba t),.func (.func 119) #[] #[.pointer (some ⟨W3.heap.size+1,0,none⟩),.pointer (some ⟨W3.heap.size,0,none⟩),.pointer (some ⟨W3.heap.size+2,0,none⟩)],.string (ba x),undef,undef,undef,undef],defers:=[] }) ?assign ?body ?done ?stop
 case assign =>
  intro l x W K hK
  gi_wp2
  exact hK
 case body =>
  rintro l pre x W hi hpre;have hxs:(ba x).size=x.length:=by rw [← qo,qJ]
  have hmem:Hid (x∈zo t):=qd (hpre.subset (by simp))
  by_cases hx:x.length≤32
  ·have qx:¬ (32:Int) < x.length:=by omega
   have hx2:=qd hx;clear hx hpre
   gi_wp2
   exact ⟨fun b o _ h _=>h,⟨rfl,rfl,rfl⟩,qd ⟨fun y hy=>by
    rcases List.mem_append.1 hy with h | h
    ·exact hi.out.1 y h
    ·have e:y=x:=by simpa using h
     rw [e]; exact hx2.out,hi.out.2⟩⟩
  ·have qx:(32:Int) < x.length:=by omega
   have hx2:=qd hx;have hB:Hid (Bl w W):=qd hi.out.2.1;have n0:Hid (W.heap[w.heap.size]?=some (.cells #[.int .i64 c] 3 (0,0))):=qd hi.out.2.2.1;have n1:Hid (W.heap[w.heap.size+1]?=some (.cells #[.bool false] 4 (0,0))):=qd hi.out.2.2.2;have c0:W.cell? ⟨w.heap.size,0,none⟩=some (.int .i64 c):=by rw [qh n0.out]; rfl
   have f0:W.frozen? ⟨w.heap.size,0,none⟩=false:=qK n0.out 0;have c1:W.cell? ⟨w.heap.size+1,0,none⟩=some (.bool false):=by rw [qh n1.out]; rfl
   have f1:W.frozen? ⟨w.heap.size+1,0,none⟩=false:=qK n1.out 0;clear hx hpre
   gi_wp2
   obtain ⟨z1,z2,z3⟩:=set2 n0.out n1.out (.int .i64 0) false;refine ⟨fun b o hb h _=>?_,qd ⟨⟨x,hmem.out,hx2.out⟩,((Fr.ofBl hB.out []).trans z1 (by simp)).bl (by simp),z2,z3⟩⟩
   have:=Z4.out;exact (z1.block _ (qf h) (by simp; omega)).trans h
 case done =>
  rintro D W hD hi hK;obtain ⟨p1,hB,n0,n1⟩:=hi.out;have c0:W.cell? ⟨w.heap.size,0,none⟩=some (.int .i64 c):=by rw [qh n0]; rfl
  have f0:W.frozen? ⟨w.heap.size,0,none⟩=false:=qK n0 0;have c1:W.cell? ⟨w.heap.size+1,0,none⟩=some (.bool false):=by rw [qh n1]; rfl
  have f1:W.frozen? ⟨w.heap.size+1,0,none⟩=false:=qK n1 0;have HAll:Hid ((zo t).all (fun p=>decide (p.length≤32))=true):=qd (by simpa using p1)
  have HK:=qd hK;have N0':=qd n0;have N1':=qd n1;have HB:=qd hB;clear p1 hB n0 n1 hK hi
  gi_wp2
  obtain ⟨z1,z2,z3⟩:=set2 N0'.out N1'.out (.int .i64 c) true;have zz:=Z4.out;have hK2:=(z1.block _ (qf HK.out) (by simp; omega)).trans HK.out
  have HB2:Bl w ((W.setCell ⟨w.heap.size,0,none⟩ (.int .i64 c)).setCell ⟨w.heap.size+1,0,none⟩ (.bool true)):=((Fr.ofBl HB.out []).trans z1 (by simp)).bl (by simp)
  refine ⟨by simp,.inl ⟨_,_,rfl,run_takeDeferred hK2,?_⟩⟩
  generalize (W.setCell ⟨w.heap.size,0,none⟩ (.int .i64 c)).setCell ⟨w.heap.size+1,0,none⟩ (.bool true)=X at *;have fP:=fr_put X D (.deferred none);have y0:(X.putObj D (.deferred none)).cell? ⟨w.heap.size,0,none⟩=some (.int .i64 c):=by rw [qh ((fP.block _ (qf z2) (by simp; omega)).trans z2)]; rfl
  have y1:(X.putObj D (.deferred none)).cell? ⟨w.heap.size+1,0,none⟩=some (.bool true):=by rw [qh ((fP.block _ (qf z3) (by simp; omega)).trans z3)]; rfl
  refine ⟨.tuple #[.int .i64 c,.bool true],by simp [results,Tryz.results35,go_sem,y0,y1],?_⟩
  exact ⟨by rw [T1.out HAll.out],((Fr.ofBl HB2 []).trans fP (by simp; omega)).bl (by simp)⟩
 case stop =>
  rintro D pre W hD hi hK;obtain ⟨p1,hB,z2,z3⟩:=hi.out;have HAll:Hid ((zo t).all (fun p=>decide (p.length≤32))=false):=qd (by
   obtain ⟨x,hx,hxl⟩:=p1
   cases e:(zo t).all (fun p=>decide (p.length≤32)) with
   | false=>rfl
   | true =>
    have:=List.all_eq_true.1 e x hx;exact absurd (of_decide_eq_true this) hxl)
  have HK:=qd hK;have HB:=qd hB;have M2:=qd z2;have M3:=qd z3;clear p1 hB z2 z3 hK hi
  gi_wp2
  have zz:=Z4.out;refine ⟨by simp,.inl ⟨_,_,rfl,run_takeDeferred HK.out,?_⟩⟩
  have fP:=fr_put W D (.deferred none);have y0:(W.putObj D (.deferred none)).cell? ⟨w.heap.size,0,none⟩=some (.int .i64 0):=by rw [qh ((fP.block _ (qf M2.out) (by simp; omega)).trans M2.out)]; rfl
  have y1:(W.putObj D (.deferred none)).cell? ⟨w.heap.size+1,0,none⟩=some (.bool false):=by rw [qh ((fP.block _ (qf M3.out) (by simp; omega)).trans M3.out)]; rfl
  refine ⟨.tuple #[.int .i64 0,.bool false],by simp [results,Tryz.results35,go_sem,y0,y1],?_⟩
  exact ⟨by rw [T2.out HAll.out],((Fr.ofBl HB.out []).trans fP (by simp; omega)).bl (by simp)⟩
theorem takes_all:CT:=by
 intro t w _
 unfold tkV jB
 by_cases h:96 < t.length
 ·rw [if_pos h]; exact takes_long t w h
 rw [if_neg h]
 by_cases hb:(sel t).2≠0∨8 < (sel t).1
 ·rw [if_pos hb]; exact takes_bad t w (by omega) hb
 rw [if_neg hb]
 have:=takes_rng t w (by omega) (sel t).1 (by
  have:(sel t).2=0:=by omega
  rw [← this]) (by omega)
 cases e:(zo t).all (fun p=>decide (p.length≤32)) with
 | true=>rw [e] at this; exact this
 | false=>rw [e] at this; exact this
end Go.Proofs.YtfhkhmgodkheaaaGreatDoor
