import Derived.Test.YtfhkhmgodkheaaaGreatDoorQCG12PArr0
import Derived.Deep.RegionHeld3
set_option linter.unusedSimpArgs false
set_option linter.unusedVariables false
set_option maxRecDepth 1000000
set_option maxHeartbeats 16000000
namespace Go.Proofs.YtfhkhmgodkheaaaGreatDoor
open Go.RowKit
theorem jO {P:Program} {ops:Array Oper} {o:Oper} {a:Act} {w:World} {K:Act→World→Prop} {Q:Exit→Act→World→Prop} {E:Prop}
  (hg:o.guard=none) (s x:Operand) (t tn:TypeId) (ho:o.op=.call { callee:=.builtin .append,args:=#[s,x],argTypes:=#[t,tn] }) (vs vx:Value) (hs:a.eval s=vs) (hx:a.eval x=vx)
  (v':Value) (w':World) (hr:(Builtin.append_ #[t,tn] o.type #[vs,vx]).run P w=.ok v' w') (h:K (a.put o.dst v') w'):if Region.wanted o (yielded ops a.tmps)=true then Oper.wp P o a w K Q else E:=by
 have hw:Region.wanted o (yielded ops a.tmps)=true:=by simp [Region.wanted,hg]
 rw [if_pos hw]
 exact Lib.wp_append_run w s x t tn ho vs vx hs hx v' w' hr h
section
variable {P:Program} {ops:Array Oper} {Q:Exit→Act→World→Prop} {md:Region.Mode} {S:World→Prop} {L:Nat}
def wpLast (P:Program) (md:Region.Mode) (ops:Array Oper) (Q:Exit→Act→World→Prop) (S:World→Prop) (L:Nat):Nat→Array Bool→Act→World→Prop
 | 0,listed,a,w=>Region.ready md ops listed=[]∧Q .normal a w
 | fuel+1,listed,a,w =>
  (Region.ready md ops listed=[]→Q .normal a w) ∧
  ∀ i∈Region.ready md ops listed,wpOp P ops Q i (fun a' w'=>(i≠L→S w')∧wpLast P md ops Q S L fuel (listed.setIfInBounds i true) a' w') a w
theorem wpAny_of_last:∀ (fuel:Nat) (listed:Array Bool) (a:Act) (w:World),wpLast P md ops Q S L fuel listed a w→wpAny P md ops Q fuel listed a w
 | 0,_,_,_,h=>h
 | fuel+1,_,_,_,h=>⟨h.1,fun i hi=>wpOp_mono (fun a' w' h'=>wpAny_of_last fuel _ a' w' h'.2) (h.2 i hi)⟩
def waitsB (md:Region.Mode) (ops:Array Oper) (L i:Nat):Bool:=match ops[L]? with | some o=>o.after.any (fun e=>Region.binds md e && e.on == i) | none=>false
theorem wpLast_first {i:Nat} {oi:Oper} {v:Value} (hi:ops[i]?=some oi) (hsel:∀ (j:Nat) (o:Oper) cs b,ops[j]?=some o→o.op≠.select cs b)
  (hQ:∀ c a w,Q (.panic c) (a.put oi.dst v) w→Q (.panic c) a w) (hiL:i≠L) (hwt:waitsB md ops L i=true) :
  ∀ (fuel:Nat) (listed:Array Bool) (a:Act) (w:World),
   (∀ j oj,ops[j]?=some oj→j≠i→listed.getD j true=false→(∀ e∈oj.after,Region.binds md e=true→e.on≠i)→oi.apart ops oj=true) →
   i∈Region.ready md ops listed→YieldsIf P ops S oi v a→S w →
   wpLast P md ops Q S L fuel (listed.setIfInBounds i true) (a.put oi.dst v) w→wpLast P md ops Q S L (fuel+1) listed a w:=by
 intro fuel
 induction fuel with
 | zero =>
  intro listed a w _ hr hy hS H;refine ⟨fun h=>(by rw [h] at hr; cases hr),fun j hj=>?_⟩
  by_cases hji:j=i
  ·subst hji; exact hy.wpOp hi hS ⟨fun _=>hS,H⟩
  ·have:=ready_mono hj hji
   rw [H.1] at this
   cases this
 | succ fuel ih =>
  intro listed a w hfree hr hy hS H;refine ⟨fun h=>(by rw [h] at hr; cases hr),fun j hj=>?_⟩
  by_cases hji:j=i
  ·subst hji; exact hy.wpOp hi hS ⟨fun _=>hS,H⟩
  ·have h1:=H.2 j (ready_mono hj hji)
   obtain ⟨hjun,oj,hoj,hall⟩:=mem_ready.1 hj;have hnot:∀ e∈oj.after,Region.binds md e=true→e.on≠i:=fun e he hb heq=>by
    have h1:=hall e he hb;have h0:=(mem_ready.1 hr).1;rw [heq] at h1
    rcases Nat.lt_or_ge i listed.size with h' | h'
    ·simp [h'] at h0 h1; rw [h0] at h1; cases h1
    ·simp [Array.getElem?_eq_none h'] at h1
   have hjL:j≠L:=fun e=>by
    subst e;unfold waitsB at hwt;rw [hoj] at hwt;simp only [Array.any_eq_true,Bool.and_eq_true,beq_iff_eq] at hwt;obtain ⟨n,hn,hb,ho⟩:=hwt;exact hnot _ (Array.getElem_mem hn) hb ho
   have h2:=wpOp_putIf hoj (hfree j oj hoj hji hjun hnot) (fun cs b=>hsel i oi cs b hi) (fun cs b=>hsel j oj cs b hoj) hQ hy h1
   have hfree':∀ k ok,ops[k]?=some ok→k≠i→(listed.setIfInBounds j true).getD k true=false →
     (∀ e∈ok.after,Region.binds md e=true→e.on≠i)→oi.apart ops ok=true:=fun k ok hk hki hun hno=>by
    refine hfree k ok hk hki ?_ hno
    by_cases hjk:j=k
    ·subst hjk; exact hjun
    ·rw [getD_set_ne true hjk] at hun; exact hun
   refine wpOp_mono (fun a' w' h3=>⟨h3.2.1,ih (listed.setIfInBounds j true) a' w' hfree' (ready_mono hr (Ne.symm hji)) h3.1 (h3.2.1 hjL) ?_⟩) h2
   rw [Array.setIfInBounds_comm _ _ hji];exact h3.2.2
theorem jp {i:Nat} {oi:Oper} {v:Value} {fuel:Nat} {listed:Array Bool} {a:Act} {w:World} (hi:ops[i]?=some oi)
  (hs:Region.noSelect ops=true) (hf:Region.free md ops listed i=true) (hr:(Region.ready md ops listed).contains i=true) (hiL:i≠L) (hwt:waitsB md ops L i=true)
  (hQ:∀ c a w,Q (.panic c) (a.put oi.dst v) w→Q (.panic c) a w) (hy:YieldsIf P ops S oi v a) (hS:S w)
  (h:wpLast P md ops Q S L fuel (listed.setIfInBounds i true) (a.put oi.dst v) w):wpLast P md ops Q S L (fuel+1) listed a w :=
 wpLast_first hi (Region.noSelect_spec hs) hQ hiL hwt fuel listed a w (Region.free_spec hi hf) (by simpa using hr) hy hS h
theorem zN {i:Nat} {o:Oper} {fuel:Nat} {listed:Array Bool} {a:Act} {w:World} (hr:Region.ready md ops listed=[i]) (ho:ops[i]?=some o) (hiL:i≠L)
  (h:∀ K':Act→World→Prop,Shut (∀ a w,S w→(S w→wpLast P md ops Q S L fuel (listed.setIfInBounds i true) a w)→K' a w)→if Region.wanted o (yielded ops a.tmps)=true then Oper.wp P o a w K' Q else K' (a.put o.dst undef) w):wpLast P md ops Q S L (fuel+1) listed a w:=by
 refine ⟨fun h0=>(by rw [hr] at h0; cases h0),fun j hj=>?_⟩
 rw [hr] at hj
 have e:j=i:=by simpa using hj
 subst e
 exact wpOp_step ho (fun K' hK=>h K' (fun a w hS hW=>hK a w ⟨fun _=>hS,hW hS⟩))
theorem wpLast_end {o:Oper} {fuel:Nat} {listed:Array Bool} {a:Act} {w:World} (hr:Region.ready md ops listed=[L]) (ho:ops[L]?=some o)
  (hr2:Region.ready md ops (listed.setIfInBounds L true)=[])
  (h:∀ K':Act→World→Prop,Shut (∀ a w,Q .normal a w→K' a w)→if Region.wanted o (yielded ops a.tmps)=true then Oper.wp P o a w K' Q else K' (a.put o.dst undef) w):wpLast P md ops Q S L (fuel+1) listed a w:=by
 refine ⟨fun h0=>(by rw [hr] at h0; cases h0),fun j hj=>?_⟩
 rw [hr] at hj
 have e:j=L:=by simpa using hj
 subst e
 refine wpOp_step ho (fun K' hK=>h K' (fun a w hQ=>hK a w ⟨fun h=>absurd rfl h,?_⟩))
 cases fuel with
 | zero=>exact ⟨hr2,hQ⟩
 | succ n=>exact ⟨fun _=>hQ,by rw [hr2]; simp⟩
theorem wp_region_last {id:Nat} {a:Act} {w:World} (hm:P.follows .mixedOrders=true) (hS:S w.drew)
  (h:S w.drew→wpLast P .any ops Q S L ops.size (Array.replicate ops.size false) a w.drew):(Code.region id ops true).wp P Q a w :=
 wp_region_any hm (wpAny_of_last _ _ _ _ (h hS))
end
end Go.Proofs.YtfhkhmgodkheaaaGreatDoor
namespace Go.Proofs.YtfhkhmgodkheaaaGreatDoor
open Go.RowKit Go.Maps Go.WideMaps
theorem add_blk (a:Addr) (j:Nat):(a.add j).block=a.block:=by unfold Addr.add; (try split) <;> rfl
def SrcN (w:World) (v:Value) (m:Nat) (ys:List Value):Prop:=(m=0∧ys=[]∧v=.slice none 0 0)∨∃ a c,v=.slice (some a) m c∧ys.length=m * 7∧(∀ j u,ys[j]?=some u→w.cell? (a.add j)=some u)
theorem RowM.src {w:World} {v:Value} {n:Nat} {xs:List Value} {ft:List Nat} (h:RowM w 34 7 v n xs ft):SrcN w v n xs:=by
 rcases h with ⟨rfl,rfl,_,p,rfl⟩ | ⟨h0,ho,g,hg,_⟩
 ·cases p with
  | none=>exact Or.inl ⟨rfl,rfl,rfl⟩
  | some a=>exact Or.inr ⟨a,0,rfl,rfl,by simp⟩
 ·obtain ⟨p,c,rfl⟩:=qz ho
  rcases ho.2 with ⟨e1,e2⟩ | ⟨g',cap,cur,e1,h1,h2,h3⟩
  ·omega
  ·injection e1 with e1 e2 e3
   subst e1;exact Or.inr ⟨_,c,rfl,ho.1,ho.cells (g:=g') rfl⟩
theorem appN (w:World) (base:Nat) (p:Option Addr) (c n m:Nat) (xs ys:List Value) (v:Value) (h:w.ownsRow base 34 7 (.slice p n c) n xs) (hs:SrcN w v m ys) (hx:∀ u∈ys,u.oneCell'=true) (hn:n+m≤1000000) (hB:base≤w.heap.size) :
  ∃ v' w',(Builtin.append_ #[25,25] 25 #[.slice p n c,v]).run Tryz.prog w=.ok v' w'∧w'.ownsRow base 34 7 v' (n+m) (xs++ys)∧Fr (blk p) w w':=by
 obtain ⟨i,hi,hz,hsize,hby⟩:=info_parts infoN
 rcases hs with ⟨rfl,rfl,rfl⟩ | ⟨a,c2,rfl,hl,hc⟩
 ·refine ⟨_,w,run_append_owned_none (P:=Tryz.prog) (w:=w) base 25 25 34 i 7 Tryz.underlying25 hi _ n xs h,?_,Fr.refl _ _⟩
  simpa using h
 ·obtain ⟨v',w',hr,h2,h3,_⟩:=run_append_own_wide (P:=Tryz.prog) w base 25 25 34 i _ 7 112 Tryz.underlying25 hi hz hsize hby rfl (by decide) _ _ _ h a m c2 ys hl hc hx (by unfold maxLen; omega) (by omega) hB
  exact ⟨v',w',hr,h2,Fr.grown h3 (fun k hk=>(jj p n c k).2 hk)⟩
theorem NdsM.oneCells {w:World}:∀ {ns:List Nd} {xs:List Value} {ft:List Nat},NdsM w ns xs ft→∀ u∈xs,u.oneCell'=true:=by
 intro ns
 induction ns with
 | nil=>intro xs ft h; cases h; simp
 | cons m ns ih =>
  intro xs ft h
  cases h with
  | cons h1 h2 =>
   intro u hu;have hk:=oneCell_node h1;simp only [List.mem_cons] at hu
   rcases hu with rfl | rfl | rfl | rfl | rfl | rfl | rfl | hu
   ·exact hk _ (by simp)
   ·exact hk _ (by simp)
   ·exact hk _ (by simp)
   ·exact hk _ (by simp)
   ·exact hk _ (by simp)
   ·exact hk _ (by simp)
   ·exact hk _ (by simp)
   ·exact ih h2 u hu
def MadeN (w:World) (old:List Nat) (n:Nd) (e:Ending) (w':World):Prop:=Bl w w'∧∃ c0 c1 c2 c3 c4 c5 c6 ft,e=.returned (.agg #[c0,c1,c2,c3,c4,c5,c6])∧NdM w' n (.agg #[c0,c1,c2,c3,c4,c5,c6]) ft∧ft.Nodup∧∀ b∈ft,b∈old∨w.heap.size≤b
theorem ret34b {f:Func} {V:World} {B p:Nat} {tm:Array Value} {a0 a1 a2 a3 a4 a5 a6:Value} {A:Array Value} {R:Ending→World→Prop} (hres:f.results=#[.cell p 34]) (hB:V.heap[B]?=some (.cells A 34 (0,0)))
  (h2:tm.getD p undef=.pointer (some ⟨B,0,none⟩)) (hR:R (.returned (.agg #[a0,a1,a2,a3,a4,a5,a6])) (V.setRow B #[a0,a1,a2,a3,a4,a5,a6])):bodyPost Tryz.prog f R .ret ⟨tm,[]⟩ (V.setRow B #[a0,a1,a2,a3,a4,a5,a6]) :=
 ret34g hres (B:=B) (setRow_heap _ _ _ _ 34 (0,0) hB) h2 hR
theorem send_ok (n:Nd) (r0 r1 r2 r3 r4 r5 r6:Value) (fr:List Nat) (k:Nat) (t:Bs) (num:Int) (pl:Nat) (nms:List Bs) (pls:List Nat) (kids:List Nd) (v:Value) (fm:List Nat) (w:World) (hn:NdM w n (.agg #[r0,r1,r2,r3,r4,r5,r6]) fr) (hm:NdM w (.mk k t num pl nms pls kids) v fm) (hd:(fr++fm).Nodup) (hl:kids.length≤100000) :
  Calls Tryz.prog 164 #[.agg #[r0,r1,r2,r3,r4,r5,r6],v] w (MadeN w (fr++fm) (sendN n (.mk k t num pl nms pls kids))):=by
 cases hm with
 | @mk _ _ _ _ _ _ _ sn sp sk f1 f2 f3 f4 xs h1 h2 h3 h4 =>
 obtain ⟨pn,cn,rfl⟩:=h1.slice
 obtain ⟨pp,cp,rfl⟩:=h2.slice
 obtain ⟨pk,ck,rfl⟩:=h3.slice
 obtain ⟨W1,hW1⟩:∃ W,(w.alloc (.cells #[r0,r1,r2,r3,r4,r5,r6] 34)).alloc (.cells #[.int .i64 k,.string (ba t),.int .i64 num,.int .i64 pl,.slice pn nms.length cn,.slice pp pls.length cp,.slice pk kids.length ck] 34)=W:=⟨_,rfl⟩
 have s1:W1.heap.size=w.heap.size+2:=by rw [← hW1]; simp
 have b1:Bl w W1:=hW1▸(Bl.alloc w _).trans (Bl.alloc _ _)
 have g0:W1.heap[w.heap.size]?=some (.cells #[r0,r1,r2,r3,r4,r5,r6] 34 (0,0)):=by rw [← hW1,Below.heap_alloc _ _ _ (by simp)]; exact heap_alloc_new w _
 have g1:W1.heap[w.heap.size+1]?=some (.cells #[.int .i64 k,.string (ba t),.int .i64 num,.int .i64 pl,.slice pn nms.length cn,.slice pp pls.length cp,.slice pk kids.length ck] 34 (0,0)):=by
  rw [← hW1];have:=heap_alloc_new (w.alloc (.cells #[r0,r1,r2,r3,r4,r5,r6] 34)) (.cells #[.int .i64 k,.string (ba t),.int .i64 num,.int .i64 pl,.slice pn nms.length cn,.slice pp pls.length cp,.slice pk kids.length ck] 34)
  simpa using this
 obtain ⟨W2,hW2⟩:∃ W,W1.alloc (.cells #[.int .i64 0,.string ⟨#[]⟩,.int .i64 0,.int .i64 0,.slice none 0 0,.slice none 0 0,.slice none 0 0] 34)=W:=⟨_,rfl⟩
 have s2:W2.heap.size=w.heap.size+3:=by rw [← hW2]; simp [s1]
 have b2:Bl W1 W2:=hW2▸Bl.alloc _ _
 have g2:W2.heap[w.heap.size+2]?=some z7:=by rw [← hW2,← s1]; exact heap_alloc_new W1 _
 have g0':=(b2.block _ (by omega)).trans g0
 have g1':=(b2.block _ (by omega)).trans g1
 obtain ⟨W3,hW3⟩:∃ W,W2.setCell ⟨w.heap.size+1,0,none⟩ (.int .i64 9)=W:=⟨_,rfl⟩
 have f3':Fr [w.heap.size+1] W2 W3:=hW3▸Fr.setCell W2 _ _ (by simp)
 have e0:W3.heap[w.heap.size]?=some (.cells #[r0,r1,r2,r3,r4,r5,r6] 34 (0,0)):=(f3'.block _ (by omega) (by simp)).trans g0'
 have e1:W3.heap[w.heap.size+1]?=some (.cells #[.int .i64 9,.string (ba t),.int .i64 num,.int .i64 pl,.slice pn nms.length cn,.slice pp pls.length cp,.slice pk kids.length ck] 34 (0,0)):=by rw [← hW3,zc g1']; rfl
 have e2:W3.heap[w.heap.size+2]?=some z7:=(f3'.block _ (by omega) (by simp)).trans g2
 have s3:W3.heap.size=w.heap.size+3:=by rw [← hW3]; simp [s2]
 obtain ⟨W4,hW4⟩:∃ W,W3.alloc (.cells #[r0,r1,r2,r3,r4,r5,r6] 34)=W:=⟨_,rfl⟩
 have b4:Bl W3 W4:=hW4▸Bl.alloc _ _
 have s4:W4.heap.size=w.heap.size+4:=by rw [← hW4]; simp [s3]
 have e3:W4.heap[w.heap.size+3]?=some (.cells #[r0,r1,r2,r3,r4,r5,r6] 34 (0,0)):=by rw [← hW4,← s3]; exact heap_alloc_new W3 _
 have fw4:Fr [] w W4:=((Fr.ofBl (b1.trans b2) []).trans f3' (by simp)).trans (Fr.ofBl b4 []) (by simp)
 have hlt3:=h3.lt
 have hsrc:SrcN W4 (.slice pk kids.length ck) kids.length xs:=(h3.fr fw4 (by simp)).src
 have hown:W4.ownsRow (w.heap.size+3) 34 7 (.slice (some ⟨w.heap.size+3,0,none⟩) 1 1) 1 [r0,r1,r2,r3,r4,r5,r6]:=⟨rfl,Or.inr ⟨_,1,_,rfl,Nat.le_refl _,e3,Nat.le_refl _,by decide,rfl,rfl⟩⟩
 obtain ⟨v',W5,hr5,o5,f5⟩:=appN W4 (w.heap.size+3) (some ⟨w.heap.size+3,0,none⟩) 1 1 kids.length _ xs _ hown hsrc h4.oneCells (by omega) (by omega)
 have f5':Fr [w.heap.size+3] W4 W5:=f5
 obtain ⟨gk,hgk,rk⟩:=RowM.own o5 (by omega)
 have hgl:=qB o5 gk hgk
 obtain ⟨pv,cv,rfl⟩:=qz o5
 have q0:=(f5'.block _ (by omega) (by simp)).trans ((b4.block _ (by omega)).trans e1)
 have q2:=(f5'.block _ (by omega) (by simp)).trans ((b4.block _ (by omega)).trans e2)
 have s5:=f5'.size
 obtain ⟨W6,hW6⟩:∃ W,W5.setCell ⟨w.heap.size+1,6,none⟩ (.slice pv (1+kids.length) cv)=W:=⟨_,rfl⟩
 have f6:Fr [w.heap.size+1] W5 W6:=hW6▸Fr.setCell W5 _ _ (by simp)
 have p1:W6.heap[w.heap.size+1]?=some (.cells #[.int .i64 9,.string (ba t),.int .i64 num,.int .i64 pl,.slice pn nms.length cn,.slice pp pls.length cp,.slice pv (1+kids.length) cv] 34 (0,0)):=by rw [← hW6,zc q0]; rfl
 have p2:W6.heap[w.heap.size+2]?=some z7:=(f6.block _ (by omega) (by simp)).trans q2
 have fw6:Fr [] w W6:=(fw4.trans f5' (by simp)).trans f6 (by simp)
 have fw7:Fr [] w (W6.setRow (w.heap.size+2) #[.int .i64 9,.string (ba t),.int .i64 num,.int .i64 pl,.slice pn nms.length cn,.slice pp pls.length cp,.slice pv (1+kids.length) cv]):=fw6.trans (qG _ _ _) (by simp)
 have HE:Hid (MadeN w (fr++(f1++(f2++(f3++f4)))) (sendN n (.mk k t num pl nms pls kids)) (.returned (.agg #[.int .i64 9,.string (ba t),.int .i64 num,.int .i64 pl,.slice pn nms.length cn,.slice pp pls.length cp,.slice pv (1+kids.length) cv])) (W6.setRow (w.heap.size+2) #[.int .i64 9,.string (ba t),.int .i64 num,.int .i64 pl,.slice pn nms.length cn,.slice pp pls.length cp,.slice pv (1+kids.length) cv])):=qd (by
  refine ⟨fw7.bl (by simp),_,_,_,_,_,_,_,f1++(f2++([gk]++(fr++f4))),rfl,?_,?_,?_⟩
  ·have rk':=(rk.fr f6 (fun b hb=>by simp at hb; simp; omega)).fr (qG _ (w.heap.size+2) #[.int .i64 9,.string (ba t),.int .i64 num,.int .i64 pl,.slice pn nms.length cn,.slice pp pls.length cp,.slice pv (1+kids.length) cv]) (fun b hb=>by simp at hb; simp; omega)
   have hk:=NdsM.cons (hn.fr fw7 (by simp)) (h4.fr fw7 (by simp))
   have:=NdM.mk (k:=9) (t:=t) (n:=num) (a:=pl) (h1.fr fw7 (by simp)) (h2.fr fw7 (by simp)) (show RowM _ 34 7 (.slice pv (1+kids.length) cv) (n :: kids).length _ [gk] by rw [List.length_cons,Nat.add_comm kids.length 1]; exact rk') hk
   exact this
  ·have hnew:∀ b∈fr++(f1++(f2++(f3++f4))),b < w.heap.size:=fun b hb=>by
    simp only [List.mem_append] at hb
    rcases hb with hb | hb | hb | hb | hb
    ·exact hn.lt b hb
    ·exact h1.lt b hb
    ·exact h2.lt b hb
    ·exact h3.lt b hb
    ·exact h4.lt b hb
   have hsub:(f1++(f2++(fr++f4))).Nodup:=by
    have hp:List.Sublist (fr++(f1++(f2++f4))) (fr++(f1++(f2++(f3++f4)))):=List.Sublist.append (List.Sublist.refl _) (List.Sublist.append (List.Sublist.refl _) (List.Sublist.append (List.Sublist.refl _) (List.sublist_append_right _ _)));have hq:=hp.nodup hd;refine (List.Perm.nodup_iff ?_).1 hq
    calc (fr++(f1++(f2++f4))).Perm ((f1++(f2++f4))++fr):=List.perm_append_comm
     _=f1++(f2++(f4++fr)):=by simp
     List.Perm _ (f1++(f2++(fr++f4))):=List.Perm.append_left _ (List.Perm.append_left _ List.perm_append_comm)
   refine (List.Perm.nodup_iff ?_).1 (List.nodup_cons.2 ⟨?_,hsub⟩:(gk :: (f1++(f2++(fr++f4)))).Nodup)
   ·calc List.Perm (gk :: (f1++(f2++(fr++f4)))) (f1++(gk :: (f2++(fr++f4)))):=List.perm_middle.symm
     List.Perm _ (f1++(f2++(gk :: (fr++f4)))):=List.Perm.append_left _ List.perm_middle.symm
     _=f1++(f2++([gk]++(fr++f4))):=by simp
   ·intro hm
    have:gk∈fr++(f1++(f2++(f3++f4))):=by
     simp only [List.mem_append] at hm ⊢
     rcases hm with h | h | h | h <;> simp [h]
    have:=hnew gk this;omega
  ·intro b hb
   simp only [List.mem_append,List.mem_singleton] at hb ⊢
   rcases hb with h | h | h | h | h
   ·exact Or.inl (Or.inr (Or.inl h))
   ·exact Or.inl (Or.inr (Or.inr (Or.inl h)))
   ·right; omega
   ·exact Or.inl (Or.inl h)
   ·exact Or.inl (Or.inr (Or.inr (Or.inr (Or.inr h)))))
 have HR:=qd hr5
 have P2:=qd p2
 have k0:=zp e0
 have k1:=zp e1
 have k6:=zp p1
 have c10:W2.cell? ⟨w.heap.size+1,0,none⟩=some (.int .i64 k):=by rw [qh g1']; rfl
 have z10:=qK g1' 0
 have c46:W4.cell? ⟨w.heap.size+1,6,none⟩=some (.slice pk kids.length ck):=by rw [qh ((b4.block _ (by omega)).trans e1)]; rfl
 have c56:W5.cell? ⟨w.heap.size+1,6,none⟩=some (.slice pk kids.length ck):=by rw [qh q0]; rfl
 have z56:=qK q0 6
 obtain ⟨x0,x1,x2,x3,x4,x5,x6⟩:=k0
 obtain ⟨y0,y1,y2,y3,y4,y5,y6⟩:=k6
 clear hn h1 h2 h3 h4 hd hl k1 hr5 o5 f5 f5' rk hgk hgl q0 q2 f6 p1 p2 fw6 fw7 hown hsrc hlt3 fw4 e0 e1 e2 e3 g0 g1 g2 g0' g1' f3' b1 b2 b4 s5
 go_enter Tryz.func164,Tryz.ntmps164
 go_wp2_with (first
  | (at_builtin; refine Lib.wpList_append_run _ rfl (.tmp 7) (.tmp 9) 25 25 rfl _ _ rfl rfl _ _ HR.out ?_)
  | (refine wpList_store_row rfl 34 _ _ rfl (w.heap.size+2) #[.int .i64 9,.string (ba t),.int .i64 num,.int .i64 pl,.slice pn nms.length cn,.slice pp pls.length cp,.slice pv (1+kids.length) cv] rfl rfl 34 _ P2.out (by kernel_rfl) rfl (by kernel_rfl) ?_))
 exact ret34b Tryz.results164 P2.out rfl HE.out
end Go.Proofs.YtfhkhmgodkheaaaGreatDoor
namespace Go.Proofs.YtfhkhmgodkheaaaGreatDoor
open Go.RowKit Go.Maps
structure I3 {β:Type} (P g c:Nat) (ts:Ts) (B0 B1 B2:Nat) (oneV:Value) (tO:TypeId) (Gk:List Nat) (w0:World) (W:World) (F:List Nat) (acc:List ((Tok × Nat) × β)) (s:Ps):Prop where
 pr:Pr W P g c ts s
 ok:Okq ts s
 gk:∀ b∈Gk,W.heap[b]?=w0.heap[b]?
 sz:w0.heap.size≤W.heap.size
 b0:Box W B0 (.pointer (some ⟨P,0,none⟩)) 62
 b1:Box W B1 oneV tO
 ex:∃ vw,Box W B2 vw 50∧RowZ W 54 4 w0.heap.size vw acc.length (tcs (acc.map (·.1)))∧F=P :: B2 :: vw.ownBlock.toList
structure Apy (P g B0 B1 B2:Nat) (Gk:List Nat) (w0:World):Prop where
 p0:P≠B0
 p1:P≠B1
 p2:P≠B2
 q0:B2≠B0
 q1:B2≠B1
 qg:B2≠g
 lp:P < w0.heap.size
 lg:g < w0.heap.size
 l0:B0 < w0.heap.size
 l1:B1 < w0.heap.size
 l2:B2 < w0.heap.size
 gk:∀ b∈Gk,b≠P∧b≠B2∧b < w0.heap.size
theorem I3.invok {β:Type} {P g c:Nat} {ts:Ts} {B0 B1 B2:Nat} {oneV:Value} {tO:TypeId} {Gk:List Nat} {w0:World} (a:Apy P g B0 B1 B2 Gk w0):InvOk P ([g,B0,B1]++Gk) ts (I3 (β:=β) P g c ts B0 B1 B2 oneV tO Gk w0) where
 ok:=fun {W F acc s} h=>⟨h.ok,h.pr.posW,by
  have:=h.sz;intro x hx;simp only [List.cons_append,List.nil_append,List.mem_cons] at hx
  rcases hx with rfl | rfl | rfl | hx
  ·have:=a.lg; omega
  ·have:=a.l0; omega
  ·have:=a.l1; omega
  ·have:=(a.gk x hx).2.2; omega,by
  obtain ⟨vw,h1,h2,h3⟩:=h.ex;rw [h3];intro x hx;simp only [List.mem_cons] at hx
  rcases hx with rfl | rfl | hx
  ·exact h.pr.lt
  ·exact h1.lt
  ·exact (h2.blk x hx).2⟩
 keep:=fun {W W' F acc s S} h f hs=>by
  obtain ⟨vw,h1,h2,h3⟩:=h.ex;have hn:∀ b∈P :: B2 :: vw.ownBlock.toList,b ∉ S:=fun b hb hm=>(hs b hm).1 (by rw [h3]; exact hb)
  have hg:∀ b∈[g,B0,B1]++Gk,b ∉ S:=fun b hb hm=>(hs b hm).2 hb
  exact ⟨h.pr.other f (hn P (by simp)) (hg g (by simp)),h.ok,fun b hb=>(f.block b (by have:=h.sz; have:=(a.gk b hb).2.2; omega) (hg b (by simp [hb]))).trans (h.gk b hb),Nat.le_trans h.sz f.size,h.b0.fr f (hg B0 (by simp)),h.b1.fr f (hg B1 (by simp)),
   vw,h1.fr f (hn B2 (by simp)),⟨qC h2.1 (fun k hk=>f.block k (qB h2.1 k hk).2 (hn k (by simp [hk]))),h2.2⟩,h3⟩
theorem I3.go {β:Type} {P g c:Nat} {ts:Ts} {B0 B1 B2:Nat} {oneV:Value} {tO:TypeId} {Gk:List Nat} {w0 W W':World} {F:List Nat} {acc:List ((Tok × Nat) × β)} {s s':Ps} (a:Apy P g B0 B1 B2 Gk w0) (h:I3 P g c ts B0 B1 B2 oneV tO Gk w0 W F acc s) (f:Fr [P] W W') (p:Pr W' P g c ts s') (o:Okq ts s'):I3 P g c ts B0 B1 B2 oneV tO Gk w0 W' F acc s':=by
 obtain ⟨vw,h1,h2,h3⟩:=h.ex
 have hlp:=a.lp
 exact ⟨p,o,fun b hb=>(f.block b (by have:=h.sz; have:=(a.gk b hb).2.2; omega) (by simpa using (a.gk b hb).1)).trans (h.gk b hb),Nat.le_trans h.sz f.size,h.b0.fr f (by simpa using fun e=>a.p0 e.symm),h.b1.fr f (by simpa using fun e=>a.p1 e.symm),
  vw,h1.fr f (by simpa using fun e=>a.p2 e.symm),⟨qC h2.1 (fun k hk=>f.block k (qB h2.1 k hk).2 (by have:=(qB h2.1 k hk).1; simp; omega)),h2.2⟩,h3⟩
theorem I3.frF {β:Type} {P g c:Nat} {ts:Ts} {B0 B1 B2:Nat} {oneV:Value} {tO:TypeId} {Gk:List Nat} {w0 W:World} {F:List Nat} {acc:List ((Tok × Nat) × β)} {s:Ps} (h:I3 P g c ts B0 B1 B2 oneV tO Gk w0 W F acc s) {W':World} (f:Fr [P] W W'):Fr F W W':=by
 obtain ⟨vw,h1,h2,h3⟩:=h.ex
 exact f.mono (fun b hb=>Or.inl (by simp at hb; rw [h3,hb]; simp))
theorem skip3_ok {β:Type} {P g c:Nat} {ts:Ts} {B0 B1 B2:Nat} {oneV:Value} {tO:TypeId} {Gk:List Nat} {w0:World} (a:Apy P g B0 B1 B2 Gk w0) (k:Nat) (hk:k≠18) (W:World) (F:List Nat) (acc:List ((Tok × Nat) × β)) (s:Ps) (h:I3 P g c ts B0 B1 B2 oneV tO Gk w0 W F acc s):Calls Tryz.prog 85 #[.pointer (some ⟨P,0,none⟩),.int .i64 k] W fun e w'=>e=.returned (.bool (qN ts k s).1)∧I3 P g c ts B0 B1 B2 oneV tO Gk w0 w' F acc (qN ts k s).2∧Fr F W w':=by
 refine (skip_ok P g c ts s k W h.pr h.ok.ok h.ok.lt).mono ?_
 rintro e w' ⟨rfl,p,f⟩
 exact ⟨rfl,h.go a f p (h.ok.skip hk),h.frF f⟩
theorem rank3 (x:Tok × Nat):((qy x:Int) == 3)=decide (qy x=3):=by
 rw [Bool.eq_iff_iff,decide_eq_true_eq,beq_iff_eq]; omega
theorem I3.word {β:Type} {P g c:Nat} {ts:Ts} {B0 B1 B2:Nat} {oneV:Value} {tO:TypeId} {Gk:List Nat} {w0 W:World} {F:List Nat} {acc:List ((Tok × Nat) × β)} {s:Ps} (a:Apy P g B0 B1 B2 Gk w0) (h:I3 P g c ts B0 B1 B2 oneV tO Gk w0 W F acc s) (x:Tok × Nat) (hl:acc.length≤1000000) :
  ∃ p cw,Box W B2 (.slice p acc.length cw) 50∧F=P :: B2 :: blk p∧(∀ b∈blk p,w0.heap.size≤b∧b < W.heap.size)∧∀ W2,Fr [P] W W2→∃ p' c' W4,(Builtin.append_ #[50,50] 50 #[.slice p acc.length cw,.slice (some ⟨W2.heap.size,0,none⟩) 1 1]).run Tryz.prog (W2.alloc (.cells #[.int .i64 x.1.kind,.string (ba x.1.text),.int .i64 x.1.num,.int .i64 x.2] 54))=.ok (.slice p' (acc.length+1) c') W4 ∧
   RowZ W4 54 4 w0.heap.size (.slice p' (acc.length+1) c') (acc.length+1) (tcs (acc.map (·.1))++tc x)∧Fr (blk p) W2 W4∧(∀ b∈blk p',b∈blk p∨W2.heap.size≤b):=by
 obtain ⟨vw,h1,h2,h3⟩:=h.ex
 obtain ⟨p,cw,rfl⟩:=qz h2.1
 rw [blk_ob] at h3
 have hbl:∀ b∈blk p,w0.heap.size≤b∧b < W.heap.size:=fun b hb=>qB h2.1 b ((jj p _ _ b).1 hb)
 refine ⟨p,cw,h1,h3,hbl,fun W2 f=>?_⟩
 have hlp:=a.lp
 have o2:=qC h2.1 (w':=W2) (fun k hk=>f.block k (qB h2.1 k hk).2 (by have:=(qB h2.1 k hk).1; simp; omega))
 have:=f.size
 have:=h.sz
 obtain ⟨p',c',w',hr,o3,hw⟩:=pushT W2 w0.heap.size p cw acc.length _ (tc x) rfl o2 (fun u hu=>by
  simp only [tc,List.mem_cons,List.not_mem_nil,or_false] at hu
  rcases hu with rfl | rfl | rfl | rfl <;> rfl) hl (by omega)
 refine ⟨p',c',w',hr,⟨o3,fun h0=>by omega⟩,?_,?_⟩
 ·rcases hw with ⟨_,_,hw⟩ | ⟨hw,_⟩
  ·exact hw
  ·exact hw.mono (by simp)
 ·intro b hb
  rcases hw with ⟨rfl,_,_⟩ | ⟨_,hq⟩
  ·exact Or.inl hb
  ·exact Or.inr (hq b hb)
end Go.Proofs.YtfhkhmgodkheaaaGreatDoor
