import Derived.Test.YtfhkhmgodkheaaaGreatDoorQCG09PFuel
import Derived.Shelf.Abstract
import Derived.Lib.AppendZeros
import Derived.WalkMore
import Derived.Deep.RegionHeld
set_option linter.unusedSimpArgs false
set_option linter.unusedVariables false
set_option maxRecDepth 1000000
set_option maxHeartbeats 16000000
namespace Go.Proofs.YtfhkhmgodkheaaaGreatDoor
open Go.RowKit Go.Maps Go.WideMaps
theorem pushS {t e:TypeId} {sz by_:Nat} {z0:Value} (hu:Tryz.prog.underlying t=some (.slice e)) (hinf:(Tryz.prog.info? e).map (fun i=>(i.zero,i.size,i.bytes))=some (some z0,sz,by_)) (hzc:z0.cells.size=sz) (hsz0:0 < sz) (w:World) (base:Nat) (p:Option Addr) (c n:Nat) (xs x:List Value) (h4:x.length=sz) (h:w.ownsRow base e sz (.slice p n c) n xs) (hx:∀ u∈x,u.oneCell'=true) (hn:n+1≤maxLen) (hb:((n+1)+(n+1) / 4+192) * by_≤281474976710656) (hB:base≤w.heap.size) :
  ∃ p' c' w',(Builtin.append_ #[t,t] t #[.slice p n c,.slice (some ⟨w.heap.size,0,none⟩) 1 1]).run Tryz.prog (w.alloc (.cells x.toArray e))=.ok (.slice p' (n+1) c') w' ∧
   w'.ownsRow base e sz (.slice p' (n+1) c') (n+1) (xs++x)∧((p'=p∧c'=c∧Fr (blk p) w w')∨(Fr [] w w'∧∀ g∈blk p',w.heap.size≤g)):=by
 obtain ⟨i,hi,hz,hsize,hby⟩:=info_parts hinf
 have hA:(w.alloc (.cells x.toArray e)).heap.size=w.heap.size+1:=by simp
 have hown:(w.alloc (.cells x.toArray e)).ownsRow base e sz (.slice p n c) n xs:=qC h (fun g hg=>Below.heap_alloc _ _ _ (qB h g hg).2)
 have hnews:∀ j u,x[j]?=some u→(w.alloc (.cells x.toArray e)).cell? ((⟨w.heap.size,0,none⟩:Addr).add j)=some u:=by
  have:=World.news_of_block (heap_alloc_new w (.cells x.toArray e))
  simpa using this
 have h63:=hn
 obtain ⟨v',w',hr,h2,h3,_⟩:=run_append_own_wide (P:=Tryz.prog) (w.alloc (.cells x.toArray e)) base t t e i _ sz by_ hu hi hz hsize hby hzc hsz0 _ _ _ hown ⟨w.heap.size,0,none⟩ 1 1 x (by rw [h4,Nat.one_mul]) hnews hx h63 hb (by omega)
 rcases h.2 with ⟨e1,e2⟩ | ⟨g,c0,cur,e1,q1,q2,q3,q4,q5,q6⟩
 ·injection e1 with e1 e3 e4
  subst e1;subst e4;subst e2;have hnil:xs=[]:=List.length_eq_zero_iff.1 (by rw [h.1,Nat.zero_mul])
  subst hnil;have hr2:=run_append_nil (P:=Tryz.prog) (w.alloc (.cells x.toArray e)) t t e i _ hu hi hz ⟨w.heap.size,0,none⟩ 1 1 x (by rw [hsize,h4,Nat.one_mul]) hnews (by decide) (by decide) (by rw [hby]; simp at hb; omega)
  have hr3:=hr;rw [hr2] at hr3;injection hr3 with hv hw
  subst hv;subst hw;exact ⟨_,_,_,hr,h2,Or.inr ⟨(Fr.alloc [] w _).trans ((Fr.drew [] _).trans (Fr.alloc [] _ _) (by simp)) (by simp),fun g hg=>by simp [blk] at hg; omega⟩⟩
 ·injection e1 with e1 _ e4
  subst e1;subst e4
  by_cases hroom:n+1≤c
  ·have hg:(w.alloc (.cells x.toArray e)).heap[g]?=some (.cells cur e (0,0)):=(Below.heap_alloc _ _ _ (qf q2)).trans q2
   have hr2:=run_append_room (P:=Tryz.prog) (w.alloc (.cells x.toArray e)) t t e i hu hi g n c cur hg ⟨w.heap.size,0,none⟩ 1 1 x (by rw [hsize,h4,Nat.one_mul]) hnews hx hroom (by rw [hsize,q5,h4,← Nat.add_one_mul]; exact Nat.mul_le_mul_right _ hroom)
   have hr3:=hr;rw [hr2] at hr3;injection hr3 with hv hw
   subst hv;refine ⟨_,_,w',hr,h2,Or.inl ⟨rfl,rfl,(Fr.alloc (blk (some ⟨g,0,none⟩)) w _).trans (Fr.grown (S:=[g]) h3 (fun k hk=>?_)) (by simp [blk])⟩⟩
   simp [Value.ownBlock] at hk
   simp [hk]
  ·have holds:∀ j u,xs[j]?=some u→(w.alloc (.cells x.toArray e)).cell? ((⟨g,0,none⟩:Addr).add j)=some u:=hown.cells (g:=g) rfl
   have hr2:=run_append_grow (P:=Tryz.prog) (w.alloc (.cells x.toArray e)) t t e i _ hu hi hz ⟨g,0,none⟩ n c xs (by rw [hsize]; exact h.1) holds ⟨w.heap.size,0,none⟩ 1 1 x (by rw [hsize,h4,Nat.one_mul]) hnews (by omega) (by unfold maxLen at h63; omega) (by rw [hby]; exact growslice_fits_wide (by omega) hb)
   have hr3:=hr;rw [hr2] at hr3;injection hr3 with hv hw
   subst hv;subst hw;exact ⟨_,_,_,hr,h2,Or.inr ⟨(Fr.alloc [] w _).trans ((Fr.drew [] _).trans (Fr.alloc [] _ _) (by simp)) (by simp),fun g hg=>by simp [blk] at hg; omega⟩⟩
theorem infoN:(Tryz.prog.info? 34).map (fun i=>(i.zero,i.size,i.bytes))=some (some (.agg #[.int .i64 0,.string ⟨#[]⟩,.int .i64 0,.int .i64 0,.slice none 0 0,.slice none 0 0,.slice none 0 0]),7,112):=by kernel_rfl
theorem pushN (w:World) (base:Nat) (p:Option Addr) (c n:Nat) (xs x:List Value) (h4:x.length=7) (h:w.ownsRow base 34 7 (.slice p n c) n xs) (hx:∀ u∈x,u.oneCell'=true) (hn:n≤1000000) (hB:base≤w.heap.size) :
  ∃ p' c' w',(Builtin.append_ #[25,25] 25 #[.slice p n c,.slice (some ⟨w.heap.size,0,none⟩) 1 1]).run Tryz.prog (w.alloc (.cells x.toArray 34))=.ok (.slice p' (n+1) c') w' ∧
   w'.ownsRow base 34 7 (.slice p' (n+1) c') (n+1) (xs++x)∧((p'=p∧c'=c∧Fr (blk p) w w')∨(Fr [] w w'∧∀ g∈blk p',w.heap.size≤g)) :=
 pushS Tryz.underlying25 infoN rfl (by decide) w base p c n xs x h4 h hx (by unfold maxLen; omega) (by omega) hB
theorem pushT (w:World) (base:Nat) (p:Option Addr) (c n:Nat) (xs x:List Value) (h4:x.length=4) (h:w.ownsRow base 54 4 (.slice p n c) n xs) (hx:∀ u∈x,u.oneCell'=true) (hn:n≤1000000) (hB:base≤w.heap.size) :
  ∃ p' c' w',(Builtin.append_ #[50,50] 50 #[.slice p n c,.slice (some ⟨w.heap.size,0,none⟩) 1 1]).run Tryz.prog (w.alloc (.cells x.toArray 54))=.ok (.slice p' (n+1) c') w' ∧
   w'.ownsRow base 54 4 (.slice p' (n+1) c') (n+1) (xs++x)∧((p'=p∧c'=c∧Fr (blk p) w w')∨(Fr [] w w'∧∀ g∈blk p',w.heap.size≤g)) :=
 push4 w base p c n xs x h4 h hx (by omega) hB
def posW (w:World) (P:Nat):Nat:=match w.cell? ⟨P,1,none⟩ with | some (.int _ n)=>n.toNat | _=>0
theorem Pr.posW {w:World} {P g c:Nat} {ts:Ts} {s:Ps} (h:Pr w P g c ts s):posW w P=s.pos:=by
 unfold YtfhkhmgodkheaaaGreatDoor.posW
 rw [h.cells.2.1]
 simp
theorem blk_ob (p:Option Addr) (n c:Nat):(Value.slice p n c).ownBlock.toList=blk p:=by cases p <;> rfl
theorem oneCell_node {w:World} {n:Nd} {c0 c1 c2 c3 c4 c5 c6:Value} {ft:List Nat} (h:NdM w n (.agg #[c0,c1,c2,c3,c4,c5,c6]) ft):∀ u∈[c0,c1,c2,c3,c4,c5,c6],u.oneCell'=true:=by
 generalize hv:Value.agg #[c0,c1,c2,c3,c4,c5,c6]=v at h
 cases h with
 | mk h1 h2 h3 h4 =>
  injection hv with hv
  obtain ⟨p1,c1',e1⟩:=h1.slice;obtain ⟨p2,c2',e2⟩:=h2.slice;obtain ⟨p3,c3',e3⟩:=h3.slice;simp only [Array.mk.injEq,List.cons.injEq,and_true] at hv;obtain ⟨rfl,rfl,rfl,rfl,rfl,rfl,rfl⟩:=hv;subst e1 e2 e3;intro u hu;simp only [List.mem_cons,List.not_mem_nil,or_false] at hu
  rcases hu with rfl | rfl | rfl | rfl | rfl | rfl | rfl <;> rfl
theorem NdM.form {w:World} {n:Nd} {v:Value} {ft:List Nat} (h:NdM w n v ft):∃ c0 c1 c2 c3 c4 c5 c6,v=.agg #[c0,c1,c2,c3,c4,c5,c6]:=by
 cases h with
 | mk h1 h2 h3 h4=>exact ⟨_,_,_,_,_,_,_,rfl⟩
end Go.Proofs.YtfhkhmgodkheaaaGreatDoor
namespace Go.Proofs.YtfhkhmgodkheaaaGreatDoor
open Go.RowKit Go.Maps
abbrev Inv (α:Type):=World→List Nat→List α→Ps→Prop
structure InvOk {α:Type} (P:Nat) (G:List Nat) (ts:Ts) (I:Inv α):Prop where
 ok:∀ {W:World} {F:List Nat} {acc:List α} {s:Ps},I W F acc s→Okq ts s∧posW W P=s.pos∧(∀ b∈G,b < W.heap.size)∧∀ b∈F,b < W.heap.size
 keep:∀ {W W':World} {F:List Nat} {acc:List α} {s:Ps} {S:List Nat},I W F acc s→Fr S W W'→(∀ b∈S,b ∉ F∧b ∉ G)→I W' F acc s
structure LN {α:Type} (vl:α→Nd) (I:Inv α) (w:World) (F:List Nat) (wr:World) (q:Value) (acc:List α) (s:Ps) (F':List Nat):Prop where
 ex:∃ xs ft,RowZ wr 34 7 w.heap.size q acc.length xs∧NdsM wr (acc.map vl) xs ft∧Apt w.heap.size (q.ownBlock.toList++ft)∧∀ b∈q.ownBlock.toList++ft,b ∉ F'
 inv:I wr F' acc s
 fr:Fr F w wr
 new:∀ b∈F',b∈F∨w.heap.size≤b
 len:acc.length≤s.pos
theorem LN.go {α:Type} {vl:α→Nd} {I:Inv α} {w:World} {F:List Nat} {wr wn:World} {q:Value} {acc:List α} {s s1:Ps} {F':List Nat} (h:LN vl I w F wr q acc s F') (i:I wn F' acc s1) (f:Fr F' wr wn) (hs:s.pos≤s1.pos):LN vl I w F wn q acc s1 F':=by
 obtain ⟨xs,ft,h1,h2,h3,h4⟩:=h.ex
 refine ⟨⟨xs,ft,⟨qC h1.1 (fun g hg=>f.block g (qB h1.1 g hg).2 (h4 g (by simp [hg]))),h1.2⟩,h2.fr f (fun b hb=>h4 b (by simp [hb])),h3,h4⟩,i,h.fr.trans f h.new,h.new,Nat.le_trans h.len hs⟩
theorem LN.more {α:Type} {P:Nat} {G:List Nat} {ts:Ts} {vl:α→Nd} {I:Inv α} (ho:InvOk P G ts I) {w:World} {F:List Nat} {wr w2:World} {p:Option Addr} {c:Nat} {acc:List α} {s s2:Ps} {F' F2:List Nat} (hgw:∀ b∈G,b < w.heap.size) (h:LN vl I w F wr (.slice p acc.length c) acc s F')
  {a:α} {c0 c1 c2 c3 c4 c5 c6:Value} {fv:List Nat} (f:Fr F' wr w2) (hv:NdM w2 (vl a) (.agg #[c0,c1,c2,c3,c4,c5,c6]) fv) (hap:Apt wr.heap.size fv) (hi:I w2 F2 (acc++[a]) s2) (hn:∀ b∈F2,b∈F'∨wr.heap.size≤b) (hd:∀ b∈fv,b ∉ F2) (hs:acc.length < s2.pos) (hl:acc.length≤1000000) :
  ∃ p' c' w',(Builtin.append_ #[25,25] 25 #[.slice p acc.length c,.slice (some ⟨w2.heap.size,0,none⟩) 1 1]).run Tryz.prog (w2.alloc (.cells #[c0,c1,c2,c3,c4,c5,c6] 34))=.ok (.slice p' (acc.length+1) c') w'∧LN vl I w F w' (.slice p' (acc.length+1) c') (acc++[a]) s2 F2:=by
 obtain ⟨xs,ft,h1,h2,h3,h4⟩:=h.ex
 rw [blk_ob] at h3 h4
 have o2:w2.ownsRow w.heap.size 34 7 (.slice p acc.length c) acc.length xs:=qC h1.1 (fun k hk=>f.block k (qB h1.1 k hk).2 (h4 k (by rw [List.mem_append]; exact Or.inl ((jj p _ _ k).2 hk))))
 have n2:=h2.fr f (fun b hb=>h4 b (by simp [hb]))
 have hsz:=f.size
 have hsw:=h.fr.size
 obtain ⟨p',c',w',hr,o3,hw⟩:=pushN w2 w.heap.size p c acc.length xs [c0,c1,c2,c3,c4,c5,c6] rfl o2 (oneCell_node hv) hl (by omega)
 have hbl:∀ b∈blk p,w.heap.size≤b∧b < wr.heap.size:=fun b hb=>qB h1.1 b ((jj p _ _ b).1 hb)
 have hftl:∀ b∈ft,b < wr.heap.size:=h2.lt
 have hfvl:∀ b∈fv,b < w2.heap.size:=hv.lt
 have hF2:=(ho.ok hi).2.2.2
 have f2:Fr (blk p) w2 w':=by
  rcases hw with ⟨_,_,hw⟩ | ⟨hw,_⟩
  ·exact hw
  ·exact hw.mono (by simp)
 have hbp:∀ b∈blk p',w.heap.size≤b∧(b∈blk p∨w2.heap.size≤b):=fun b hb=>by
  rcases hw with ⟨rfl,_,_⟩ | ⟨_,hq⟩
  ·exact ⟨(hbl b hb).1,Or.inl hb⟩
  ·exact ⟨by have:=hq b hb; omega,Or.inr (hq b hb)⟩
 have hnp:∀ b∈blk p,b ∉ F2:=fun b hb hm=>by
  rcases hn b hm with hm | hm
  ·exact h4 b (by simp [hb]) hm
  ·have:=(hbl b hb).2; omega
 have hfp:∀ b∈ft,b ∉ blk p:=fun b hb hm=>by
  have:=(List.nodup_append.1 h3.nd).2.2 b hm b hb;exact this rfl
 have hvp:∀ b∈fv,b ∉ blk p:=fun b hb hm=>by have:=hap.lo b hb; have:=(hbl b hm).2; omega
 refine ⟨p',c',w',hr,⟨xs++[c0,c1,c2,c3,c4,c5,c6],ft++fv,⟨?_,fun h0=>?_⟩,?_,?_,?_⟩,ho.keep hi f2 (fun b hb=>⟨hnp b hb,fun hm=>by have:=hgw b hm; have:=(hbl b hb).1; omega⟩),?_,?_,?_⟩
 ·rw [List.length_append,List.length_singleton]; exact o3
 ·simp at h0
 ·rw [List.map_append]; exact NdsM.snoc (n2.fr f2 hfp) (hv.fr f2 hvp)
 ·rw [blk_ob]
  have hA:Apt w.heap.size (ft++fv):=Apt.app ⟨(List.nodup_append.1 h3.nd).2.1,fun b hb=>h3.lo b (by simp [hb])⟩ hap hftl hsw
  cases p' with
  | none=>exact hA
  | some a' =>
   refine hA.cons (hbp a'.block (by simp [blk])).1 (fun hm=>?_)
   rcases (hbp a'.block (by simp [blk])).2 with hq | hq
   ·rcases List.mem_append.1 hm with hm | hm
    ·exact hfp _ hm hq
    ·exact hvp _ hm hq
   ·rcases List.mem_append.1 hm with hm | hm
    ·have:=hftl _ hm; omega
    ·have:=hfvl _ hm; omega
 ·rw [blk_ob]
  intro b hb hm;rw [List.mem_append,List.mem_append] at hb
  rcases hb with hb | hb | hb
  ·rcases (hbp b hb).2 with hq | hq
   ·exact hnp b hq hm
   ·have:=hF2 b hm; omega
  ·rcases hn b hm with hm | hm
   ·exact h4 b (by simp [hb]) hm
   ·have:=hftl b hb; omega
  ·exact hd b hb hm
 ·exact (h.fr.trans f h.new).trans f2 (fun b hb=>Or.inr (hbl b hb).1)
 ·intro b hb
  rcases hn b hb with hb | hb
  ·exact h.new b hb
  ·exact Or.inr (by omega)
 ·rw [List.length_append,List.length_singleton]
  omega
theorem LN.start {α:Type} {vl:α→Nd} {I:Inv α} {w:World} {F:List Nat} {s:Ps} (h:I w F [] s):LN vl I w F w (.slice none 0 0) [] s F :=
 ⟨⟨[],[],⟨World.ownsRow_nil _ _ _ _,fun _=>rfl⟩,.nil,by simpa [Value.ownBlock] using Apt.nil w.heap.size,by simp [Value.ownBlock]⟩,h,Fr.refl _ _,fun b hb=>Or.inl hb,Nat.zero_le _⟩
theorem LN.slice {α:Type} {vl:α→Nd} {I:Inv α} {w:World} {F:List Nat} {wr:World} {q:Value} {acc:List α} {s:Ps} {F':List Nat} (h:LN vl I w F wr q acc s F'):∃ p c,q=.slice p acc.length c:=by
 obtain ⟨xs,ft,h1,_⟩:=h.ex
 exact qz h1.1
def PostL {α:Type} (vl:α→Nd) (I:Inv α) (w:World) (F:List Nat) (r:Rs (List α)) (e:Ending) (w':World):Prop:=Fr F w w'∧match r with
 | .ok l s'=>∃ v F',e=.returned v∧LN vl I w F w' v l s' F'
 | .bad x=>e=(.panicked [{ v:=jl x,recovered:=false }])
def PostO {α:Type} (vl:α→Nd) (I:Inv α) (acc:List α) (w:World) (F:List Nat) (r:Rs α) (e:Ending) (w':World):Prop:=Fr F w w'∧match r with
 | .ok a s'=>∃ v ft F',e=.returned v∧NdM w' (vl a) v ft∧Apt w.heap.size ft∧I w' F' (acc++[a]) s'∧(∀ b∈F',b∈F∨w.heap.size≤b)∧∀ b∈ft,b ∉ F'
 | .bad x=>e=(.panicked [{ v:=jl x,recovered:=false }])
theorem listN_ok {α:Type} (vl:α→Nd) (P:Nat) (G:List Nat) (ts:Ts) (btw:Nat) (there:Ps→Bool × Ps) (one:List α→Ps→Option (Rs α)) (hb:btw≠18) (ht:∀ s,Okq ts s→s.pos≤(there s).2.pos∧Okq ts (there s).2)
  (hg:∀ acc s,Okq ts s→(there s).1=true→Pg ts s (one acc (there s).2)) (I:Inv α) (ho:InvOk P G ts I) (tf fo:Nat) (tp tc op oc:Array Value) (et:Enters Tryz.prog tf) (eo:Enters Tryz.prog fo)
  (ct:∀ W F acc s,I W F acc s→Calls Tryz.prog tf (tp++tc) W fun e w'=>e=.returned (.bool (there s).1)∧I w' F acc (there s).2∧Fr F W w')
  (co:∀ W F acc s r,I W F acc (there s).2→Okq ts s→(there s).1=true→acc.length≤4097→one acc (there s).2=some r→Calls Tryz.prog fo (op++oc) W (PostO vl I acc W F r))
  (cs:∀ W F acc s,I W F acc s→Calls Tryz.prog 85 #[.pointer (some ⟨P,0,none⟩),.int .i64 btw] W fun e w'=>e=.returned (.bool (qN ts btw s).1)∧I w' F acc (qN ts btw s).2∧Fr F W w')
  (f0:Nat) (s0:Ps) (w:World) (F:List Nat) (hI:I w F [] s0) (r:Rs (List α)) (hr:qY ts btw there one f0 [] s0=some r) :
  Calls Tryz.prog 88 #[.pointer (some ⟨P,0,none⟩),.int .i64 btw,.func (.func tf) tp tc,.func (.func fo) op oc] w (PostL vl I w F r):=by
 have HT:=qd ct
 have HO:=qd co
 have HS:=qd cs
 have HL0:Hid (LN vl I w F w (.slice none 0 0) [] s0 F):=LN.start hI
 have HR0:=qd hr
 have hgw:=(ho.ok hI).2.2.1
 have HG:=qd hg
 have HTh:=qd ht
 have HOk:=qd ho
 unfold Enters at et eo
 clear ct co cs hI hr hg ht ho
 go_enter Tryz.func88,Tryz.ntmps88
 go_wp2_with fail
 go_loopw [9] (fun q wr=>∃ (f:Nat) (acc:List α) (s:Ps) (F':List Nat),Hid (qY ts btw there one f acc s=some r)∧Hid (LN vl I w F wr q acc s F')) (fun _ wr=>ts.length - posW wr P)
 case atStart=>exact ⟨f0,[],s0,F,HR0,HL0⟩
 case round =>
  obtain ⟨f,acc,s,F',hr,hl⟩:=hrel;clear HR0 HL0;obtain ⟨k1,k2,k3,k4⟩:=HOk.out.ok hl.out.inv;obtain ⟨h1,h2⟩:=HTh.out s k1;obtain ⟨p,c,rfl⟩:=hl.out.slice;have hacc:acc.length≤4097:=by have:=hl.out.len; have:=k1.lt; have:=k1.len; omega
  cases f with
  | zero=>exact absurd hr.out (by unfold qY; simp)
  | succ f =>
  have hr1:=hr.out;unfold qY at hr1;rw [show there s=((there s).1,(there s).2) from rfl] at hr1
  have HC:=qd (HT.out wr F' acc s hl.out.inv)
  cases hth:(there s).1 with
  | false =>
   rw [hth] at hr1 HC;injection hr1 with hr1
   subst hr1;have HX:=qd h1;clear h1 h2 k1 k2 k3 k4 hr hth HT HO HS HG HTh HOk
   go_wp2_with (go_at_fn tf; refine HC.out.mono ?_; rintro e w1 ⟨rfl,i1,f1⟩; have H1:=qd (hl.out.go i1 f1 HX.out); clear i1 f1)
   go_ret
   exact ⟨H1.out.fr,_,_,rfl,H1.out⟩
  | true =>
   rw [hth] at hr1 HC;dsimp only at hr1;have hpg:=HG.out acc s k1 hth
   cases eo1:one acc (there s).2 with
   | none=>rw [eo1] at hr1; cases hr1
   | some r1 =>
    rw [eo1] at hr1;have HX:=qd h1;have HO1:=qd (fun W i=>HO.out W F' acc s r1 i k1 hth hacc eo1)
    cases r1 with
    | bad x =>
     injection hr1 with hr1
     subst hr1;clear h1 h2 k1 k2 k3 k4 hr hth HT HO HS HG HTh HOk hpg eo1
     go_wp2_with (first
      | (go_at_fn tf; refine HC.out.mono ?_; rintro e w1 ⟨rfl,i1,f1⟩; have H1:=qd (hl.out.go i1 f1 HX.out); clear i1 f1)
      | (go_at_fn fo; refine (HO1.out _ H1.out.inv).mono ?_; rintro e w2 ⟨f2,rfl⟩; have H2:=qd (H1.out.fr.trans f2 H1.out.new); clear f2))
     exact ⟨rfl,H2.out,rfl⟩
    | ok a s2 =>
     obtain ⟨p1,p2⟩:=hpg a s2 eo1;dsimp only at hr1;have HP1:=qd p1;have HLn:Hid (acc.length < s2.pos):=qd (Nat.lt_of_le_of_lt hl.out.len p1);have HP2:=qd p2
     by_cases hz:btw=0
     ·rw [if_pos hz] at hr1
      have HR1:=qd hr1;have b0:((btw:Int) != 0)=false:=by rw [hz]; rfl
      have HZ:=qd hz;have HM:=qd k2;have HK:=qd k1;clear h1 h2 k1 k2 k3 k4 hr hth HT HO HS HG HTh hpg eo1 p1 p2 hz hr1
      go_wp2_with (first
       | (go_at_fn tf; refine HC.out.mono ?_; rintro e w1 ⟨rfl,i1,f1⟩; have H1:=qd (hl.out.go i1 f1 HX.out); clear i1 f1)
       | (
        go_at_fn fo; refine (HO1.out _ H1.out.inv).mono ?_; rintro e w2 ⟨f2,v,ft,F2,rfl,n2,a2,i2,q2,d2⟩
        obtain ⟨c0,c1,c2,c3,c4,c5,c6,rfl⟩:=n2.form;have hx:=LN.more HOk.out hgw H1.out f2 n2 a2 i2 q2 d2 HLn.out (by omega)
        obtain ⟨p',c',w3,r3,l3⟩:=hx;have R3:=qd r3;have L3:=qd l3;clear f2 n2 a2 i2 q2 d2 r3 l3)
       | (at_builtin; refine Lib.wpList_append_run _ rfl (.tmp 12) (.tmp 15) 25 25 rfl _ _ rfl rfl _ _ R3.out ?_))
      go_roundw
      case rel=>exact ⟨f,acc++[a],s2,F2,HR1,L3⟩
      case measure =>
       have m1:=(HOk.out.ok L3.out.inv).2.1;have:=HM.out;have:=HP1.out;have:=HP2.out.lt;omega
     ·rw [if_neg hz] at hr1
      have b0:((btw:Int) != 0)=true:=bne_iff_ne.2 (by omega)
      have HM:=qd k2;have HK:=qd k1;have hs3:=zD ts btw s2;have hs4:=p2.skip (k:=btw) hb;have HS4:=qd hs3;have HS1:=qd (fun W F2 i=>HS.out W F2 (acc++[a]) s2 i)
      cases es:qN ts btw s2 with
      | mk bb s3 =>
      rw [es] at hr1 HS1 HS4 hs4
      cases bb with
      | false =>
       dsimp only at hr1;injection hr1 with hr1
       subst hr1;clear h1 h2 k1 k2 k3 k4 hr hth HT HO HS HG HTh hpg eo1 p1 p2 hz es hs3 hs4
       go_wp2_with (first
        | (go_at_fn tf; refine HC.out.mono ?_; rintro e w1 ⟨rfl,i1,f1⟩; have H1:=qd (hl.out.go i1 f1 HX.out); clear i1 f1)
        | (
         go_at_fn fo; refine (HO1.out _ H1.out.inv).mono ?_; rintro e w2 ⟨f2,v,ft,F2,rfl,n2,a2,i2,q2,d2⟩
         obtain ⟨c0,c1,c2,c3,c4,c5,c6,rfl⟩:=n2.form;have hx:=LN.more HOk.out hgw H1.out f2 n2 a2 i2 q2 d2 HLn.out (by omega)
         obtain ⟨p',c',w3,r3,l3⟩:=hx;have R3:=qd r3;have L3:=qd l3;clear f2 n2 a2 i2 q2 d2 r3 l3)
        | (at_builtin; refine Lib.wpList_append_run _ rfl (.tmp 12) (.tmp 15) 25 25 rfl _ _ rfl rfl _ _ R3.out ?_)
        | (go_at_call 85; refine (HS1.out _ _ L3.out.inv).mono ?_; rintro e w4 ⟨rfl,i4,f4⟩; have L4:=qd (L3.out.go i4 f4 HS4.out); clear i4 f4))
       go_ret
       exact ⟨L4.out.fr,_,_,rfl,L4.out⟩
      | true =>
       dsimp only at hr1;have HR1:=qd hr1;have HS5:=qd hs4;clear h1 h2 k1 k2 k3 k4 hr hth HT HO HS HG HTh hpg eo1 p1 p2 hz es hs3 hs4 hr1
       go_wp2_with (first
        | (go_at_fn tf; refine HC.out.mono ?_; rintro e w1 ⟨rfl,i1,f1⟩; have H1:=qd (hl.out.go i1 f1 HX.out); clear i1 f1)
        | (
         go_at_fn fo; refine (HO1.out _ H1.out.inv).mono ?_; rintro e w2 ⟨f2,v,ft,F2,rfl,n2,a2,i2,q2,d2⟩
         obtain ⟨c0,c1,c2,c3,c4,c5,c6,rfl⟩:=n2.form;have hx:=LN.more HOk.out hgw H1.out f2 n2 a2 i2 q2 d2 HLn.out (by omega)
         obtain ⟨p',c',w3,r3,l3⟩:=hx;have R3:=qd r3;have L3:=qd l3;clear f2 n2 a2 i2 q2 d2 r3 l3)
        | (at_builtin; refine Lib.wpList_append_run _ rfl (.tmp 12) (.tmp 15) 25 25 rfl _ _ rfl rfl _ _ R3.out ?_)
        | (go_at_call 85; refine (HS1.out _ _ L3.out.inv).mono ?_; rintro e w4 ⟨rfl,i4,f4⟩; have L4:=qd (L3.out.go i4 f4 HS4.out); clear i4 f4))
       go_roundw
       case rel=>exact ⟨f,acc++[a],s3,F2,HR1,L4⟩
       case measure =>
        have m1:=(HOk.out.ok L4.out.inv).2.1;have:=HM.out;have:=HP1.out;have:=HS5.out.lt;have h9:=HS4.out;omega
def CN (fn:Nat) (ts:Ts) (pure:Ps→Option (Rs Nd)):Prop:=∀ P g c s w r,Pr w P g c ts s→Okq ts s→pure s=some r→Calls Tryz.prog fn #[.pointer (some ⟨P,0,none⟩)] w (PostN P g c ts w r)
theorem zy {P g c:Nat} {ts:Ts} {w w':World} {x:Tok × Nat} {e:Ending} (h:PostN P g c ts w (.bad x) e w'):e=(.panicked [{ v:=jl x,recovered:=false }])∧Fr [P] w w':=⟨h.2,h.1⟩
theorem zK {P g c:Nat} {ts:Ts} {w w':World} {n:Nd} {s':Ps} {e:Ending} (h:PostN P g c ts w (.ok n s') e w'):∃ c0 c1 c2 c3 c4 c5 c6 ft,e=.returned (.agg #[c0,c1,c2,c3,c4,c5,c6])∧NdM w' n (.agg #[c0,c1,c2,c3,c4,c5,c6]) ft∧Apt w.heap.size ft∧Pr w' P g c ts s'∧Fr [P] w w':=by
 obtain ⟨f,v,ft,e1,h1,h2,h3⟩:=h
 obtain ⟨c0,c1,c2,c3,c4,c5,c6,rfl⟩:=h1.form
 exact ⟨_,_,_,_,_,_,_,ft,e1,h1,h2,h3,f⟩
theorem zl {P g c:Nat} {ts:Ts} {w w':World} {x:Tok × Nat} (h4:Fr [P] w w'):PostN P g c ts w (.bad x) ((.panicked [{ v:=jl x,recovered:=false }])) w':=⟨h4,rfl⟩
theorem endN {f:Func} {w V:World} {B p P g c:Nat} {ts:Ts} {s':Ps} {n:Nd} {tm:Array Value} {c0 c1 c2 c3 c4 c5 c6:Value} {A:Array Value} {ft:List Nat} (hres:f.results=#[.cell p 34]) (hB:V.heap[B]?=some (.cells A 34 (0,0)))
  (h2:tm.getD p undef=.pointer (some ⟨B,0,none⟩)) (hw:w.heap.size≤B) (hn:NdM V n (.agg #[c0,c1,c2,c3,c4,c5,c6]) ft) (ha:Apt w.heap.size ft) (hf:B ∉ ft) (hp:Pr V P g c ts s') (hPB:P≠B) (hgB:g≠B) (fr:Fr [P] w V) :
  bodyPost Tryz.prog f (PostN P g c ts w (.ok n s')) .ret ⟨tm,[]⟩ (V.setRow B #[c0,c1,c2,c3,c4,c5,c6]):=by
 have fb:=qG V B #[c0,c1,c2,c3,c4,c5,c6]
 refine ret34g hres (B:=B) (setRow_heap _ _ _ _ 34 (0,0) hB) h2 ⟨fr.trans fb (fun b hb=>Or.inr (by simp at hb; omega)),_,ft,rfl,hn.fr fb (fun b hb e=>hf (by simp at e; rw [← e]; exact hb)),ha,hp.other fb (by simpa using hPB) (by simpa using hgB)⟩
theorem RowM.one {w:World} {e:TypeId} {G:Nat} {cs:List Value} {sz:Nat} (h:w.heap[G]?=some (.cells cs.toArray e (0,0))) (hl:cs.length=sz):RowM w e sz (.slice (some ⟨G,0,none⟩) 1 1) 1 cs [G] :=
 Or.inr ⟨by decide,⟨by simp [hl],Or.inr ⟨G,1,cs.toArray,rfl,Nat.zero_le _,h,Nat.le_refl _,by decide,by simp [hl],by simp [← hl]⟩⟩,G,rfl,rfl⟩
theorem NdsM.single {w:World} {n:Nd} {c0 c1 c2 c3 c4 c5 c6:Value} {ft:List Nat} (h:NdM w n (.agg #[c0,c1,c2,c3,c4,c5,c6]) ft):NdsM w [n] [c0,c1,c2,c3,c4,c5,c6] ft:=by simpa using NdsM.cons h .nil
theorem NdM.kid {w:World} {n:Nd} {c0 c1 c2 c3 c4 c5 c6:Value} {ft:List Nat} {G:Nat} (k:Nat) (t:Bs) (a:Nat) (h:NdM w n (.agg #[c0,c1,c2,c3,c4,c5,c6]) ft) (hG:w.heap[G]?=some (.cells #[c0,c1,c2,c3,c4,c5,c6] 34 (0,0))) :
  NdM w (.mk k t 0 a [] [] [n]) (.agg #[.int .i64 k,.string (ba t),.int .i64 0,.int .i64 a,.slice none 0 0,.slice none 0 0,.slice (some ⟨G,0,none⟩) 1 1]) (G :: ft):=by
 have:=NdM.mk (k:=k) (t:=t) (n:=0) (a:=a) (nms:=[]) (pls:=[]) (RowM.nil w 9 1) (RowM.nil w 3 1) (RowM.one (cs:=[c0,c1,c2,c3,c4,c5,c6]) (sz:=7) hG rfl) (NdsM.single h)
 simpa using this
theorem qL {w:World} {n:Nd} {c0 c1 c2 c3 c4 c5 c6:Value} {ft:List Nat} (h:NdM w n (.agg #[c0,c1,c2,c3,c4,c5,c6]) ft):(#[c0,c1,c2,c3,c4,c5,c6].all fun x=>x.oneCell')=true:=by
 have:=oneCell_node h
 simpa using this
theorem f54_1 (a b c d:Value) (W:World):(Instr.field 54 (.agg #[a,b,c,d]) 1).run Tryz.prog W=.ok b W:=by kernel_rfl
theorem f54_2 (a b c d:Value) (W:World):(Instr.field 54 (.agg #[a,b,c,d]) 2).run Tryz.prog W=.ok c W:=by kernel_rfl
theorem js (a b c d:Value) (W:World):(Instr.field 54 (.agg #[a,b,c,d]) 3).run Tryz.prog W=.ok d W:=by kernel_rfl
theorem named_post {P g c:Nat} {ts:Ts} {s:Ps} (most:Nat) (w:World) (h:Pr w P g c ts s) (hok:Okq ts s) (hk:(hdT ts s).1.kind=1):Calls Tryz.prog 176 #[.pointer (some ⟨P,0,none⟩),.int .i64 most] w (PostN P g c ts w (jf ts most s)):=by
 have hq:=(hok.take (by rw [hk]; decide)).lt
 refine (named_ok P g c ts s most w h hok.ok hq).mono ?_
 intro e w' ⟨f,q⟩
 have key:∀ n s',jf ts most s=.ok n s'→n.names=[]∧n.places=[]∧n.kids=[]:=by
  intro n s' e;unfold jf at e;dsimp only at e
  by_cases h1:constB (hdT ts s).1.text=true
  ·rw [if_pos h1] at e; injection e with e1; subst e1; exact ⟨rfl,rfl,rfl⟩
  rw [if_neg h1] at e
  by_cases h2:(hdT ts s).1.text≠[115,117,112,101,114]
  ·rw [if_pos h2] at e; injection e with e1; subst e1; exact ⟨rfl,rfl,rfl⟩
  rw [if_neg h2] at e
  by_cases h3:qy (hdT ts (qj ts s))=0∨most < qy (hdT ts (qj ts s))
  ·rw [if_pos h3] at e; cases e
  ·rw [if_neg h3] at e; injection e with e1; subst e1; exact ⟨rfl,rfl,rfl⟩
 cases e1:jf ts most s with
 | bad x=>rw [e1] at q; exact ⟨f,q⟩
 | ok n s' =>
  rw [e1] at q;obtain ⟨k1,k2,k3⟩:=key _ _ e1;obtain ⟨nk,nt,nn,na,nns,nps,nks⟩:=n;dsimp only [Nd.names,Nd.places,Nd.kids,Nd.kind,Nd.text,Nd.num,Nd.place] at k1 k2 k3 q;subst k1 k2 k3;exact ⟨f,_,[],q.1,NdM.leaf _ _ _ _ _,Apt.nil _,q.2⟩
structure Sw (w V:World) (P g c:Nat) (ts:Ts) (s:Ps):Prop where
 fr:Fr [P] w V
 pr:Pr V P g c ts s
 res:V.heap[w.heap.size]?=some z7
 lp:P < w.heap.size
 lg:g < w.heap.size
theorem Sw.start {w:World} {P g c:Nat} {ts:Ts} {s:Ps} (h:Pr w P g c ts s) (hok:Okq ts s):Sw w (w.alloc (.cells #[.int .i64 0,.string ⟨#[]⟩,.int .i64 0,.int .i64 0,.slice none 0 0,.slice none 0 0,.slice none 0 0] 34)) P g c ts s :=
 ⟨Fr.alloc _ _ _,h.keep (Bl.alloc _ _),heap_alloc_new w _,h.lt,h.glt (by have:=hok.lt; omega)⟩
theorem Sw.bl {w V V':World} {P g c:Nat} {ts:Ts} {s:Ps} (h:Sw w V P g c ts s) (b:Bl V V'):Sw w V' P g c ts s :=
 ⟨qu h.fr (za b),h.pr.keep b,(b.block _ (qf h.res)).trans h.res,h.lp,h.lg⟩
theorem Sw.go {w V V':World} {P g c:Nat} {ts:Ts} {s s':Ps} (h:Sw w V P g c ts s) (f:Fr [P] V V') (p:Pr V' P g c ts s'):Sw w V' P g c ts s' :=
 ⟨qu h.fr f,p,(f.block _ (qf h.res) (by have:=h.lp; simp; omega)).trans h.res,h.lp,h.lg⟩
theorem Sw.size {w V:World} {P g c:Nat} {ts:Ts} {s:Ps} (h:Sw w V P g c ts s):w.heap.size < V.heap.size:=qf h.res
theorem Sw.endN {f:Func} {w V:World} {p P g c:Nat} {ts:Ts} {s:Ps} {n:Nd} {tm:Array Value} {c0 c1 c2 c3 c4 c5 c6:Value} {ft:List Nat} (h:Sw w V P g c ts s) (hres:f.results=#[.cell p 34])
  (h2:tm.getD p undef=.pointer (some ⟨w.heap.size,0,none⟩)) (hn:NdM V n (.agg #[c0,c1,c2,c3,c4,c5,c6]) ft) (ha:Apt (w.heap.size+1) ft) :
  bodyPost Tryz.prog f (PostN P g c ts w (.ok n s)) .ret ⟨tm,[]⟩ (V.setRow w.heap.size #[c0,c1,c2,c3,c4,c5,c6]) :=
 YtfhkhmgodkheaaaGreatDoor.endN hres h.res h2 (Nat.le_refl _) hn (ha.mono (by omega)) (fun hm=>by have:=ha.lo _ hm; omega) h.pr (by have:=h.lp; omega) (by have:=h.lg; omega) h.fr
theorem Sw.row {w V:World} {P g c:Nat} {ts:Ts} {s:Ps} (h:Sw w V P g c ts s) (B:Nat) (cs:Array Value) (hB:w.heap.size < B):Sw w (V.setRow B cs) P g c ts s :=
 ⟨h.fr.trans (qG V B cs) (fun b hb=>Or.inr (by simp at hb; omega)),h.pr.other (qG V B cs) (by have:=h.lp; simp; omega) (by have:=h.lg; simp; omega),((qG V B cs).block _ (qf h.res) (by simp; omega)).trans h.res,h.lp,h.lg⟩
theorem zp {V:World} {B:Nat} {c0 c1 c2 c3 c4 c5 c6:Value} {t:TypeId} (h:V.heap[B]?=some (.cells #[c0,c1,c2,c3,c4,c5,c6] t (0,0))):V.cell? ⟨B,0,none⟩=some c0∧V.cell? ⟨B,1,none⟩=some c1∧V.cell? ⟨B,2,none⟩=some c2∧V.cell? ⟨B,3,none⟩=some c3∧V.cell? ⟨B,4,none⟩=some c4∧V.cell? ⟨B,5,none⟩=some c5∧V.cell? ⟨B,6,none⟩=some c6 :=
 ⟨by rw [qh h]; rfl,by rw [qh h]; rfl,by rw [qh h]; rfl,by rw [qh h]; rfl,by rw [qh h]; rfl,by rw [qh h]; rfl,by rw [qh h]; rfl⟩
end Go.Proofs.YtfhkhmgodkheaaaGreatDoor
namespace Go.Proofs.YtfhkhmgodkheaaaGreatDoor
open Go.RowKit Go.Maps Go.WideMaps
def Upn (o:Oper) (a:Act) (K:Act→World→Prop) (Q:Exit→Act→World→Prop):Ending→World→Prop
 | .returned v,w=>K (a.put o.dst v) w
 | .panicked ch,w=>Q (.panic ch) a w
 | .outgrown,w=>LetsOut Q
theorem qO {ops:Array Oper} {o:Oper} {a:Act} {w:World} {K:Act→World→Prop} {Q:Exit→Act→World→Prop} {E:Prop} (hw:Region.wanted o (yielded ops a.tmps)=true) (f:FuncId) (fn:Func) (hfn:Tryz.prog.funcs[f]?=some fn) (hnm:(fn.name == "runtime.NumGoroutine")=false) (hbd:fn.body.isSome=true) (xs:Array Operand) (ts:Array TypeId)
  (ho:o.op=.call { callee:=.value (.func f),args:=xs,argTypes:=ts }) (vs:Array Value) (hvs:xs.map a.eval=vs) (R:Ending→World→Prop) (hc:Calls Tryz.prog f vs w R)
  (h:∀ e w',R e w'→Upn o a K Q e w'):if Region.wanted o (yielded ops a.tmps)=true then Oper.wp Tryz.prog o a w K Q else E:=by
 rw [if_pos hw]
 unfold Oper.wp
 have e1:(execOp a.eval o).run Tryz.prog w=.ok (.enter f vs) w:=by
  have h1:¬ fn.name = "runtime.NumGoroutine" := by simpa using hnm
  have h2:¬ fn.body=none:=by intro e; rw [e] at hbd; simp at hbd
  simp [execOp,ho,resolve,invoke,Act.eval,hvs,Deferred.ofValue,callFunc,hfn,h1,h2]
 rw [e1]
 show Calls Tryz.prog f vs w _
 exact hc.mono (fun e w' hr=>by have:=h e w' hr; cases e <;> exact this)
theorem stepF {ops:Array Oper} {o:Oper} {a:Act} {w:World} {K:Act→World→Prop} {Q:Exit→Act→World→Prop} {E:Prop} (hw:Region.wanted o (yielded ops a.tmps)=true) (f:FuncId) (he:Enters Tryz.prog f) (x:Operand) (xs:Array Operand) (ts:Array TypeId)
  (ho:o.op=.call { callee:=.value x,args:=xs,argTypes:=ts }) (pre caps:Array Value) (hx:a.eval x=.func (.func f) pre caps) (vs:Array Value) (hvs:xs.map a.eval=vs) (all:Array Value) (hal:pre++vs++caps=all) (R:Ending→World→Prop) (hc:Calls Tryz.prog f all w R)
  (h:∀ e w',R e w'→Upn o a K Q e w'):if Region.wanted o (yielded ops a.tmps)=true then Oper.wp Tryz.prog o a w K Q else E:=by
 rw [if_pos hw]
 unfold Oper.wp
 have e1:(execOp a.eval o).run Tryz.prog w=.ok (.enter f all) w:=by
  subst hal;have:=he (pre++vs++caps) w;simp [execOp,ho,resolve,invoke,hx,hvs,Deferred.ofValue]
  simpa using this
 rw [e1]
 show Calls Tryz.prog f all w _
 exact hc.mono (fun e w' hr=>by have:=h e w' hr; cases e <;> exact this)
theorem jn {ops:Array Oper} {o:Oper} {a:Act} {w:World} {K:Act→World→Prop} {Q:Exit→Act→World→Prop} {E:Prop} (hw:Region.wanted o (yielded ops a.tmps)=true) (ty:TypeId) (x y:Operand) (ho:o.op=.store ty x y)
  (g:Nat) (cells:Array Value) (hx:a.eval x=.pointer (some ⟨g,0,none⟩)) (hy:a.eval y=.agg cells)
  (t:TypeId) (old:Array Value) (hg:w.heap[g]?=some (.cells old t (0,0))) (hi:(Tryz.prog.info? ty).map (·.size)=some cells.size)
  (hold:old.size=cells.size) (h1:cells.all (·.oneCell')=true) (h:K (a.put o.dst undef) (w.setRow g cells)):if Region.wanted o (yielded ops a.tmps)=true then Oper.wp Tryz.prog o a w K Q else E:=by
 rw [if_pos hw]
 exact wp_store_row ty x y ho g cells hx hy t old hg hi hold h1 h
theorem qU {P:Program} {md:Region.Mode} {ops:Array Oper} {Q:Exit→Act→World→Prop} {S:World→Prop} {i:Nat} {o:Oper} {fuel:Nat} {listed:Array Bool} {a:Act} {w:World} (hr:Region.ready md ops listed=[i]) (ho:ops[i]?=some o)
  (h:∀ K':Act→World→Prop,Hid (∀ a w,S w→(S w→wpAnyH P md ops Q S fuel (listed.setIfInBounds i true) a w)→K' a w)→if Region.wanted o (yielded ops a.tmps)=true then Oper.wp P o a w K' Q else K' (a.put o.dst undef) w):wpAnyH P md ops Q S (fuel+1) listed a w:=by
 refine ⟨fun h0=>(by rw [hr] at h0; cases h0),fun j hj=>?_⟩
 rw [hr] at hj
 have e:j=i:=by simpa using hj
 subst e
 exact wpOp_step ho (fun K' hK=>h K' (fun a w hS hW=>hK a w ⟨hS,hW hS⟩))
theorem Sw.drew {w V:World} {P g c:Nat} {ts:Ts} {s:Ps} (h:Sw w V P g c ts s):Sw w V.drew P g c ts s:=h.bl (qV V)
theorem tq {P:Program} {ops:Array Oper} {Q:Exit→Act→World→Prop} {md:Region.Mode} {S:World→Prop} {i:Nat} {oi:Oper} {v:Value} {fuel:Nat} {listed:Array Bool} {a:Act} {w:World} (h:wpAnyH P md ops Q S fuel (listed.setIfInBounds i true) (a.put oi.dst v) w) (hi:ops[i]?=some oi:=by rfl)
  (hs:Region.noSelect ops=true:=by kernel_rfl) (hf:Region.free md ops listed i=true:=by kernel_rfl) (hr:(Region.ready md ops listed).contains i=true:=by kernel_rfl)
  (hQ:∀ c a w,Q (.panic c) (a.put oi.dst v) w→Q (.panic c) a w:=by exact fun _ _ _ h=>h) (hy:YieldsIf P ops S oi v a:=by (refine Or.inl ⟨by rfl,?_⟩; intro w hSw; (try dsimp only at hSw); (try go_split_ands); first | (go_simp; done) | (go_simp; with_reducible rfl))) (hS:S w:=by assumption):wpAnyH P md ops Q S (fuel+1) listed a w :=
 wpAnyH_take hi hs hf hr hQ hy hS h
theorem tu {P:Program} {ops:Array Oper} {Q:Exit→Act→World→Prop} {md:Region.Mode} {S:World→Prop} {i:Nat} {oi:Oper} {fuel:Nat} {listed:Array Bool} {a:Act} {w:World} (h:wpAnyH P md ops Q S fuel (listed.setIfInBounds i true) (a.put oi.dst undef) w) (hi:ops[i]?=some oi:=by rfl)
  (hs:Region.noSelect ops=true:=by kernel_rfl) (hf:Region.free md ops listed i=true:=by kernel_rfl) (hr:(Region.ready md ops listed).contains i=true:=by kernel_rfl)
  (hQ:∀ c a w,Q (.panic c) (a.put oi.dst undef) w→Q (.panic c) a w:=by exact fun _ _ _ h=>h) (hy:YieldsIf P ops S oi undef a:=by exact Or.inr ⟨by rfl,rfl⟩) (hS:S w:=by assumption):wpAnyH P md ops Q S (fuel+1) listed a w :=
 wpAnyH_take hi hs hf hr hQ hy hS h
end Go.Proofs.YtfhkhmgodkheaaaGreatDoor
