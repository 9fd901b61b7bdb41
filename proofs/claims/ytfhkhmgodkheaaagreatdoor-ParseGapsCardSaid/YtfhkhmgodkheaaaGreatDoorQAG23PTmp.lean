import Derived.Test.YtfhkhmgodkheaaaGreatDoorQAG22PKyT
import Derived.Lib.SliceRun
import Derived.Test.YtfhkhmgodkheaaaGreatDoorQAG15PBdy
set_option linter.unusedSimpArgs false
set_option linter.unusedVariables false
set_option maxRecDepth 1000000
set_option maxHeartbeats 16000000
namespace Go.Proofs.YtfhkhmgodkheaaaGreatDoor
open Go.RowKit Go.Maps Go.WideMaps
theorem growT_ok (n:Nat) (hn:n≤100000) (w:World):Calls Tryz.prog 117 #[.slice none 0 0,.int .i64 n] w fun e w'=>Bl w w'∧∃ v,e=.returned v∧w'.ownsRow w.heap.size 54 4 v 0 []:=by
 by_cases h0:n=0
 ·subst h0
  have HE:Hid (Bl w w∧∃ v,Ending.returned (.slice none 0 0)=.returned v∧w.ownsRow w.heap.size 54 4 v 0 []):=mkHid ⟨Bl.refl _,_,rfl,World.ownsRow_nil _ _ _ _⟩
  go_enter Tryz.func117,Tryz.ntmps117
  go_wp2_with fail
  go_ret
  exact HE.out
 ·obtain ⟨i,hi,hz,hsize,hby⟩:=info_parts info30
  have hr:=Lib.run_append_nil_zeros (P:=Tryz.prog) w 50 3 50 54 i _ .i64 .i64 Tryz.underlying50 Tryz.underlying3 hi hz n (by omega) (by rw [hsize]; decide) (by omega) (by rw [hby]; omega)
  obtain ⟨W1,hW1⟩:∃ X,w.drew.alloc (.cells (Builtin.zeroCells (Value.agg #[.int .i64 0,.string ⟨#[]⟩,.int .i64 0,.int .i64 0]).cells n++Builtin.zeroCells (Value.agg #[.int .i64 0,.string ⟨#[]⟩,.int .i64 0,.int .i64 0]).cells (grownCap w n 0 54 - n)) 54)=X:=⟨_,rfl⟩
  rw [hW1] at hr
  have hge:=grownCap_ge w n 0 54
  have hcm:grownCap w n 0 54≤maxLen:=grownCap_le_maxLen w n 0 54 (by unfold maxLen; omega)
  have HE:Hid (Bl w W1∧∃ v,Ending.returned (.slice (some ⟨w.heap.size,0,none⟩) 0 (grownCap w n 0 54))=.returned v∧W1.ownsRow w.heap.size 54 4 v 0 []):=mkHid ⟨hW1▸(bl_drew w).trans (Bl.alloc w.drew _),_,rfl,rfl,Or.inr ⟨w.heap.size,grownCap w n 0 54,_,rfl,Nat.le_refl _,hW1▸heap_alloc_new w.drew _,Nat.zero_le _,hcm,by
   simp only [Array.size_append,size_zeroCells]
   rw [← Nat.add_mul,show n+(grownCap w n 0 54 - n)=grownCap w n 0 54 by omega]
   rfl,by simp⟩⟩
  have HR:=mkHid hr
  have n1:(0:Int) < n:=by omega
  generalize grownCap w n 0 54=cp at *
  have hcp:cp≤9223372036854775807:=by unfold maxLen at hcm; omega
  clear hr hge hcm hi hz hsize hby h0
  go_enter Tryz.func117,Tryz.ntmps117
  go_wp2_with (at_builtin; refine Lib.wpList_append_run _ rfl (.tmp 20) (.tmp 21) 50 3 rfl _ _ rfl rfl _ _ HR.out ?_)
  go_ret
  exact HE.out
theorem appT (w:World) (base:Nat) (v:Value) (n:Nat) (xs:List Value) (x:Value) (us:Ts) (h:w.ownsRow base 54 4 v n xs) (hs:RdT w x us) (hn:n+us.length≤1000000) (hB:base≤w.heap.size) (hx0:us.length=0→x=.slice none 0 0) :
  ∃ v' w',(Builtin.append_ #[50,50] 50 #[v,x]).run Tryz.prog w=.ok v' w'∧w'.ownsRow base 54 4 v' (n+us.length) (xs++tcs us)∧Fr v.ownBlock.toList w w':=by
 obtain ⟨i,hi,hz,hsize,hby⟩:=info_parts info30
 obtain ⟨p,c,rfl,hp⟩:=hs.at_
 by_cases h0:us.length=0
 ·rw [hx0 h0]
  have hu:us=[]:=List.length_eq_zero_iff.1 h0
  subst hu
  refine ⟨_,w,run_append_owned_none (P:=Tryz.prog) (w:=w) base 50 50 54 i 4 Tryz.underlying50 hi _ n xs h,?_,Fr.refl _ _⟩
  simpa [tcs] using h
 ·obtain ⟨b,off,rfl,hb,hc⟩:=hp (by omega)
  have hl:(tcs us).length=us.length * 4:=by
   have:∀ l:Ts,(tcs l).length=l.length * 4:=fun l=>by
    induction l with
    | nil=>rfl
    | cons y l ih =>
     rw [show tcs (y :: l)=tc y++tcs l by simp [tcs],List.length_append,ih,List.length_cons,show (tc y).length=4 from rfl]
     omega
   exact this us
  have hcell:∀ j u,(tcs us)[j]?=some u→w.cell? ((⟨b,off,none⟩:Addr).add j)=some u:=fun j u hj=>by
   have hjl:=(List.getElem?_eq_some_iff.1 hj).1
   have e:j=j / 4 * 4+j % 4:=by omega
   have hq:j / 4 < us.length:=by omega
   have hm:j % 4 < 4:=by omega
   rw [e,tcs_get us (j / 4) (j % 4) hq hm] at hj
   have ha:(⟨b,off,none⟩:Addr).add j=⟨b,off+(j / 4 * 4+j % 4),none⟩:=by
    unfold Addr.add
    split
    ·rename_i h; subst h; simp
    ·rw [← e]
   rw [ha]
   obtain ⟨q0,q1,q2,q3⟩:=hc (j / 4) hq
   have h4:j % 4=0∨j % 4=1∨j % 4=2∨j % 4=3:=by omega
   rcases h4 with h4 | h4 | h4 | h4
   ·rw [h4] at hj ⊢
    rw [← hj,Nat.add_zero]
    exact q0
   ·rw [h4] at hj ⊢
    rw [← hj,← Nat.add_assoc]
    exact q1
   ·rw [h4] at hj ⊢
    rw [← hj,← Nat.add_assoc]
    exact q2
   ·rw [h4] at hj ⊢
    rw [← hj,← Nat.add_assoc]
    exact q3
  have hone:∀ u∈tcs us,u.oneCell'=true:=fun u hu=>by
   simp only [tcs,List.mem_flatMap] at hu
   obtain ⟨y,_,hy⟩:=hu
   simp only [tc,List.mem_cons,List.not_mem_nil,or_false] at hy
   rcases hy with rfl | rfl | rfl | rfl <;> rfl
  obtain ⟨v',w',hr,h2,h3,_⟩:=run_append_own_wide (P:=Tryz.prog) w base 50 50 54 i _ 4 40 Tryz.underlying50 hi hz hsize hby rfl (by decide) _ _ _ h ⟨b,off,none⟩ us.length c (tcs us) hl hcell hone (by unfold maxLen; omega) (by omega) hB
  exact ⟨v',w',hr,h2,Fr.grown h3 (fun k hk=>by rw [hk]; simp)⟩
theorem bl_own {w wz W2:World} {e sz n:Nat} {q:Value} {xs:List Value} (hb:Bl w wz) (ho:wz.ownsRow w.heap.size e sz q n xs) (f2:Fr q.ownBlock.toList wz W2):Bl w W2 :=
 ((Fr.ofBl hb []).trans f2 (fun b hb2=>Or.inr (own_lt ho b (by simpa using hb2)).1)).bl (by simp)
theorem concat_ok (va vb:Value) (xa xb:Ts) (Bx:Nat) (w:World) (hb:w.heap[Bx]?=some (.cells #[va,vb] 50 (0,0))) (ha:RdT w va xa) (hbs:RdT w vb xb) (a0:xa.length=0→va=.slice none 0 0) (b0:xb.length=0→vb=.slice none 0 0) (la:xa.length≤4097) (lb:xb.length≤4097) :
  Calls Tryz.prog 84 #[.slice (some ⟨Bx,0,none⟩) 2 2] w fun e w'=>Bl w w'∧∃ v,e=.returned v∧w'.ownsRow w.heap.size 54 4 v (xa.length+xb.length) (tcs (xa++xb)):=by
 obtain ⟨pa,ca,rfl,_⟩:=ha.at_
 obtain ⟨pb,cb,rfl,_⟩:=hbs.at_
 have HB:=mkHid hb
 have HA:=mkHid ha
 have HBs:=mkHid hbs
 have HA0:=mkHid a0
 have HB0:=mkHid b0
 have c0:w.cell? ⟨Bx,0,none⟩=some (.slice pa xa.length ca):=by rw [cell_in hb]; rfl
 have c1:w.cell? ⟨Bx,1,none⟩=some (.slice pb xb.length cb):=by rw [cell_in hb]; rfl
 have HG:=mkHid (fun n hn V=>growT_ok n hn V)
 clear hb ha hbs a0 b0
 go_enter Tryz.func84,Tryz.ntmps84
 go_wp2_with fail
 go_loopw [3,11] (fun q i wr=>w=wr∧∃ j:Nat,j≤2∧i=.int .i64 j∧q=.int .i64 ((if j=0 then 0 else if j=1 then xa.length else xa.length+xb.length:Nat):Int)) (fun _ i _=>2 - (intOf i).toNat)
 case atStart=>exact ⟨rfl,0,by decide,rfl,rfl⟩
 case round =>
  obtain ⟨rfl,j,hj,rfl,rfl⟩:=hrel
  have h4:j=0∨j=1∨j=2:=by omega
  rcases h4 with rfl | rfl | rfl
  ·simp only [if_true]
   go_wp2_with fail
   go_roundw
   case rel=>exact ⟨by trivial,1,by decide,rfl,by simp⟩
   case measure=>simp [intOf]
  ·simp only [if_true,Nat.one_ne_zero,if_false]
   go_wp2_with fail
   go_roundw
   case rel=>exact ⟨by trivial,2,by decide,rfl,by simp⟩
   case measure=>simp [intOf]
  ·simp only [show ¬ (2=0) by decide,show ¬ (2=1) by decide,if_false]
   have e9:((xa.length+xb.length:Nat):Int)=(xa.length:Int)+xb.length:=by omega
   generalize hN:xa.length+xb.length=N at *
   have HN:=mkHid hN
   have hNb:N≤100000:=by omega
   clear e9 hN hj
   go_wp2_with (go_at_call 117; refine (HG.out N hNb _).mono ?_; rintro e w1 ⟨b1,v1,rfl,o1⟩; have B1:=mkHid b1; have O1:=mkHid o1; clear b1 o1)
   clear HG
   go_loopw [6,27] (fun q i wz=>∃ (j:Nat) (l:Ts),j≤2∧i=.int .i64 j∧l=(if j=0 then [] else if j=1 then xa else xa++xb)∧Hid (wz.ownsRow w.heap.size 54 4 q l.length (tcs l))∧Hid (Bl w wz)) (fun _ i _=>2 - (intOf i).toNat)
   case atStart=>exact ⟨0,[],by decide,rfl,rfl,O1,B1⟩
   case round =>
    clear B1 O1
    obtain ⟨j,l,hj,rfl,hl,ho,hb⟩:=hrel
    have HL:=mkHid hl
    clear hl
    have h4:j=0∨j=1∨j=2:=by omega
    rcases h4 with rfl | rfl | rfl
    ·have hl:l=[]:=HL.out
     subst hl
     obtain ⟨v2,W2,r2,o2,f2⟩:=appT wr w.heap.size u6 0 [] _ xa ho.out (HA.out.keep hb.out) (by omega) hb.out.size HA0.out
     have R2:=mkHid r2
     rw [Nat.zero_add,List.nil_append] at o2
     have O2:=mkHid o2
     have B2:Hid (Bl w W2):=mkHid (bl_own hb.out ho.out f2)
     have k0:wr.cell? ⟨Bx,0,none⟩=some (.slice pa xa.length ca):=by rw [cell_in ((hb.out.block _ (lt_of_heap HB.out)).trans HB.out)]; rfl
     obtain ⟨pq,cq,rfl⟩:=own_slice ho.out
     clear r2 o2 f2 hj
     go_wp2_with (at_builtin; refine Lib.wpList_append_run _ rfl (.tmp 31) (.tmp 32) 50 50 rfl _ _ rfl rfl _ _ R2.out ?_)
     go_roundw
     case rel=>exact ⟨1,xa,by decide,rfl,rfl,O2,B2⟩
     case measure=>simp [intOf]
    ·have hl:l=xa:=HL.out
     subst hl
     obtain ⟨v2,W2,r2,o2,f2⟩:=appT wr w.heap.size u6 l.length (tcs l) _ xb ho.out (HBs.out.keep hb.out) (by omega) hb.out.size HB0.out
     have R2:=mkHid r2
     have O2:Hid (W2.ownsRow w.heap.size 54 4 v2 (l++xb).length (tcs (l++xb))):=mkHid (by rw [List.length_append,show tcs (l++xb)=tcs l++tcs xb by simp [tcs]]; exact o2)
     have B2:Hid (Bl w W2):=mkHid (bl_own hb.out ho.out f2)
     have k0:wr.cell? ⟨Bx,1,none⟩=some (.slice pb xb.length cb):=by rw [cell_in ((hb.out.block _ (lt_of_heap HB.out)).trans HB.out)]; rfl
     obtain ⟨pq,cq,rfl⟩:=own_slice ho.out
     clear r2 o2 f2 hj
     go_wp2_with (at_builtin; refine Lib.wpList_append_run _ rfl (.tmp 31) (.tmp 32) 50 50 rfl _ _ rfl rfl _ _ R2.out ?_)
     go_roundw
     case rel=>exact ⟨2,l++xb,by decide,rfl,rfl,O2,B2⟩
     case measure=>simp [intOf]
    ·have hl:l=xa++xb:=HL.out
     subst hl
     clear hj
     go_wp2_with fail
     go_ret
     exact ⟨hb.out,_,rfl,by rw [← List.length_append]; exact ho.out⟩
end Go.Proofs.YtfhkhmgodkheaaaGreatDoor
namespace Go.Proofs.YtfhkhmgodkheaaaGreatDoor
open Go.RowKit Go.Maps
theorem infoS:(Tryz.prog.info? 9).map (fun i=>(i.zero,i.size,i.bytes))=some (some (.string ⟨#[]⟩),1,16):=by kernel_rfl
theorem infoI:(Tryz.prog.info? 3).map (fun i=>(i.zero,i.size,i.bytes))=some (some (.int .i64 0),1,8):=by kernel_rfl
theorem own_ne {w:World} {b1 b2 e1 e2 s1 s2 n1 n2:Nat} {v1 v2:Value} {x1 x2:List Value} (h1:w.ownsRow b1 e1 s1 v1 n1 x1) (h2:w.ownsRow b2 e2 s2 v2 n2 x2) (he:e1≠e2):∀ g,v1.ownBlock=some g→v2.ownBlock=some g→False:=by
 intro g k1 k2
 rcases h1.2 with ⟨rfl,_⟩ | ⟨g1,c1,u1,rfl,_,q1,_⟩
 ·cases k1
 rcases h2.2 with ⟨rfl,_⟩ | ⟨g2,c2,u2,rfl,_,q2,_⟩
 ·cases k2
 have e1':g1=g:=by simpa [Value.ownBlock] using k1
 have e2':g2=g:=by simpa [Value.ownBlock] using k2
 subst e1'
 subst e2'
 rw [q1] at q2
 injection q2 with q2
 injection q2 with q3 q4
 exact he q4
structure Tl (w wr:World) (us:Ts) (vc vn vp:Value) (j:Nat):Prop where
 bl:Bl w wr
 src:wr.ownsRow w.heap.size 54 4 vc us.length (tcs us)
 nm:RowZ wr 9 1 w.heap.size vn j ((us.take j).map fun x=>.string (ba x.1.text))
 pl:RowZ wr 3 1 w.heap.size vp j ((us.take j).map fun x=>.int .i64 (x.2:Nat))
theorem take_snoc (us:Ts) (j:Nat) (h:j < us.length):us.take (j+1)=us.take j++[us.getD j noTk]:=by
 rw [List.take_add_one,List.getD_eq_getElem?_getD,List.getElem?_eq_getElem h]; rfl
theorem fr_mem {w w':World} {p:Option Addr} {n c:Nat} {e sz base m:Nat} {v:Value} {xs:List Value} (f:Fr (blk p) w w') (h:w.ownsRow base e sz v m xs) (hn:∀ g,(Value.slice p n c).ownBlock=some g→v.ownBlock=some g→False):w'.ownsRow base e sz v m xs :=
 own_congr h (fun g hg=>f.block g (own_lt h g hg).2 (fun hm=>hn g ((blk_own p n c g).1 hm) hg))
theorem told_ok (va vb:Value) (xa xb:Ts) (w:World) (ha:RdT w va xa) (hb:RdT w vb xb) (a0:xa.length=0→va=.slice none 0 0) (b0:xb.length=0→vb=.slice none 0 0) (la:xa.length≤4097) (lb:xb.length≤4097) :
  Calls Tryz.prog 58 #[va,vb] w fun e w'=>Bl w w'∧∃ vn vp,e=.returned (.tuple #[vn,vp])∧RowZ w' 9 1 w.heap.size vn (xa++xb).length ((xa++xb).map fun x=>.string (ba x.1.text))∧RowZ w' 3 1 w.heap.size vp (xa++xb).length ((xa++xb).map fun x=>.int .i64 (x.2:Nat)):=by
 obtain ⟨pa,ca,rfl,_⟩:=ha.at_
 obtain ⟨pb,cb,rfl,_⟩:=hb.at_
 obtain ⟨w0,hW0⟩:∃ X,w.alloc (.cells #[.slice pa xa.length ca,.slice pb xb.length cb] 50)=X:=⟨_,rfl⟩
 have b0':Bl w w0:=hW0▸Bl.alloc _ _
 have HC:=mkHid (concat_ok _ _ xa xb w.heap.size w0 (hW0▸heap_alloc_new w _) (ha.keep b0') (hb.keep b0') a0 b0 la lb)
 have HB:=mkHid b0'
 obtain ⟨us,hus⟩:∃ us,xa++xb=us:=⟨_,rfl⟩
 have hul:xa.length+xb.length=us.length:=by rw [← hus,List.length_append]
 rw [hus,hul] at HC
 rw [hus]
 have hlu:us.length≤8194:=by omega
 clear ha hb a0 b0 b0' hus hul
 go_enter Tryz.func58,Tryz.ntmps58
 go_wp2_with (go_at_call 84; refine HC.out.mono ?_; rintro e w1 ⟨b1,vc,rfl,o1⟩; obtain ⟨pc,cc,rfl⟩:=own_slice o1; have T0:Hid (Tl w w1 us (.slice pc us.length cc) (.slice none 0 0) (.slice none 0 0) 0):=mkHid ⟨HB.out.trans b1,ownR_base o1 HB.out.size,⟨World.ownsRow_nil _ _ _ _,fun _=>rfl⟩,⟨World.ownsRow_nil _ _ _ _,fun _=>rfl⟩⟩; clear b1 o1)
 go_loopw [4,5,13] (fun q4 q5 i wr=>∃ j:Nat,j≤us.length∧i=.int .i64 j∧Hid (Tl w wr us (.slice pc us.length cc) q4 q5 j)) (fun _ _ i _=>us.length - (intOf i).toNat)
 case atStart=>exact ⟨0,Nat.zero_le _,rfl,T0⟩
 case round =>
  clear T0 HC
  obtain ⟨j,hj,rfl,hT⟩:=hrel
  have j0:(0:Int)≤(j:Int):=by omega
  obtain ⟨pn,cn,en⟩:=own_slice hT.out.nm.1
  obtain ⟨pp,cp,ep⟩:=own_slice hT.out.pl.1
  subst en
  subst ep
  by_cases hlt:j < us.length
  ·have i3:(j:Int) < (us.length:Int):=by omega
   obtain ⟨gc,ec,q1,q2,q3,q4⟩:=row_at hT.out.src (by omega)
   subst ec
   obtain ⟨y0,y1,y2,y3⟩:=(RdT.own hT.out.src).cells j hlt
   rw [show noT=noTk from rfl] at y0 y1 y2 y3
   have hts:=take_snoc us j hlt
   generalize us.getD j noTk=x at *
   obtain ⟨⟨tk,tt,tn⟩,tp⟩:=x
   dsimp only at y0 y1 y2 y3
   obtain ⟨W1,hW1⟩:∃ X,wr.alloc (.cells #[.int .i64 tk,.string (ba tt),.int .i64 tn,.int .i64 tp] 54)=X:=⟨_,rfl⟩
   have b1:Bl wr W1:=hW1▸Bl.alloc _ _
   have g1:W1.heap[wr.heap.size]?=some (.cells #[.int .i64 tk,.string (ba tt),.int .i64 tn,.int .i64 tp] 54 (0,0)):=hW1▸heap_alloc_new wr _
   obtain ⟨z0,z1,z2,z3⟩:=cells4 g1
   have on:=own_congr hT.out.nm.1 (w':=W1) (fun g hg=>b1.block g (own_lt hT.out.nm.1 g hg).2)
   have op:=own_congr hT.out.pl.1 (w':=W1) (fun g hg=>b1.block g (own_lt hT.out.pl.1 g hg).2)
   have oc:=own_congr hT.out.src (w':=W1) (fun g hg=>b1.block g (own_lt hT.out.src g hg).2)
   have hbz:=hT.out.bl.size
   have hbz1:=b1.size
   obtain ⟨pn2,cn2,W2,r2,o2,f2⟩:=pushS Tryz.underlying23 infoS rfl (by decide) W1 w.heap.size pn cn j _ [.string (ba tt)] rfl on (by simp [Value.oneCell']) (by unfold maxLen; omega) (by omega) (by omega)
   have f2':Fr (blk pn) W1 W2:=by
    rcases f2 with ⟨_,_,h⟩ | ⟨h,_⟩
    ·exact h
    ·exact h.mono (by simp)
   have op2:=fr_mem (n:=j) (c:=cn) f2' op (own_ne on op (by decide))
   have oc2:=fr_mem (n:=j) (c:=cn) f2' oc (own_ne on oc (by decide))
   have hbz2:=f2'.size
   obtain ⟨pp2,cp2,W3,r3,o3,f3⟩:=pushS Tryz.underlying24 infoI rfl (by decide) W2 w.heap.size pp cp j _ [.int .i64 tp] rfl op2 (by simp [Value.oneCell']) (by unfold maxLen; omega) (by omega) (by omega)
   have f3':Fr (blk pp) W2 W3:=by
    rcases f3 with ⟨_,_,h⟩ | ⟨h,_⟩
    ·exact h
    ·exact h.mono (by simp)
   have on3:=fr_mem (n:=j) (c:=cp) f3' o2 (own_ne op2 o2 (by decide))
   have oc3:=fr_mem (n:=j) (c:=cp) f3' oc2 (own_ne op2 oc2 (by decide))
   have bn:∀ b∈blk pn,w.heap.size≤b:=fun b hb=>(own_lt on b ((blk_own pn _ _ b).1 hb)).1
   have bp:∀ b∈blk pp,w.heap.size≤b:=fun b hb=>(own_lt op b ((blk_own pp _ _ b).1 hb)).1
   have T3:Hid (Tl w W3 us (.slice (some ⟨gc,0,none⟩) us.length cc) (.slice pn2 (j+1) cn2) (.slice pp2 (j+1) cp2) (j+1)):=mkHid ⟨((((Fr.ofBl hT.out.bl []).trans (Fr.ofBl b1 []) (by simp)).trans f2' (fun b hb=>Or.inr (bn b hb))).trans f3' (fun b hb=>Or.inr (bp b hb))).bl (by simp),oc3,⟨by rw [hts,List.map_append]; exact on3,fun h=>by omega⟩,⟨by rw [hts,List.map_append]; exact o3,fun h=>by omega⟩⟩
   have R2:=mkHid r2
   have R3:=mkHid r3
   have k3:W2.cell? ⟨wr.heap.size,3,none⟩=some (.int .i64 tp):=by
    have hg2:W2.heap[wr.heap.size]?=some (.cells #[.int .i64 tk,.string (ba tt),.int .i64 tn,.int .i64 tp] 54 (0,0)):=(f2'.block _ (lt_of_heap g1) (fun hm=>by
     have h9:=(blk_own pn j cn _).1 hm
     have h8:=(own_lt hT.out.nm.1 _ h9).2
     omega)).trans g1
    rw [cell_in hg2]; rfl
   clear hT on op oc r2 r3 o2 o3 f2 f3 f2' f3' op2 oc2 on3 oc3 bn bp b1 g1 q1 q2 q3 q4 hts hbz hbz1 hbz2 hj
   go_wp2_with (at_builtin; first | (refine Lib.wpList_append_run _ rfl (.tmp 17) (.tmp 20) 23 23 rfl _ _ rfl rfl _ _ R2.out ?_) | (refine Lib.wpList_append_run _ rfl (.tmp 22) (.tmp 25) 24 24 rfl _ _ rfl rfl _ _ R3.out ?_))
   go_roundw
   case rel=>exact ⟨j+1,by omega,by go_num,T3⟩
   case measure=>simp [intOf]; omega
  ·have i3:¬ (j:Int) < (us.length:Int):=by omega
   have hje:j=us.length:=by omega
   subst hje
   have HT:=hT
   clear hT hj hlt
   go_wp2_with fail
   refine bodyPost_ret (v:=.tuple #[.slice pn us.length cn,.slice pp us.length cp]) (by simp [results,Tryz.results58,go_sem]) rfl ?_
   have h1:=HT.out.nm
   have h2:=HT.out.pl
   rw [List.take_length] at h1 h2
   exact ⟨HT.out.bl,_,_,rfl,h1,h2⟩
def PostTs (P g c:Nat) (ts:Ts) (w:World) (r:Rs Ts) (e:Ending) (w':World):Prop:=Fr [P] w w'∧match r with
 | .ok l s'=>∃ v,e=.returned v∧RowZ w' 54 4 w.heap.size v l.length (tcs l)∧Pr w' P g c ts s'
 | .bad x=>e=.panicked [{ v:=thrown x,recovered:=false }]
theorem clo188_ok (P g c:Nat) (ts:Ts) (bp:Nat) (s:Ps) (W:World) (h:Pr W P g c ts s) (hok:Okq ts s) (hb:Box W bp (.pointer (some ⟨P,0,none⟩)) 62):Calls Tryz.prog 188 #[.pointer (some ⟨bp,0,none⟩)] W (PostT P g c ts W (needP ts 1 s)):=by
 have hB:=Bl.alloc W (.cells #[.int .i64 0,.string ⟨#[]⟩,.int .i64 0,.int .i64 0] 54)
 have c0:=(hb.bl hB).cell
 have HD:=mkHid (need_ok P g c ts s 1 _ (h.keep hB) hok.ok hok.lt)
 have hres:=mkHid (heap_alloc_new W (.cells #[.int .i64 0,.string ⟨#[]⟩,.int .i64 0,.int .i64 0] 54))
 have hlp:=h.lt
 have hgl:=h.glt (by have:=hok.lt; omega)
 clear h hok hB hb
 cases en:needP ts 1 s with
 | bad y =>
  rw [en] at HD
  go_enter Tryz.func188,Tryz.ntmps188
  go_wp2_with (go_at_call 57; refine HD.out.mono ?_; rintro e w4 ⟨f4,rfl⟩; have F4:=mkHid (fr_tr (Fr.alloc [P] W (.cells #[.int .i64 0,.string ⟨#[]⟩,.int .i64 0,.int .i64 0] 54)) f4); clear f4)
  exact ⟨rfl,F4.out,rfl⟩
 | ok y s1 =>
  rw [en] at HD
  obtain ⟨⟨yk,yt,yn⟩,yp⟩:=y
  unfold tkv at HD
  dsimp only at HD
  go_enter Tryz.func188,Tryz.ntmps188
  go_wp2_with (first
   | (
    go_at_call 57; refine HD.out.mono ?_; rintro e w9 ⟨f9,rfl,p9⟩
    have F9:=mkHid (fr_tr (Fr.alloc [P] W (.cells #[.int .i64 0,.string ⟨#[]⟩,.int .i64 0,.int .i64 0] 54)) f9)
    have P9:=mkHid p9
    have r9:Hid (w9.heap[W.heap.size]?=some (.cells #[.int .i64 0,.string ⟨#[]⟩,.int .i64 0,.int .i64 0] 54 (0,0))):=mkHid ((f9.block _ (by simp) (by simp; omega)).trans hres.out)
    clear f9 p9)
   | (refine wpList_store_row rfl 54 _ _ rfl W.heap.size #[.int .i64 yk,.string (ba yt),.int .i64 yn,.int .i64 yp] rfl rfl 54 _ r9.out (by kernel_rfl) rfl (by kernel_rfl) ?_))
  refine ret54g Tryz.results188 (B:=W.heap.size) (setRow_heap _ _ _ _ 54 (0,0) r9.out) rfl ?_
  have fb:=row_fr w9 W.heap.size #[.int .i64 yk,.string (ba yt),.int .i64 yn,.int .i64 yp]
  exact ⟨F9.out.trans fb (fun b hb=>Or.inr (by simp at hb; omega)),rfl,P9.out.other fb (by simp; omega) (by simp; omega)⟩
theorem clo56_ok (P g c:Nat) (ts:Ts) (bp:Nat) (s:Ps) (W:World) (k:Nat) (h:Pr W P g c ts s) (hok:Okq ts s) (hb:Box W bp (.pointer (some ⟨P,0,none⟩)) 62):Calls Tryz.prog 56 #[.int .i64 k,.pointer (some ⟨bp,0,none⟩)] W (PostT P g c ts W (needP ts 1 s)):=by
 have hB:=Bl.alloc W (.cells #[.int .i64 0,.string ⟨#[]⟩,.int .i64 0,.int .i64 0] 54)
 have c0:=(hb.bl hB).cell
 have HD:=mkHid (need_ok P g c ts s 1 _ (h.keep hB) hok.ok hok.lt)
 have hres:=mkHid (heap_alloc_new W (.cells #[.int .i64 0,.string ⟨#[]⟩,.int .i64 0,.int .i64 0] 54))
 have hlp:=h.lt
 have hgl:=h.glt (by have:=hok.lt; omega)
 clear h hok hB hb
 cases en:needP ts 1 s with
 | bad y =>
  rw [en] at HD
  go_enter Tryz.func56,Tryz.ntmps56
  go_wp2_with (go_at_call 57; refine HD.out.mono ?_; rintro e w4 ⟨f4,rfl⟩; have F4:=mkHid (fr_tr (Fr.alloc [P] W (.cells #[.int .i64 0,.string ⟨#[]⟩,.int .i64 0,.int .i64 0] 54)) f4); clear f4)
  exact ⟨rfl,F4.out,rfl⟩
 | ok y s1 =>
  rw [en] at HD
  obtain ⟨⟨yk,yt,yn⟩,yp⟩:=y
  unfold tkv at HD
  dsimp only at HD
  go_enter Tryz.func56,Tryz.ntmps56
  go_wp2_with (first
   | (
    go_at_call 57; refine HD.out.mono ?_; rintro e w9 ⟨f9,rfl,p9⟩
    have F9:=mkHid (fr_tr (Fr.alloc [P] W (.cells #[.int .i64 0,.string ⟨#[]⟩,.int .i64 0,.int .i64 0] 54)) f9)
    have P9:=mkHid p9
    have r9:Hid (w9.heap[W.heap.size]?=some (.cells #[.int .i64 0,.string ⟨#[]⟩,.int .i64 0,.int .i64 0] 54 (0,0))):=mkHid ((f9.block _ (by simp) (by simp; omega)).trans hres.out)
    clear f9 p9)
   | (refine wpList_store_row rfl 54 _ _ rfl W.heap.size #[.int .i64 yk,.string (ba yt),.int .i64 yn,.int .i64 yp] rfl rfl 54 _ r9.out (by kernel_rfl) rfl (by kernel_rfl) ?_))
  refine ret54g Tryz.results56 (B:=W.heap.size) (setRow_heap _ _ _ _ 54 (0,0) r9.out) rfl ?_
  have fb:=row_fr w9 W.heap.size #[.int .i64 yk,.string (ba yt),.int .i64 yn,.int .i64 yp]
  exact ⟨F9.out.trans fb (fun b hb=>Or.inr (by simp at hb; omega)),rfl,P9.out.other fb (by simp; omega) (by simp; omega)⟩
theorem temporaries_ok (ts:Ts) (f:Nat):∀ P g c s w r,Pr w P g c ts s→Okq ts s→temporariesP ts f s=some r→Calls Tryz.prog 59 #[.pointer (some ⟨P,0,none⟩)] w (PostTs P g c ts w r):=by
 intro P g c s w r h hok hr
 have hpl:=h.lt
 have hbp:P≠w.heap.size:=by omega
 obtain ⟨w0,hW0⟩:∃ X,w.alloc (.cells #[.pointer (some ⟨P,0,none⟩)] 62)=X:=⟨_,rfl⟩
 have B0:Hid (Bl w w0):=mkHid (hW0▸Bl.alloc _ _)
 have HB0:Hid (Box w0 w.heap.size (.pointer (some ⟨P,0,none⟩)) 62):=mkHid (hW0▸heap_alloc_new w _)
 have x0:=HB0.out.cell
 have PR0:=mkHid (h.keep B0.out)
 have HS:=mkHid (fun V p=>skip_ok P g c ts s 12 V p hok.ok hok.lt)
 unfold temporariesP at hr
 cases hst:standsP ts 12 s with
 | false =>
  have hsk:skipP ts 12 s=(false,s):=by unfold skipP; rw [hst]; simp
  rw [hsk] at hr HS
  injection hr with hr
  subst hr
  clear h hok hst hsk
  go_enter Tryz.func59,Tryz.ntmps59
  go_wp2_with (go_at_call 85; refine (HS.out _ PR0.out).mono ?_; rintro e w1 ⟨rfl,p1,f1⟩; have P1:=mkHid p1; have F1:=mkHid (fr_tr (bl_fr B0.out) f1); have X1:=mkHid (HB0.out.fr f1 (by simpa using fun e=>hbp e.symm)); have x1:=X1.out.cell; clear p1 f1)
  go_ret
  exact ⟨F1.out,_,rfl,⟨World.ownsRow_nil _ _ _ _,fun _=>rfl⟩,P1.out⟩
 | true =>
  have hsk:skipP ts 12 s=(true,takeP ts s):=by unfold skipP; rw [hst]; simp
  rw [hsk] at hr HS
  have hq:=hok.take (by rw [stands_kind hst]; decide)
  have hr2:(bindP (listA ts 0 (fun s=>(standsP ts 1 s,s)) (fun _ s=>some (.ok (hdT ts s) (takeP ts s))) f [] (takeP ts s)) fun l s2=>match needP ts 12 s2 with
   | .bad x=>some (.bad x)
   | .ok _ s3=>some (.ok l s3))=some r:=hr
  cases el:listA ts 0 (fun s=>(standsP ts 1 s,s)) (fun _ s=>some (.ok (hdT ts s) (takeP ts s))) f [] (takeP ts s) with
  | none=>rw [el] at hr2; cases hr2
  | some rl =>
   rw [el] at hr2
   have HL:=mkHid (fun V (p:Pr V P g c ts (takeP ts s)) (b:Box V w.heap.size (.pointer (some ⟨P,0,none⟩)) 62)=>listT_ok (fun x:Tok × Nat=>x) P [g,w.heap.size] ts 0 (fun s=>(standsP ts 1 s,s)) (fun _ s=>some (.ok (hdT ts s) (takeP ts s))) (by decide) (fun s hs=>⟨Nat.le_refl _,hs⟩) (fun acc s hs hth=>Pg.tk (Pq.ok (hs.take (by rw [stands_kind hth]; decide)))) (I1 P g c ts w.heap.size) I1.ok 87 80 #[] #[.pointer (some ⟨w.heap.size,0,none⟩)] #[.pointer (some ⟨P,0,none⟩)] #[] (ent 87 _ _ Tryz.func87 (by kernel_rfl) rfl) (ent 80 _ _ Tryz.func80 (by kernel_rfl) rfl)
    (fun W F acc s i=>by rw [show (#[]:Array Value)++#[.pointer (some ⟨w.heap.size,0,none⟩)]=#[.pointer (some ⟨w.heap.size,0,none⟩)] by simp]; exact clo87_ok W F acc s i)
    (fun W F acc s r i hs hth _ e=>by
     rw [show #[.pointer (some ⟨P,0,none⟩)]++(#[]:Array Value)=#[.pointer (some ⟨P,0,none⟩)] by simp]
     injection e with e
     subst e
     refine (take_ok P g c ts s W i.1 i.2.1.ok i.2.1.lt).mono (fun e' w' q=>?_)
     obtain ⟨q1,q2,q3⟩:=q
     refine ⟨by rw [i.2.2.1]; exact q3,F,q1,i.go q3 hbp q2 (i.2.1.take (by rw [stands_kind hth]; decide)),fun b hb=>Or.inl hb⟩)
    (fun W F acc s i=>I1.skip hbp 0 (by decide) W F acc s i) f (takeP ts s) V [P] ⟨p,hq,rfl,b⟩ rl el)
   cases rl with
   | bad x =>
    injection hr2 with hr2
    subst hr2
    clear h hok hst hsk hq el hr
    go_enter Tryz.func59,Tryz.ntmps59
    go_wp2_with (first
     | (go_at_call 85; refine (HS.out _ PR0.out).mono ?_; rintro e w1 ⟨rfl,p1,f1⟩; have P1:=mkHid p1; have F1:=mkHid (fr_tr (bl_fr B0.out) f1); have X1:=mkHid (HB0.out.fr f1 (by simpa using fun e=>hbp e.symm)); have x1:=X1.out.cell; clear p1 f1)
     | (go_at_call 86; refine (HL.out _ P1.out X1.out).mono ?_; rintro e w2 ⟨f2,rfl⟩; have F2:=mkHid (fr_tr F1.out f2); clear f2))
    exact ⟨rfl,F2.out,rfl⟩
   | ok l s2 =>
    have hq2:=((listA_pg (α:=Tok × Nat) (there:=fun s=>(standsP ts 1 s,s)) (one:=fun _ s=>some (.ok (hdT ts s) (takeP ts s))) (btw:=0) (by decide) (fun s hs=>⟨Nat.le_refl _,hs⟩) (fun acc s hs hth=>Pg.tk (Pq.ok (hs.take (by rw [stands_kind hth]; decide)))) f [] _ hq).1 l s2 el).2
    have hr3:(match needP ts 12 s2 with | .bad x=>some (.bad x) | .ok _ s3=>some (.ok l s3))=some r:=hr2
    have HD:=mkHid (fun V p=>need_ok P g c ts s2 12 V p hq2.ok hq2.lt)
    cases en:needP ts 12 s2 with
    | bad y =>
     rw [en] at hr3 HD
     injection hr3 with hr3
     subst hr3
     clear h hok hst hsk hq el hr hr2 hq2 en
     go_enter Tryz.func59,Tryz.ntmps59
     go_wp2_with (first
      | (go_at_call 85; refine (HS.out _ PR0.out).mono ?_; rintro e w1 ⟨rfl,p1,f1⟩; have P1:=mkHid p1; have F1:=mkHid (fr_tr (bl_fr B0.out) f1); have X1:=mkHid (HB0.out.fr f1 (by simpa using fun e=>hbp e.symm)); have x1:=X1.out.cell; clear p1 f1)
      | (go_at_call 86; refine (HL.out _ P1.out X1.out).mono ?_; rintro e w2 ⟨f2,v,F',rfl,l2⟩; have F2:=mkHid (fr_tr F1.out f2); have L2:=mkHid l2; have x2:=l2.inv.2.2.2.cell; clear f2 l2)
      | (go_at_call 57; refine (HD.out _ L2.out.inv.1).mono ?_; rintro e w4 ⟨f4,rfl⟩; have F4:=mkHid (fr_tr F2.out f4); clear f4))
     exact ⟨rfl,F4.out,rfl⟩
    | ok y s3 =>
     rw [en] at hr3 HD
     injection hr3 with hr3
     subst hr3
     clear h hok hst hsk hq el hr hr2 hq2 en
     go_enter Tryz.func59,Tryz.ntmps59
     go_wp2_with (first
      | (go_at_call 85; refine (HS.out _ PR0.out).mono ?_; rintro e w1 ⟨rfl,p1,f1⟩; have P1:=mkHid p1; have F1:=mkHid (fr_tr (bl_fr B0.out) f1); have X1:=mkHid (HB0.out.fr f1 (by simpa using fun e=>hbp e.symm)); have x1:=X1.out.cell; clear p1 f1)
      | (go_at_call 86; refine (HL.out _ P1.out X1.out).mono ?_; rintro e w2 ⟨f2,v,F',rfl,l2⟩; have F2:=mkHid (fr_tr F1.out f2); have L2:=mkHid l2; have x2:=l2.inv.2.2.2.cell; clear f2 l2)
      | (go_at_call 57; refine (HD.out _ L2.out.inv.1).mono ?_; rintro e w4 ⟨f4,rfl,p4⟩; have F4:=mkHid (fr_tr F2.out f4); have G4:=mkHid f4; have P4:=mkHid p4; clear f4 p4))
     go_ret
     obtain ⟨z1,z2⟩:=L2.out.ex
     have hw1:=F1.out.size
     rw [List.map_id'] at z1
     exact ⟨F4.out,v,rfl,⟨own_congr (ownR_base z1.1 hw1) (fun k hk=>G4.out.block k (own_lt z1.1 k hk).2 (by have:=(own_lt z1.1 k hk).1; simp; omega)),z1.2⟩,P4.out⟩
end Go.Proofs.YtfhkhmgodkheaaaGreatDoor
