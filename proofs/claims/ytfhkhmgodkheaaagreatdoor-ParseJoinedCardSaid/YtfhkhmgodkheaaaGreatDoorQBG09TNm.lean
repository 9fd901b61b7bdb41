import Derived.Test.YtfhkhmgodkheaaaGreatDoorQBG08LPrtW
import Derived.Test.YtfhkhmgodkheaaaGreatDoorQBG07PTree
import Derived.Test.YtfhkhmgodkheaaaGreatDoorRows
import Derived.OpenShut
import Derived.ChangeArms
import Derived.ProofKit
import Derived.WalkKit
import Derived.LaidMore
import Derived.Lay
import Derived.Lib.SmallJoins
import Derived.Stop.Joined
import Derived.SizedLaws
import Derived.Deep.DeepHandedRow
import Derived.JoinedCond
import Derived.ChangeMaps5
import Derived.Test.YtfhkhmgodkheaaaGreatDoorQBG04LKnown
set_option linter.unusedSimpArgs false
set_option linter.unusedVariables false
set_option maxRecDepth 1000000
set_option maxHeartbeats 16000000
namespace Go.Proofs.YtfhkhmgodkheaaaGreatDoor
open Go.RowKit Go.Maps
structure Env (w:World):Prop where
 tab:Tab w
 pw:Pw w
 knd:Knd w
theorem Env.mono {w w':World} (h:Env w) (b:Bl w w'):Env w':=⟨h.tab.mono b,h.pw.mono b,h.knd.mono b⟩
def twoZ (k:Nat) (t:Bs):List Z:=[((k:Int),t,0,0),(18,[],0,0)]
theorem two_good (k:Nat) (t:Bs) (hk:k≠18):goodZ (twoZ k t) ↔ canZ k t 0:=by
 unfold goodZ twoZ okAt
 constructor
 ·intro h
  simpa using (h 0 (by simp)).1
 ·intro h i hi
  have:i=0∨i=1:=by simp at hi; omega
  rcases this with rfl | rfl
  ·refine ⟨by simpa using h,?_⟩
   simp
   omega
  ·refine ⟨?_,by simp⟩
   simp [canZ]
theorem two_pr (k:Nat) (t:Bs):prZ (twoZ k t)=wr ⟨k,t,0⟩:=by
 unfold prZ twoZ
 simp [pr,tokOf]
theorem wr56_len (k:Nat) (t:Bs) (hk:k=5∨k=6):(wr ⟨k,t,0⟩).length≤2 * t.length+12:=by
 have hq:=qt_len t
 rcases hk with rfl | rfl
 ·show (35 :: t).length≤_
  simp
  omega
 ·show (39 :: (qt t++[39])).length≤_
  simp
  omega
def twoC (k:Nat) (t:Bs):Array Value:=#[.int .i64 k,.string (ba t),.int .i64 0,.int .i64 0,.int .i64 18,.string ⟨#[]⟩,.int .i64 0,.int .i64 0]
theorem two_rd (X:World) (k:Nat) (t:Bs):RdZ (X.alloc (.cells (twoC k t) 54)) X.heap.size 0 (twoZ k t):=by
 refine ⟨by simp,fun j hj=>?_⟩
 have hg:=heap_alloc_new X (.cells (twoC k t) 54)
 have:j=0∨j=1:=by simp [twoZ] at hj; omega
 rcases this with rfl | rfl
 ·refine ⟨?_,?_,?_,?_⟩ <;> (rw [cell_in hg]; rfl)
 ·refine ⟨?_,?_,?_,?_⟩ <;> (rw [cell_in hg]; rfl)
theorem two_pl (k:Nat) (t:Bs) (hk:k=5∨k=6) (ht:t.length≤268435456):∀ i,i < (twoZ k t).length→(pr (((twoZ k t).take i).map tokOf)).length≤1099511627776:=by
 intro i hi
 have:i=0∨i=1:=by simp [twoZ] at hi; omega
 rcases this with rfl | rfl
 ·simp [pr]
 ·have:=wr56_len k t hk
  simp [twoZ,pr,tokOf]
  omega
theorem two_print (k:Nat) (t:Bs) (X:World) (hE:Env (X.alloc (.cells (twoC k t) 54))) (hk:k=5∨k=6) (ht:t.length≤268435456):Calls Tryz.prog 160 #[.slice (some ⟨X.heap.size,0,none⟩) 2 2] (X.alloc (.cells (twoC k t) 54)) fun e w'=>((canZ k t 0∧e=.returned (.tuple #[.string (ba (wr ⟨k,t,0⟩)),.int .i64 0]))∨(¬ canZ k t 0∧e=.returned (.tuple #[.string ⟨#[]⟩,.int .i64 1])))∧Bl (X.alloc (.cells (twoC k t) 54)) w':=by
 have h:=print_ok X.heap.size 0 2 (twoZ k t) _ hE.tab hE.pw (two_rd X k t) (by simp [twoZ]) (by simp [twoZ]) (by simp [twoZ]) (by omega) (fun i hi=>by
  have:i=0∨i=1:=by simp [twoZ] at hi; omega
  rcases this with rfl | rfl <;> simp [twoZ]
  exact ht) (fun _=>two_pl k t hk ht)
 rw [two_good k t (by omega),two_pr] at h
 exact h
theorem wordOf_ok (k:Nat) (t:Bs) (w:World) (hE:Env w) (hk:k=5∨k=6) (ht:t.length≤268435456):Calls Tryz.prog 145 #[.agg #[.int .i64 k,.string (ba t),.int .i64 0,.int .i64 0]] w fun e w'=>((canZ k t 0∧e=.returned (.tuple #[.string (ba (wr ⟨k,t,0⟩)),.int .i64 0]))∨(¬ canZ k t 0∧e=.returned (.tuple #[.string ⟨#[]⟩,.int .i64 1])))∧Bl w w':=by
 obtain ⟨W1,hW1⟩:∃ X,w.alloc (.cells #[.int .i64 k,.string (ba t),.int .i64 0,.int .i64 0] 54)=X:=⟨_,rfl⟩
 have b1:Bl w W1:=hW1▸Bl.alloc _ _
 have s1:W1.heap.size=w.heap.size+1:=by rw [← hW1]; simp
 have H:=mkHid (two_print k t W1 (hE.mono (b1.trans (Bl.alloc _ _))) hk ht)
 rw [s1] at H
 unfold twoC at H
 have B1:=mkHid (b1.trans (Bl.alloc W1 (.cells #[.int .i64 k,.string (ba t),.int .i64 0,.int .i64 0,.int .i64 18,.string ⟨#[]⟩,.int .i64 0,.int .i64 0] 54)))
 rw [← hW1] at H B1
 generalize canZ k t 0=C at *
 clear hk ht hE b1 s1 hW1
 go_enter Tryz.func145,Tryz.ntmps145
 go_wp2_with (go_at_call 160; refine H.out.mono ?_; rintro e w1 ⟨hh,b2⟩; rcases hh with ⟨hc,rfl⟩ | ⟨hc,rfl⟩)
 all_goals go_ret2
 ·exact ⟨Or.inl ⟨hc,rfl⟩,B1.out.trans b2⟩
 ·exact ⟨Or.inr ⟨hc,rfl⟩,B1.out.trans b2⟩
theorem can5 (t:Bs):canZ (5:Nat) t 0 ↔ symB t=true:=by simp [canZ]
theorem can6 (t:Bs):canZ (6:Nat) t 0:=by simp [canZ]
theorem isSymbol_ok (t:Bs) (w:World) (hE:Env w) (ht:t.length≤268435456):Calls Tryz.prog 126 #[.string (ba t)] w fun e w'=>e=.returned (.bool (symOk t))∧Bl w w':=by
 have hsz:(ba t).size=t.length:=by rw [← lst_len,lst_ba]
 have H:=mkHid (wordOf_ok 5 t w hE (Or.inl rfl) ht)
 rw [can5] at H
 have hS:Hid (symOk t=(decide (((ba t).size:Int)≤96) && symB t)):=mkHid (by
  unfold symOk
  congr 1
  rw [Bool.eq_iff_iff]
  simp
  omega)
 generalize symB t=B at *
 generalize symOk t=S at *
 have hl:(((ba t).size:Int)≤96∧Hid (decide (((ba t).size:Int)≤96)=true))∨(¬ ((ba t).size:Int)≤96∧Hid (decide (((ba t).size:Int)≤96)=false)):=by
  by_cases h:((ba t).size:Int)≤96
  ·exact Or.inl ⟨h,mkHid (decide_eq_true h)⟩
  ·exact Or.inr ⟨h,mkHid (decide_eq_false h)⟩
 clear hsz ht hE
 cases B with
 | true =>
  rcases hl with ⟨hl,hd⟩ | ⟨hl,hd⟩
  ·go_enter Tryz.func126,Tryz.ntmps126
   go_wp2_with (go_at_call 145; refine H.out.mono ?_; rintro e w1 ⟨hh,b2⟩; rcases hh with ⟨hc,rfl⟩ | ⟨hc,rfl⟩; rotate_left; exact absurd rfl hc)
   go_ret
   exact ⟨by rw [hS.out,hd.out]; rfl,b2⟩
  ·go_enter Tryz.func126,Tryz.ntmps126
   go_wp2_with (go_at_call 145; refine H.out.mono ?_; rintro e w1 ⟨hh,b2⟩; rcases hh with ⟨hc,rfl⟩ | ⟨hc,rfl⟩; rotate_left; exact absurd rfl hc)
   go_ret
   exact ⟨by rw [hS.out,hd.out]; rfl,b2⟩
 | false =>
  rcases hl with ⟨hl,hd⟩ | ⟨hl,hd⟩
  ·go_enter Tryz.func126,Tryz.ntmps126
   go_wp2_with (go_at_call 145; refine H.out.mono ?_; rintro e w1 ⟨hh,b2⟩; rcases hh with ⟨hc,rfl⟩ | ⟨hc,rfl⟩; cases hc)
   go_ret
   exact ⟨by rw [hS.out,hd.out]; rfl,b2⟩
  ·go_enter Tryz.func126,Tryz.ntmps126
   go_wp2_with (go_at_call 145; refine H.out.mono ?_; rintro e w1 ⟨hh,b2⟩; rcases hh with ⟨hc,rfl⟩ | ⟨hc,rfl⟩; cases hc)
   go_ret
   exact ⟨by rw [hS.out,hd.out]; rfl,b2⟩
end Go.Proofs.YtfhkhmgodkheaaaGreatDoor
namespace Go.Proofs.YtfhkhmgodkheaaaGreatDoor
open Go.RowKit
theorem f75:∃ fa fb:Field,Tryz.prog.underlying 119=some (.struct #[fa,fb])∧fa.type=3∧fa.offset=0∧fb.type=9∧fb.offset=1:=⟨_,_,Tryz.underlying119,rfl,rfl,rfl,rfl⟩
theorem marks_datum:(Rows.laid_kiln_lex_marks:DataW Unit)=.agg (marksL.map fun x=>.agg [.lit (.int .i64 x.1),.lit (.string x.2)]):=by kernel_rfl
theorem marks_cells {w:World} {base:Nat} {spare:Nat→Bool} {held:Bool} {fuel:Nat} {cs:List Value} {p:List MemPlace} {enc:TypeId × Value→Unit}
  (hd:DataW.trod enc Tryz.prog w base spare held fuel 120 cs=some (Rows.laid_kiln_lex_marks,p)):∀ i,i < 11→cs[i * 2]?=some (.int .i64 (kdAt i))∧cs[i * 2+1]?=some (.string (ba (txAt i))):=by
 intro i hi
 rw [marks_datum] at hd
 have c75:Tryz.prog.cellsOf 119=2:=by kernel_rfl
 have c3:Tryz.prog.cellsOf 3=1:=by kernel_rfl
 have c9:Tryz.prog.cellsOf 9=1:=by kernel_rfl
 obtain ⟨xs,m,_,hx,_,hn,hel⟩:=DataW.trod_array Tryz.underlying120 hd
 simp only [Prod.mk.injEq,DataW.agg.injEq] at hx
 have h:=hel i hi
 rw [c75] at h
 have hxi:xs[i]?=some (xs[i]'(by omega)):=List.getElem?_eq_getElem (by omega)
 rw [hxi] at h
 generalize hxe:xs[i]'(by omega)=x at *
 have hm:(marksL.map fun x=>DataW.agg (H:=Unit) [.lit (.int .i64 x.1),.lit (.string x.2)])[i]?=some x.1:=by rw [hx.1,List.getElem?_map,hxi]; rfl
 have hml:marksL[i]?=some (kdAt i,txAt i):=by
  have hcase:i=0∨i=1∨i=2∨i=3∨i=4∨i=5∨i=6∨i=7∨i=8∨i=9∨i=10:=by omega
  rcases hcase with rfl | rfl | rfl | rfl | rfl | rfl | rfl | rfl | rfl | rfl | rfl <;> rfl
 rw [List.getElem?_map,hml] at hm
 simp only [Option.map_some,Option.some.injEq] at hm
 obtain ⟨fa,fb,hs,a1,a2,a3,a4⟩:=f75
 obtain ⟨ys,n,_,hy,_,hyn,hfe⟩:=DataW.trod_struct hs h
 have g0:=hfe 0 fa rfl
 have g1:=hfe 1 fb rfl
 rw [a1,a2,c3] at g0
 rw [a3,a4,c9] at g1
 have hy0:ys[0]?=some (ys[0]'(by rw [hyn]; exact Nat.zero_lt_succ _)):=List.getElem?_eq_getElem _
 have hy1:ys[1]?=some (ys[1]'(by rw [hyn]; exact Nat.lt_succ_self _)):=List.getElem?_eq_getElem _
 rw [hy0] at g0
 rw [hy1] at g1
 obtain ⟨z,e1,e2,_⟩:=DataW.trod_int Tryz.underlying3 g0
 obtain ⟨s,e3,e4,_⟩:=DataW.trod_string Tryz.underlying9 g1
 rw [hy] at hm
 simp only [DataW.agg.injEq] at hm
 have k0:=congrArg (fun l=>l[0]?) hm
 have k1:=congrArg (fun l=>l[1]?) hm
 simp only [List.getElem?_map,hy0,hy1,Option.map_some,List.getElem?_cons_zero,List.getElem?_cons_succ,Option.some.injEq] at k0 k1
 rw [e2] at k0
 rw [e4] at k1
 simp only [DataW.lit.injEq,Lit.int.injEq,Lit.string.injEq,true_and] at k0 k1
 subst k0
 have hsb:s=ba (txAt i):=by rw [← ba_lst s]; unfold lst; rw [← k1]
 subst hsb
 constructor
 ·have h5:=congrArg (fun l=>l[0]?) e1
  simpa [List.getElem?_take,List.getElem?_drop] using h5
 ·have h5:=congrArg (fun l=>l[0]?) e3
  simpa [List.getElem?_take,List.getElem?_drop] using h5
theorem marksC_get:∀ j v,marksC[j]?=some v→∃ i,i < 11∧((j=i * 2∧v=.int .i64 (kdAt i))∨(j=i * 2+1∧v=.string (ba (txAt i)))):=by
 intro j v h
 have hj:j < 22:=by
  by_cases hlt:j < 22
  ·exact hlt
  ·rw [List.getElem?_eq_none (by show 22≤j; omega)] at h; cases h
 refine ⟨j / 2,by omega,?_⟩
 have key:∀ i,i < 11→marksC[i * 2]?=some (.int .i64 (kdAt i))∧marksC[i * 2+1]?=some (.string (ba (txAt i))):=by
  intro i hi
  have hcase:i=0∨i=1∨i=2∨i=3∨i=4∨i=5∨i=6∨i=7∨i=8∨i=9∨i=10:=by omega
  rcases hcase with rfl | rfl | rfl | rfl | rfl | rfl | rfl | rfl | rfl | rfl | rfl <;> exact ⟨rfl,rfl⟩
 have k:=key (j / 2) (by omega)
 by_cases h2:j % 2=0
 ·left
  have e:j=j / 2 * 2:=by omega
  refine ⟨e,?_⟩
  rw [← e] at k
  rw [h] at k
  exact Option.some.inj k.1
 ·right
  have e:j=j / 2 * 2+1:=by omega
  refine ⟨e,?_⟩
  have k2:=k.2
  rw [← e,h] at k2
  exact Option.some.inj k2
theorem f131:∃ fa fb fc fd:Field,Tryz.prog.underlying 131=some (.struct #[fa,fb,fc,fd])∧fa.type=4∧fa.offset=0∧fb.type=4∧fb.offset=1∧fc.type=4∧fc.offset=2∧fd.type=4∧fd.offset=3:=⟨_,_,_,_,Tryz.underlying131,rfl,rfl,rfl,rfl,rfl,rfl,rfl,rfl⟩
def kindRows:List (Bool × Bool × Bool × Bool):=[(false,false,false,false),(false,true,false,false),(true,false,false,false),(true,false,false,false),(false,false,false,true),(true,false,false,false),(true,false,false,false),(false,false,false,false),(true,false,false,true),(true,false,false,true),(false,false,false,true),(true,false,false,true),(false,true,true,true),(false,false,false,true)]
theorem kinds_datum:(Rows.laid_kiln_parse_kinds:DataW Unit)=.agg (kindRows.map fun x=>.agg [.lit (.bool x.1),.lit (.bool x.2.1),.lit (.bool x.2.2.1),.lit (.bool x.2.2.2)]):=by kernel_rfl
theorem kinds_cells {w:World} {base:Nat} {spare:Nat→Bool} {held:Bool} {fuel:Nat} {cs:List Value} {p:List MemPlace} {enc:TypeId × Value→Unit}
  (hd:DataW.trod enc Tryz.prog w base spare held fuel 132 cs=some (Rows.laid_kiln_parse_kinds,p)):∀ i,i < 14→∃ r,kindRows[i]?=some r∧cs[i * 4]?=some (.bool r.1)∧cs[i * 4+1]?=some (.bool r.2.1)∧cs[i * 4+2]?=some (.bool r.2.2.1)∧cs[i * 4+3]?=some (.bool r.2.2.2):=by
 intro i hi
 rw [kinds_datum] at hd
 have c131:Tryz.prog.cellsOf 131=4:=by kernel_rfl
 have c4:Tryz.prog.cellsOf 4=1:=by kernel_rfl
 obtain ⟨xs,m,_,hx,_,hn,hel⟩:=DataW.trod_array Tryz.underlying132 hd
 simp only [Prod.mk.injEq,DataW.agg.injEq] at hx
 have h:=hel i hi
 rw [c131] at h
 have hxi:xs[i]?=some (xs[i]'(by omega)):=List.getElem?_eq_getElem (by omega)
 rw [hxi] at h
 generalize hxe:xs[i]'(by omega)=x at *
 obtain ⟨r,hr⟩:∃ r,kindRows[i]?=some r:=⟨kindRows[i]'(by show i < 14; exact hi),List.getElem?_eq_getElem _⟩
 have hm:(kindRows.map fun x=>DataW.agg (H:=Unit) [.lit (.bool x.1),.lit (.bool x.2.1),.lit (.bool x.2.2.1),.lit (.bool x.2.2.2)])[i]?=some x.1:=by rw [hx.1,List.getElem?_map,hxi]; rfl
 rw [List.getElem?_map,hr] at hm
 simp only [Option.map_some,Option.some.injEq] at hm
 obtain ⟨fa,fb,fc,fd,hs,a1,a2,a3,a4,a5,a6,a7,a8⟩:=f131
 obtain ⟨ys,n,_,hy,_,hyn,hfe⟩:=DataW.trod_struct hs h
 have g0:=hfe 0 fa rfl
 have g1:=hfe 1 fb rfl
 have g2:=hfe 2 fc rfl
 have g3:=hfe 3 fd rfl
 rw [a1,a2,c4] at g0
 rw [a3,a4,c4] at g1
 rw [a5,a6,c4] at g2
 rw [a7,a8,c4] at g3
 have hy0:ys[0]?=some (ys[0]'(by rw [hyn]; show 0 < 4; decide)):=List.getElem?_eq_getElem _
 have hy1:ys[1]?=some (ys[1]'(by rw [hyn]; show 1 < 4; decide)):=List.getElem?_eq_getElem _
 have hy2:ys[2]?=some (ys[2]'(by rw [hyn]; show 2 < 4; decide)):=List.getElem?_eq_getElem _
 have hy3:ys[3]?=some (ys[3]'(by rw [hyn]; show 3 < 4; decide)):=List.getElem?_eq_getElem _
 rw [hy0] at g0
 rw [hy1] at g1
 rw [hy2] at g2
 rw [hy3] at g3
 obtain ⟨z0,e0,d0⟩:=DataW.trod_bool Tryz.underlying4 g0
 obtain ⟨z1,e1,d1⟩:=DataW.trod_bool Tryz.underlying4 g1
 obtain ⟨z2,e2,d2⟩:=DataW.trod_bool Tryz.underlying4 g2
 obtain ⟨z3,e3,d3⟩:=DataW.trod_bool Tryz.underlying4 g3
 rw [hy] at hm
 simp only [DataW.agg.injEq] at hm
 have k0:=congrArg (fun l=>l[0]?) hm
 have k1:=congrArg (fun l=>l[1]?) hm
 have k2:=congrArg (fun l=>l[2]?) hm
 have k3:=congrArg (fun l=>l[3]?) hm
 simp only [List.getElem?_map,hy0,hy1,hy2,hy3,Option.map_some,List.getElem?_cons_zero,List.getElem?_cons_succ,Option.some.injEq] at k0 k1 k2 k3
 rw [d0] at k0
 rw [d1] at k1
 rw [d2] at k2
 rw [d3] at k3
 simp only [DataW.lit.injEq,Lit.bool.injEq] at k0 k1 k2 k3
 subst k0; subst k1; subst k2; subst k3
 refine ⟨r,hr,?_,?_,?_,?_⟩
 ·have h5:=congrArg (fun l=>l[0]?) e0
  simpa [List.getElem?_take,List.getElem?_drop] using h5
 ·have h5:=congrArg (fun l=>l[0]?) e1
  simpa [List.getElem?_take,List.getElem?_drop] using h5
 ·have h5:=congrArg (fun l=>l[0]?) e2
  simpa [List.getElem?_take,List.getElem?_drop] using h5
 ·have h5:=congrArg (fun l=>l[0]?) e3
  simpa [List.getElem?_take,List.getElem?_drop] using h5
theorem kndC_get:∀ j v,kndC[j]?=some v→∃ i r,i < 14∧kindRows[i]?=some r∧((j=i * 4∧v=r.1)∨(j=i * 4+1∧v=r.2.1)∨(j=i * 4+2∧v=r.2.2.1)∨(j=i * 4+3∧v=r.2.2.2)):=by
 intro j v h
 have hj:j < 56:=by
  by_cases hlt:j < 56
  ·exact hlt
  ·rw [List.getElem?_eq_none (by show 56≤j; omega)] at h; cases h
 have key:∀ i:Fin 14,∃ r,kindRows[i.val]?=some r∧kndC[i.val * 4]?=some r.1∧kndC[i.val * 4+1]?=some r.2.1∧kndC[i.val * 4+2]?=some r.2.2.1∧kndC[i.val * 4+3]?=some r.2.2.2:=by
  intro ⟨i,hi⟩
  have hcase:i=0∨i=1∨i=2∨i=3∨i=4∨i=5∨i=6∨i=7∨i=8∨i=9∨i=10∨i=11∨i=12∨i=13:=by omega
  rcases hcase with rfl | rfl | rfl | rfl | rfl | rfl | rfl | rfl | rfl | rfl | rfl | rfl | rfl | rfl <;> exact ⟨_,rfl,rfl,rfl,rfl,rfl⟩
 obtain ⟨r,hr,r0,r1,r2,r3⟩:=key ⟨j / 4,by omega⟩
 refine ⟨j / 4,r,by omega,hr,?_⟩
 have hm:j % 4=0∨j % 4=1∨j % 4=2∨j % 4=3:=by omega
 rcases hm with hm | hm | hm | hm
 ·left
  have e:j=j / 4 * 4:=by omega
  refine ⟨e,?_⟩
  rw [show j / 4 * 4=j by omega,h] at r0
  exact Option.some.inj r0
 ·right; left
  have e:j=j / 4 * 4+1:=by omega
  refine ⟨e,?_⟩
  rw [show j / 4 * 4+1=j by omega,h] at r1
  exact Option.some.inj r1
 ·right; right; left
  have e:j=j / 4 * 4+2:=by omega
  refine ⟨e,?_⟩
  rw [show j / 4 * 4+2=j by omega,h] at r2
  exact Option.some.inj r2
 ·right; right; right
  have e:j=j / 4 * 4+3:=by omega
  refine ⟨e,?_⟩
  rw [show j / 4 * 4+3=j by omega,h] at r3
  exact Option.some.inj r3
end Go.Proofs.YtfhkhmgodkheaaaGreatDoor
namespace Go.Proofs.YtfhkhmgodkheaaaGreatDoor
open Go.ChangeShapes Go.WideShapes Go.ChangeAt Go.RowKit
theorem own:ownKnob Tryz.prog.godebug=none:=by kernel_rfl
theorem gTab:Tryz.prog.globalNamed "kiln/lex.marks" = some 0:=by kernel_rfl
theorem tTab:(Tryz.prog.globals[0]?).map (·.type)=some 120:=by kernel_rfl
theorem gKnd:Tryz.prog.globalNamed "kiln/parse.kinds" = some 1:=by kernel_rfl
theorem tKnd:(Tryz.prog.globals[1]?).map (·.type)=some 132:=by kernel_rfl
theorem gPow:Tryz.prog.globalNamed "internal/strconv.uint64pow10" = some 5:=by kernel_rfl
theorem tPow:(Tryz.prog.globals[5]?).map (·.type)=some 192:=by kernel_rfl
theorem powData:(Rows.laid_internal_strconv_uint64pow10:DataW Unit)=Lib.tabData .u64 Lib.pow10Tab:=by kernel_rfl
abbrev laidL:List (String × DataW Unit):=[("math/bits.deBruijn32tab",Rows.laid_math_bits_deBruijn32tab),("math/bits.deBruijn64tab",Rows.laid_math_bits_deBruijn64tab),("internal/strconv.uint64pow10",Rows.laid_internal_strconv_uint64pow10),("unicode/utf8.acceptRanges",Rows.laid_unicode_utf8_acceptRanges),("kiln/lex.marks",Rows.laid_kiln_lex_marks),("kiln/parse.kinds",Rows.laid_kiln_parse_kinds),("unicode/utf8.first",Rows.laid_unicode_utf8_first)]
theorem of_laid {W:World} (h:laidMetH Tryz.prog laidL W) (hsh:W.ShapedOpen Tryz.prog):Env W:=by
 obtain ⟨m,hm⟩:∃ m,W.cell? ⟨2,0,none⟩=some (.int .i64 m):=Tryz.laysM155.s1_3 W hsh
 rw [MakeChecks.laidMetH_plain _ _ _ (by kernel_rfl)] at h
 obtain ⟨ps,⟨_,_,_,_,_,_,_,_,_,_,⟨_,_,_,_,_,_,_,_,_,_,⟨g2,t2,cs2,f2,p2,q2,hg2,ht2,hv2,hd2,⟨ga,ta,csa,fa,pa,qa,hga,hta,hva,hda,⟨g0,t0,cs0,f0,p0,q0,hg0,ht0,hv0,hd0,⟨g3,t3,cs3,f3,p3,q3,hg3,ht3,hv3,hd3,_,_⟩,_⟩,_⟩,_⟩,_⟩,_⟩,_,_⟩:=h
 obtain rfl:=Option.some.inj (gPow.symm.trans hg2)
 obtain rfl:=Option.some.inj (tPow.symm.trans ht2)
 obtain rfl:=Option.some.inj (gTab.symm.trans hg0)
 obtain rfl:=Option.some.inj (tTab.symm.trans ht0)
 obtain rfl:=Option.some.inj (gKnd.symm.trans hg3)
 obtain rfl:=Option.some.inj (tKnd.symm.trans ht3)
 have two:=World.block_lt_of_cell? W ⟨2,0,none⟩ hm
 refine ⟨⟨two,fun i v hv=>?_,m,hm⟩,?_,⟨by have:2 < W.heap.size:=two; omega,fun i v hv=>?_⟩⟩
 ·rw [World.var?_cell hg0 hv0 i,← Array.getElem?_toList]
  obtain ⟨j,hj,h⟩:=marksC_get i v hv
  have hc:=marks_cells hd0 j hj
  rcases h with ⟨rfl,rfl⟩ | ⟨rfl,rfl⟩
  ·exact hc.1
  ·exact hc.2
 ·rw [powData] at hd2
  have e:=Lib.cells_of_tab Tryz.underlying192 Tryz.underlying185 (by kernel_rfl) (by kernel_rfl) hd2
  show W.var? Tryz.prog "internal/strconv.uint64pow10" = _
  rw [hv2,← e]
 ·rw [World.var?_cell hg3 hv3 i,← Array.getElem?_toList]
  obtain ⟨j,r,hj,hr,h⟩:=kndC_get i v hv
  obtain ⟨r',hr',c0,c1,c2,c3⟩:=kinds_cells hd3 j hj
  obtain rfl:=Option.some.inj (hr.symm.trans hr')
  rcases h with ⟨rfl,rfl⟩ | ⟨rfl,rfl⟩ | ⟨rfl,rfl⟩ | ⟨rfl,rfl⟩
  ·exact c0
  ·exact c1
  ·exact c2
  ·exact c3
theorem laidOut:laidOutB Tryz.prog=true:=by kernel_rfl
theorem laid_met (os:Os) (args:Array Value):laidMetH Tryz.prog laidL ((World.laidAll Tryz.prog os laidL).forCall (fun _ _=>0) ⟨#[],args,[]⟩).memory:=by
 rw [MakeChecks.laidMetH_plain _ _ _ (by kernel_rfl)]
 exact laidMet_laidAll _ (by kernel_rfl) (by kernel_rfl)
end Go.Proofs.YtfhkhmgodkheaaaGreatDoor
namespace Go.Proofs.YtfhkhmgodkheaaaGreatDoor
open Go.RowKit Go.Maps
theorem ba_empty (t:Bs):((ba t).toList == [])=decide (t=[]):=by
 rw [tl_lst,lst_ba,Bool.eq_iff_iff]
 simp
theorem kind_w (b off k:Nat) (hk1:1≤k) (hk2:k≤13) (T N M K:Bool) (kd m:Int) (tx:Bs) (ps pk:Option Addr) (ln lk cs ck:Nat) (w:World) (o1:1 < w.heap.size) (hb:b < w.heap.size)
  (q0:w.cell? ⟨1,k * 4,none⟩=some (.bool T)) (q1:w.cell? ⟨1,k * 4+1,none⟩=some (.bool N)) (q2:w.cell? ⟨1,k * 4+2,none⟩=some (.bool M)) (q3:w.cell? ⟨1,k * 4+3,none⟩=some (.bool K))
  (c0:w.cell? ⟨b,off,none⟩=some (.int .i64 kd)) (c1:w.cell? ⟨b,off+1,none⟩=some (.string (ba tx))) (c2:w.cell? ⟨b,off+2,none⟩=some (.int .i64 m)) (c4:w.cell? ⟨b,off+4,none⟩=some (.slice ps ln cs)) (c6:w.cell? ⟨b,off+6,none⟩=some (.slice pk lk ck)) :
  Calls Tryz.prog 64 #[.pointer (some ⟨b,off,none⟩),.int .i64 k] w fun e w'=>e=.returned (.bool (decide (kd=k) && ((T || decide (tx=[])) && ((N || decide (m=0)) && ((M || decide (ln=0)) && (K || decide (lk=0)))))))∧Bl w w':=by
 have hbe:=ba_empty tx
 obtain ⟨E,hE⟩:∃ E,decide (tx=[])=E:=⟨_,rfl⟩
 rw [hE] at hbe ⊢
 clear hE
 obtain ⟨W1,hW1⟩:∃ X,w.alloc (.cells #[.bool false,.bool false,.bool false,.bool false] 131)=X:=⟨_,rfl⟩
 have g1:W1.heap[w.heap.size]?=some (.cells #[.bool false,.bool false,.bool false,.bool false] 131 (0,0)):=hW1▸heap_alloc_new w _
 obtain ⟨W2,hW2⟩:∃ X,W1.setRow w.heap.size #[.bool T,.bool N,.bool M,.bool K]=X:=⟨_,rfl⟩
 have g2:W2.heap[w.heap.size]?=some (.cells #[.bool T,.bool N,.bool M,.bool K] 131 (0,0)):=hW2▸setRow_heap _ _ _ _ 131 (0,0) g1
 have BL:Hid (Bl w W2):=mkHid (((Fr.ofBl (hW1▸Bl.alloc w _) []).trans (hW2▸row_fr W1 w.heap.size _) (by simp)).bl (by simp))
 have e:∀ i,W2.cell? ⟨b,i,none⟩=w.cell? ⟨b,i,none⟩:=fun i=>World.cell?_of_block (w:=w) (BL.out.block b hb)
 rw [← e] at c0 c1 c2 c4 c6
 have x0:W2.cell? ⟨w.heap.size,0,none⟩=some (.bool T):=by rw [cell_in g2]; rfl
 have x1:W2.cell? ⟨w.heap.size,1,none⟩=some (.bool N):=by rw [cell_in g2]; rfl
 have x2:W2.cell? ⟨w.heap.size,2,none⟩=some (.bool M):=by rw [cell_in g2]; rfl
 have x3:W2.cell? ⟨w.heap.size,3,none⟩=some (.bool K):=by rw [cell_in g2]; rfl
 have G1:=mkHid g1
 have k1:(k:Int) < 14:=by omega
 clear e g1 g2 hb
 have hlk:Hid (((lk:Int) == 0)=decide (lk=0)):=mkHid (by rw [Bool.eq_iff_iff]; simp)
 go_enter Tryz.func64,Tryz.ntmps64
 go_upto_region 2 with (refine wpList_store_row rfl 131 _ _ rfl w.heap.size #[.bool T,.bool N,.bool M,.bool K] rfl rfl 131 _ G1.out (by kernel_rfl) rfl (by kernel_rfl) ?_; rw [hW2])
 go_wp2_with fail
 all_goals go_ret
 all_goals refine ⟨?_,BL.out⟩
 all_goals first
  | (show Ending.returned (.bool ((lk:Int) == 0))=_; rw [hlk.out]; simp_all; done)
  | (simp_all; done)
theorem isKind_ok (n:Nt) (b off k:Nat) (hk1:1≤k) (hk2:k≤13) (w:World) (hK:Knd w) (h:NtM w n b off):Calls Tryz.prog 64 #[.pointer (some ⟨b,off,none⟩),.int .i64 k] w fun e w'=>e=.returned (.bool (kindB n k))∧Bl w w':=by
 obtain ⟨sn,sk,hn⟩:=h.nod
 obtain ⟨q0,q1,q2,q3⟩:=hK.row k hk2 hk1
 obtain ⟨ps,cs,es,_,_⟩:=hn.rs
 obtain ⟨pk,ck,kb,ko,ek,_,_,_,_⟩:=hn.rn
 have c4:=hn.c4
 have c6:=hn.c6
 rw [es] at c4
 rw [ek] at c6
 exact kind_w b off k hk1 hk2 _ _ _ _ _ _ _ _ _ _ _ _ _ w hK.one hn.lt q0 q1 q2 q3 hn.c0 hn.c1 hn.c2 c4 c6
theorem isNm_ok (l:Bs) (w:World):Calls Tryz.prog 63 #[.string (ba l)] w fun e w'=>e=.returned (.bool (nmB l))∧Bl w w':=by
 have hsz:(ba l).size=l.length:=by rw [← lst_len,lst_ba]
 by_cases h:l.length≤32
 ·have HV:=mkHid (fun V=>vari_ok (ba l) V (by omega))
  rw [lst_ba] at HV
  have h1:(l.length:Int)≤32:=by omega
  have hE:Hid (nmB l=((vari l:Int) != 1)):=mkHid (by
   unfold nmB
   rw [decide_eq_true h,Bool.true_and,Bool.eq_iff_iff]
   simp
   omega)
  generalize vari l=v at *
  clear h
  go_enter Tryz.func63,Tryz.ntmps63
  go_wp2_with (go_at_call 98; refine (HV.out _).mono ?_; rintro e w1 ⟨rfl,b1⟩)
  go_ret
  exact ⟨by rw [hE.out]; rfl,b1⟩
 ·have h1:¬ (l.length:Int)≤32:=by omega
  have hE:Hid (nmB l=false):=mkHid (by unfold nmB; rw [decide_eq_false h]; rfl)
  clear h
  go_enter Tryz.func63,Tryz.ntmps63
  go_wp2_with fail
  go_ret
  exact ⟨by rw [hE.out]; rfl,Bl.refl _⟩
theorem areNames_ok (v:Value) (l:List Bs) (w:World) (hr:RdS w v l) (hl:l.length≤140737488355328):Calls Tryz.prog 36 #[v] w fun e w'=>e=.returned (.bool (nmsB l))∧Bl w w':=by
 obtain ⟨p,c,rfl,hc,hp⟩:=hr
 have HP:=mkHid hp
 have HA:=mkHid (all_getD [] nmB l)
 have HB:=mkHid (all_bad [] nmB l)
 have HE:Hid (nmsB l=l.all nmB):=mkHid rfl
 generalize hn:l.length=n at *
 clear hp
 go_enter Tryz.func36,Tryz.ntmps36
 go_wp2_with fail
 go_loopw [7] (fun q wr=>∃ i:Nat,i≤n∧q=.int .i64 i∧Hid (∀ j,j < i→nmB (l.getD j [])=true)∧Hid (Bl w wr)) (fun q _=>n - (intOf q).toNat)
 case atStart=>exact ⟨0,Nat.zero_le _,rfl,(fun j hj=>by omega),Bl.refl _⟩
 case round =>
  obtain ⟨i,hi,rfl,hok,hbl⟩:=hrel
  by_cases hin:i < n
  ·have hii:(i:Int) < n:=by omega
   obtain ⟨b,off,rfl,hb,hcs⟩:=HP.out (by omega)
   have x0:wr.cell? ⟨b,off+i,none⟩=some (.string (ba (l.getD i []))):=by rw [World.cell?_of_block (w:=w) (hbl.out.block b hb)]; exact hcs i hin
   have HC:=mkHid (isNm_ok (l.getD i []))
   have hI:Hid (∀ B,nmB (l.getD i [])=B→(B=true→∀ j,j < i+1→nmB (l.getD j [])=true)∧(B=false→nmsB l=false)):=mkHid (fun B hB=>⟨fun h j hj=>by
    by_cases he:j=i
    ·rw [he,hB,h]
    ·exact hok.out j (by omega),fun h=>by rw [HE.out]; exact HB.out i hin (by rw [hB,h])⟩)
   generalize hG:nmB (l.getD i [])=B at *
   generalize l.getD i []=t at *
   have hJ:=mkHid (hI.out B rfl)
   clear hI hG hcs hb hok HA HB
   cases B with
   | true =>
    go_wp2_with (go_at_call 63; refine (HC.out _).mono ?_; rintro e w1 ⟨rfl,b1⟩)
    go_roundw
    case rel=>exact ⟨i+1,by omega,by go_num,hJ.out.1 (by simp),mkHid (hbl.out.trans b1)⟩
    case measure=>simp [intOf]; omega
   | false =>
    go_wp2_with (go_at_call 63; refine (HC.out _).mono ?_; rintro e w1 ⟨rfl,b1⟩)
    go_ret
    exact ⟨by rw [hJ.out.2 (by simp)]; rfl,hbl.out.trans b1⟩
  ·have hie:¬ (i:Int) < n:=by omega
   have hE:Hid (nmsB l=true):=mkHid (by rw [HE.out]; exact HA.out.2 fun j hj=>hok.out j (by omega))
   clear HA HB HP
   go_wp2_with fail
   go_ret
   exact ⟨by rw [hE.out]; rfl,hbl.out⟩
end Go.Proofs.YtfhkhmgodkheaaaGreatDoor
