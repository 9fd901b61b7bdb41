import Derived.Test.YtfhkhmgodkheaaaGreatDoorRows
import Derived.Test.YtfhkhmgodkheaaaGreatDoorQCG08TSym
import Derived.OpenShut
import Derived.ChangeArms
import Derived.ProofKit
import Derived.WalkKit
import Derived.LaidMore
import Derived.Lay
import Derived.Lib.SmallJoins
import Derived.Stop.Joined
import Derived.SizedLaws
import Derived.Deep.DeepHandedRow
import Derived.JoinedCond
import Derived.ChangeMaps5
import Derived.Test.YtfhkhmgodkheaaaGreatDoorQCG07PTree
set_option linter.unusedSimpArgs false
set_option linter.unusedVariables false
namespace Go.Proofs.YtfhkhmgodkheaaaGreatDoor
open Go.RowKit
theorem f75:∃ fa fb:Field,Tryz.prog.underlying 119=some (.struct #[fa,fb])∧fa.type=3∧fa.offset=0∧fb.type=9∧fb.offset=1:=⟨_,_,Tryz.underlying119,rfl,rfl,rfl,rfl⟩
theorem marks_datum:(Rows.laid_kiln_lex_marks:DataW Unit)=.agg (marksL.map fun x=>.agg [.lit (.int .i64 x.1),.lit (.string x.2)]):=by kernel_rfl
theorem marks_cells {w:World} {base:Nat} {spare:Nat→Bool} {held:Bool} {fuel:Nat} {cs:List Value} {p:List MemPlace} {enc:TypeId × Value→Unit}
  (hd:DataW.trod enc Tryz.prog w base spare held fuel 120 cs=some (Rows.laid_kiln_lex_marks,p)):∀ i,i < 11→cs[i * 2]?=some (.int .i64 (kdAt i))∧cs[i * 2+1]?=some (.string (ba (txAt i))):=by
 intro i hi
 rw [marks_datum] at hd
 have c75:Tryz.prog.cellsOf 119=2:=by kernel_rfl
 have c3:Tryz.prog.cellsOf 3=1:=by kernel_rfl
 have c9:Tryz.prog.cellsOf 9=1:=by kernel_rfl
 obtain ⟨xs,m,_,hx,_,hn,hel⟩:=DataW.trod_array Tryz.underlying120 hd
 simp only [Prod.mk.injEq,DataW.agg.injEq] at hx
 have h:=hel i hi
 rw [c75] at h
 have hxi:xs[i]?=some (xs[i]'(by omega)):=List.getElem?_eq_getElem (by omega)
 rw [hxi] at h
 generalize hxe:xs[i]'(by omega)=x at *
 have hm:(marksL.map fun x=>DataW.agg (H:=Unit) [.lit (.int .i64 x.1),.lit (.string x.2)])[i]?=some x.1:=by rw [hx.1,List.getElem?_map,hxi]; rfl
 have hml:marksL[i]?=some (kdAt i,txAt i):=by
  have hcase:i=0∨i=1∨i=2∨i=3∨i=4∨i=5∨i=6∨i=7∨i=8∨i=9∨i=10:=by omega
  rcases hcase with rfl | rfl | rfl | rfl | rfl | rfl | rfl | rfl | rfl | rfl | rfl <;> rfl
 rw [List.getElem?_map,hml] at hm
 simp only [Option.map_some,Option.some.injEq] at hm
 obtain ⟨fa,fb,hs,a1,a2,a3,a4⟩:=f75
 obtain ⟨ys,n,_,hy,_,hyn,hfe⟩:=DataW.trod_struct hs h
 have g0:=hfe 0 fa rfl
 have g1:=hfe 1 fb rfl
 rw [a1,a2,c3] at g0
 rw [a3,a4,c9] at g1
 have hy0:ys[0]?=some (ys[0]'(by rw [hyn]; exact Nat.zero_lt_succ _)):=List.getElem?_eq_getElem _
 have hy1:ys[1]?=some (ys[1]'(by rw [hyn]; exact Nat.lt_succ_self _)):=List.getElem?_eq_getElem _
 rw [hy0] at g0
 rw [hy1] at g1
 obtain ⟨z,e1,e2,_⟩:=DataW.trod_int Tryz.underlying3 g0
 obtain ⟨s,e3,e4,_⟩:=DataW.trod_string Tryz.underlying9 g1
 rw [hy] at hm
 simp only [DataW.agg.injEq] at hm
 have k0:=congrArg (fun l=>l[0]?) hm
 have k1:=congrArg (fun l=>l[1]?) hm
 simp only [List.getElem?_map,hy0,hy1,Option.map_some,List.getElem?_cons_zero,List.getElem?_cons_succ,Option.some.injEq] at k0 k1
 rw [e2] at k0
 rw [e4] at k1
 simp only [DataW.lit.injEq,Lit.int.injEq,Lit.string.injEq,true_and] at k0 k1
 subst k0
 have hsb:s=ba (txAt i):=by rw [← ba_lst s]; unfold lst; rw [← k1]
 subst hsb
 constructor
 ·have h5:=congrArg (fun l=>l[0]?) e1
  simpa [List.getElem?_take,List.getElem?_drop] using h5
 ·have h5:=congrArg (fun l=>l[0]?) e3
  simpa [List.getElem?_take,List.getElem?_drop] using h5
theorem marksC_get:∀ j v,marksC[j]?=some v→∃ i,i < 11∧((j=i * 2∧v=.int .i64 (kdAt i))∨(j=i * 2+1∧v=.string (ba (txAt i)))):=by
 intro j v h
 have hj:j < 22:=by
  by_cases hlt:j < 22
  ·exact hlt
  ·rw [List.getElem?_eq_none (by show 22≤j; omega)] at h; cases h
 refine ⟨j / 2,by omega,?_⟩
 have key:∀ i,i < 11→marksC[i * 2]?=some (.int .i64 (kdAt i))∧marksC[i * 2+1]?=some (.string (ba (txAt i))):=by
  intro i hi;have hcase:i=0∨i=1∨i=2∨i=3∨i=4∨i=5∨i=6∨i=7∨i=8∨i=9∨i=10:=by omega
  rcases hcase with rfl | rfl | rfl | rfl | rfl | rfl | rfl | rfl | rfl | rfl | rfl <;> exact ⟨rfl,rfl⟩
 have k:=key (j / 2) (by omega)
 by_cases h2:j % 2=0
 ·left
  have e:j=j / 2 * 2:=by omega
  refine ⟨e,?_⟩;rw [← e] at k;rw [h] at k;exact Option.some.inj k.1
 ·right
  have e:j=j / 2 * 2+1:=by omega
  refine ⟨e,?_⟩;have k2:=k.2;rw [← e,h] at k2;exact Option.some.inj k2
theorem f131:∃ fa fb fc fd:Field,Tryz.prog.underlying 131=some (.struct #[fa,fb,fc,fd])∧fa.type=4∧fa.offset=0∧fb.type=4∧fb.offset=1∧fc.type=4∧fc.offset=2∧fd.type=4∧fd.offset=3:=⟨_,_,_,_,Tryz.underlying131,rfl,rfl,rfl,rfl,rfl,rfl,rfl,rfl⟩
def kindRows:List (Bool × Bool × Bool × Bool):=[(false,false,false,false),(false,true,false,false),(true,false,false,false),(true,false,false,false),(false,false,false,true),(true,false,false,false),(true,false,false,false),(false,false,false,false),(true,false,false,true),(true,false,false,true),(false,false,false,true),(true,false,false,true),(false,true,true,true),(false,false,false,true)]
theorem kinds_datum:(Rows.laid_kiln_parse_kinds:DataW Unit)=.agg (kindRows.map fun x=>.agg [.lit (.bool x.1),.lit (.bool x.2.1),.lit (.bool x.2.2.1),.lit (.bool x.2.2.2)]):=by kernel_rfl
theorem kinds_cells {w:World} {base:Nat} {spare:Nat→Bool} {held:Bool} {fuel:Nat} {cs:List Value} {p:List MemPlace} {enc:TypeId × Value→Unit}
  (hd:DataW.trod enc Tryz.prog w base spare held fuel 132 cs=some (Rows.laid_kiln_parse_kinds,p)):∀ i,i < 14→∃ r,kindRows[i]?=some r∧cs[i * 4]?=some (.bool r.1)∧cs[i * 4+1]?=some (.bool r.2.1)∧cs[i * 4+2]?=some (.bool r.2.2.1)∧cs[i * 4+3]?=some (.bool r.2.2.2):=by
 intro i hi
 rw [kinds_datum] at hd
 have c131:Tryz.prog.cellsOf 131=4:=by kernel_rfl
 have c4:Tryz.prog.cellsOf 4=1:=by kernel_rfl
 obtain ⟨xs,m,_,hx,_,hn,hel⟩:=DataW.trod_array Tryz.underlying132 hd
 simp only [Prod.mk.injEq,DataW.agg.injEq] at hx
 have h:=hel i hi
 rw [c131] at h
 have hxi:xs[i]?=some (xs[i]'(by omega)):=List.getElem?_eq_getElem (by omega)
 rw [hxi] at h
 generalize hxe:xs[i]'(by omega)=x at *
 obtain ⟨r,hr⟩:∃ r,kindRows[i]?=some r:=⟨kindRows[i]'(by show i < 14; exact hi),List.getElem?_eq_getElem _⟩
 have hm:(kindRows.map fun x=>DataW.agg (H:=Unit) [.lit (.bool x.1),.lit (.bool x.2.1),.lit (.bool x.2.2.1),.lit (.bool x.2.2.2)])[i]?=some x.1:=by rw [hx.1,List.getElem?_map,hxi]; rfl
 rw [List.getElem?_map,hr] at hm
 simp only [Option.map_some,Option.some.injEq] at hm
 obtain ⟨fa,fb,fc,fd,hs,a1,a2,a3,a4,a5,a6,a7,a8⟩:=f131
 obtain ⟨ys,n,_,hy,_,hyn,hfe⟩:=DataW.trod_struct hs h
 have g0:=hfe 0 fa rfl
 have g1:=hfe 1 fb rfl
 have g2:=hfe 2 fc rfl
 have g3:=hfe 3 fd rfl
 rw [a1,a2,c4] at g0
 rw [a3,a4,c4] at g1
 rw [a5,a6,c4] at g2
 rw [a7,a8,c4] at g3
 have hy0:ys[0]?=some (ys[0]'(by rw [hyn]; show 0 < 4; decide)):=List.getElem?_eq_getElem _
 have hy1:ys[1]?=some (ys[1]'(by rw [hyn]; show 1 < 4; decide)):=List.getElem?_eq_getElem _
 have hy2:ys[2]?=some (ys[2]'(by rw [hyn]; show 2 < 4; decide)):=List.getElem?_eq_getElem _
 have hy3:ys[3]?=some (ys[3]'(by rw [hyn]; show 3 < 4; decide)):=List.getElem?_eq_getElem _
 rw [hy0] at g0
 rw [hy1] at g1
 rw [hy2] at g2
 rw [hy3] at g3
 obtain ⟨z0,e0,d0⟩:=DataW.trod_bool Tryz.underlying4 g0
 obtain ⟨z1,e1,d1⟩:=DataW.trod_bool Tryz.underlying4 g1
 obtain ⟨z2,e2,d2⟩:=DataW.trod_bool Tryz.underlying4 g2
 obtain ⟨z3,e3,d3⟩:=DataW.trod_bool Tryz.underlying4 g3
 rw [hy] at hm
 simp only [DataW.agg.injEq] at hm
 have k0:=congrArg (fun l=>l[0]?) hm
 have k1:=congrArg (fun l=>l[1]?) hm
 have k2:=congrArg (fun l=>l[2]?) hm
 have k3:=congrArg (fun l=>l[3]?) hm
 simp only [List.getElem?_map,hy0,hy1,hy2,hy3,Option.map_some,List.getElem?_cons_zero,List.getElem?_cons_succ,Option.some.injEq] at k0 k1 k2 k3
 rw [d0] at k0
 rw [d1] at k1
 rw [d2] at k2
 rw [d3] at k3
 simp only [DataW.lit.injEq,Lit.bool.injEq] at k0 k1 k2 k3
 subst k0; subst k1; subst k2; subst k3
 refine ⟨r,hr,?_,?_,?_,?_⟩
 ·have h5:=congrArg (fun l=>l[0]?) e0
  simpa [List.getElem?_take,List.getElem?_drop] using h5
 ·have h5:=congrArg (fun l=>l[0]?) e1
  simpa [List.getElem?_take,List.getElem?_drop] using h5
 ·have h5:=congrArg (fun l=>l[0]?) e2
  simpa [List.getElem?_take,List.getElem?_drop] using h5
 ·have h5:=congrArg (fun l=>l[0]?) e3
  simpa [List.getElem?_take,List.getElem?_drop] using h5
theorem kndC_get:∀ j v,kndC[j]?=some v→∃ i r,i < 14∧kindRows[i]?=some r∧((j=i * 4∧v=r.1)∨(j=i * 4+1∧v=r.2.1)∨(j=i * 4+2∧v=r.2.2.1)∨(j=i * 4+3∧v=r.2.2.2)):=by
 intro j v h
 have hj:j < 56:=by
  by_cases hlt:j < 56
  ·exact hlt
  ·rw [List.getElem?_eq_none (by show 56≤j; omega)] at h; cases h
 have key:∀ i:Fin 14,∃ r,kindRows[i.val]?=some r∧kndC[i.val * 4]?=some r.1∧kndC[i.val * 4+1]?=some r.2.1∧kndC[i.val * 4+2]?=some r.2.2.1∧kndC[i.val * 4+3]?=some r.2.2.2:=by
  intro ⟨i,hi⟩;have hcase:i=0∨i=1∨i=2∨i=3∨i=4∨i=5∨i=6∨i=7∨i=8∨i=9∨i=10∨i=11∨i=12∨i=13:=by omega
  rcases hcase with rfl | rfl | rfl | rfl | rfl | rfl | rfl | rfl | rfl | rfl | rfl | rfl | rfl | rfl <;> exact ⟨_,rfl,rfl,rfl,rfl,rfl⟩
 obtain ⟨r,hr,r0,r1,r2,r3⟩:=key ⟨j / 4,by omega⟩
 refine ⟨j / 4,r,by omega,hr,?_⟩
 have hm:j % 4=0∨j % 4=1∨j % 4=2∨j % 4=3:=by omega
 rcases hm with hm | hm | hm | hm
 ·left
  have e:j=j / 4 * 4:=by omega
  refine ⟨e,?_⟩;rw [show j / 4 * 4=j by omega,h] at r0
  exact Option.some.inj r0
 ·right; left
  have e:j=j / 4 * 4+1:=by omega
  refine ⟨e,?_⟩;rw [show j / 4 * 4+1=j by omega,h] at r1
  exact Option.some.inj r1
 ·right; right; left
  have e:j=j / 4 * 4+2:=by omega
  refine ⟨e,?_⟩;rw [show j / 4 * 4+2=j by omega,h] at r2
  exact Option.some.inj r2
 ·right; right; right
  have e:j=j / 4 * 4+3:=by omega
  refine ⟨e,?_⟩;rw [show j / 4 * 4+3=j by omega,h] at r3
  exact Option.some.inj r3
end Go.Proofs.YtfhkhmgodkheaaaGreatDoor
namespace Go.Proofs.YtfhkhmgodkheaaaGreatDoor
open Go.ChangeShapes Go.WideShapes Go.ChangeAt Go.RowKit
theorem own:ownKnob Tryz.prog.godebug=none:=by kernel_rfl
theorem gTab:Tryz.prog.globalNamed "kiln/lex.marks" = some 0:=by kernel_rfl
theorem tTab:(Tryz.prog.globals[0]?).map (·.type)=some 120:=by kernel_rfl
theorem gKnd:Tryz.prog.globalNamed "kiln/parse.kinds" = some 1:=by kernel_rfl
theorem tKnd:(Tryz.prog.globals[1]?).map (·.type)=some 132:=by kernel_rfl
theorem gPow:Tryz.prog.globalNamed "internal/strconv.uint64pow10" = some 5:=by kernel_rfl
theorem tPow:(Tryz.prog.globals[5]?).map (·.type)=some 192:=by kernel_rfl
theorem powData:(Rows.laid_internal_strconv_uint64pow10:DataW Unit)=Lib.tabData .u64 Lib.pow10Tab:=by kernel_rfl
abbrev laidL:List (String × DataW Unit):=[("math/bits.deBruijn32tab",Rows.laid_math_bits_deBruijn32tab),("math/bits.deBruijn64tab",Rows.laid_math_bits_deBruijn64tab),("internal/strconv.uint64pow10",Rows.laid_internal_strconv_uint64pow10),("unicode/utf8.acceptRanges",Rows.laid_unicode_utf8_acceptRanges),("kiln/lex.marks",Rows.laid_kiln_lex_marks),("kiln/parse.kinds",Rows.laid_kiln_parse_kinds),("unicode/utf8.first",Rows.laid_unicode_utf8_first)]
theorem of_laid {W:World} (h:laidMetH Tryz.prog laidL W) (hsh:W.ShapedOpen Tryz.prog):Env W:=by
 obtain ⟨m,hm⟩:∃ m,W.cell? ⟨2,0,none⟩=some (.int .i64 m):=Tryz.laysM155.s1_3 W hsh
 rw [MakeChecks.laidMetH_plain _ _ _ (by kernel_rfl)] at h
 obtain ⟨ps,⟨_,_,_,_,_,_,_,_,_,_,⟨_,_,_,_,_,_,_,_,_,_,⟨g2,t2,cs2,f2,p2,q2,hg2,ht2,hv2,hd2,⟨ga,ta,csa,fa,pa,qa,hga,hta,hva,hda,⟨g0,t0,cs0,f0,p0,q0,hg0,ht0,hv0,hd0,⟨g3,t3,cs3,f3,p3,q3,hg3,ht3,hv3,hd3,_,_⟩,_⟩,_⟩,_⟩,_⟩,_⟩,_,_⟩:=h
 obtain rfl:=Option.some.inj (gPow.symm.trans hg2)
 obtain rfl:=Option.some.inj (tPow.symm.trans ht2)
 obtain rfl:=Option.some.inj (gTab.symm.trans hg0)
 obtain rfl:=Option.some.inj (tTab.symm.trans ht0)
 obtain rfl:=Option.some.inj (gKnd.symm.trans hg3)
 obtain rfl:=Option.some.inj (tKnd.symm.trans ht3)
 have two:=World.block_lt_of_cell? W ⟨2,0,none⟩ hm
 refine ⟨⟨two,fun i v hv=>?_,m,hm⟩,?_,⟨by have:2 < W.heap.size:=two; omega,fun i v hv=>?_⟩⟩
 ·rw [World.var?_cell hg0 hv0 i,← Array.getElem?_toList]
  obtain ⟨j,hj,h⟩:=marksC_get i v hv;have hc:=marks_cells hd0 j hj
  rcases h with ⟨rfl,rfl⟩ | ⟨rfl,rfl⟩
  ·exact hc.1
  ·exact hc.2
 ·rw [powData] at hd2
  have e:=Lib.cells_of_tab Tryz.underlying192 Tryz.underlying185 (by kernel_rfl) (by kernel_rfl) hd2
  show W.var? Tryz.prog "internal/strconv.uint64pow10" = _
  rw [hv2,← e]
 ·rw [World.var?_cell hg3 hv3 i,← Array.getElem?_toList]
  obtain ⟨j,r,hj,hr,h⟩:=kndC_get i v hv;obtain ⟨r',hr',c0,c1,c2,c3⟩:=kinds_cells hd3 j hj;obtain rfl:=Option.some.inj (hr.symm.trans hr')
  rcases h with ⟨rfl,rfl⟩ | ⟨rfl,rfl⟩ | ⟨rfl,rfl⟩ | ⟨rfl,rfl⟩
  ·exact c0
  ·exact c1
  ·exact c2
  ·exact c3
theorem laidOut:laidOutB Tryz.prog=true:=by kernel_rfl
theorem laid_met (os:Os) (args:Array Value):laidMetH Tryz.prog laidL ((World.laidAll Tryz.prog os laidL).forCall (fun _ _=>0) ⟨#[],args,[]⟩).memory:=by
 rw [MakeChecks.laidMetH_plain _ _ _ (by kernel_rfl)]
 exact laidMet_laidAll _ (by kernel_rfl) (by kernel_rfl)
end Go.Proofs.YtfhkhmgodkheaaaGreatDoor
namespace Go.Proofs.YtfhkhmgodkheaaaGreatDoor
def Pg {α:Type} (ts:Ts) (s:Ps) (r:Option (Rs α)):Prop:=∀ a s',r=some (.ok a s')→s.pos < s'.pos∧Okq ts s'
def Pq {α:Type} (ts:Ts) (s:Ps) (r:Option (Rs α)):Prop:=∀ a s',r=some (.ok a s')→s.pos≤s'.pos∧Okq ts s'
theorem Pg.q {α:Type} {ts:Ts} {s:Ps} {r:Option (Rs α)} (h:Pg ts s r):Pq ts s r:=fun a s' e=>⟨Nat.le_of_lt (h a s' e).1,(h a s' e).2⟩
theorem qQ {α β:Type} {r:Option (Rs α)} {k:α→Ps→Option (Rs β)} {b:β} {s':Ps} (h:qF r k=some (.ok b s')):∃ a s1,r=some (.ok a s1)∧k a s1=some (.ok b s'):=by
 unfold qF at h
 split at h
 ·cases h
 ·cases h
 ·exact ⟨_,_,rfl,h⟩
theorem Pg.bind {α β:Type} {ts:Ts} {s:Ps} {r:Option (Rs α)} {k:α→Ps→Option (Rs β)} (h:Pg ts s r) (hk:∀ a s1,r=some (.ok a s1)→Okq ts s1→Pq ts s1 (k a s1)):Pg ts s (qF r k):=by
 intro b s' e
 obtain ⟨a,s1,e1,e2⟩:=qQ e
 obtain ⟨h1,h2⟩:=h a s1 e1
 obtain ⟨h3,h4⟩:=hk a s1 e1 h2 b s' e2
 exact ⟨Nat.lt_of_lt_of_le h1 h3,h4⟩
theorem Pq.bind {α β:Type} {ts:Ts} {s:Ps} {r:Option (Rs α)} {k:α→Ps→Option (Rs β)} (h:Pq ts s r) (hk:∀ a s1,r=some (.ok a s1)→Okq ts s1→Pq ts s1 (k a s1)):Pq ts s (qF r k):=by
 intro b s' e
 obtain ⟨a,s1,e1,e2⟩:=qQ e
 obtain ⟨h1,h2⟩:=h a s1 e1
 obtain ⟨h3,h4⟩:=hk a s1 e1 h2 b s' e2
 exact ⟨Nat.le_trans h1 h3,h4⟩
theorem Pq.bindG {α β:Type} {ts:Ts} {s:Ps} {r:Option (Rs α)} {k:α→Ps→Option (Rs β)} (h:Pq ts s r) (hk:∀ a s1,r=some (.ok a s1)→Okq ts s1→Pg ts s1 (k a s1)):Pg ts s (qF r k):=by
 intro b s' e
 obtain ⟨a,s1,e1,e2⟩:=qQ e
 obtain ⟨h1,h2⟩:=h a s1 e1
 obtain ⟨h3,h4⟩:=hk a s1 e1 h2 b s' e2
 exact ⟨Nat.lt_of_le_of_lt h1 h3,h4⟩
theorem Pq.ok {α:Type} {ts:Ts} {s:Ps} {a:α} (h:Okq ts s):Pq ts s (some (.ok a s)):=by
 intro b s' e
 injection e with e; injection e with e1 e2; subst e2
 exact ⟨Nat.le_refl _,h⟩
theorem Pg.bad {α:Type} {ts:Ts} {s:Ps} {x:Tok × Nat}:Pg ts s (some (.bad x):Option (Rs α)):=by
 intro b s' e; injection e with e; cases e
theorem Pg.none {α:Type} {ts:Ts} {s:Ps}:Pg ts s (none:Option (Rs α)):=by intro b s' e; cases e
theorem zC (ts:Ts) (s:Ps):(qj ts s).pos=s.pos+1:=rfl
theorem Pg.tk {α:Type} {ts:Ts} {s:Ps} {r:Option (Rs α)} (h:Pq ts (qj ts s) r):Pg ts s r:=fun a s' e=>by
 obtain ⟨h1,h2⟩:=h a s' e
 rw [zC] at h1
 exact ⟨by omega,h2⟩
theorem Pg.need {ts:Ts} {s:Ps} {k:Nat} (h:Okq ts s) (hk:k≠18):Pg ts s (some (qS ts k s)):=by
 unfold qS
 by_cases e:qi ts k s=true
 ·rw [if_pos e]
  refine Pg.tk (Pq.ok (h.take (by rw [qk e]; exact hk)))
 ·rw [if_neg e]; exact Pg.bad
theorem needP_cases {ts:Ts} {s:Ps} {k:Nat} {β:Type} {f:Ps→β} {b:Tok × Nat→β}:(match qS ts k s with | .bad x=>b x | .ok _ s2=>f s2)=if qi ts k s=true then f (qj ts s) else b (hdT ts s):=by
 unfold qS
 by_cases e:qi ts k s=true
 ·rw [if_pos e,if_pos e]
 ·rw [if_neg e,if_neg e]
theorem zD (ts:Ts) (k:Nat) (s:Ps):s.pos≤(qN ts k s).2.pos:=by
 unfold qN
 split
 ·rw [zC]; omega
 ·exact Nat.le_refl _
theorem zh {α:Type} {ts:Ts} {btw:Nat} {there:Ps→Bool × Ps} {one:List α→Ps→Option (Rs α)} (hb:btw≠18) (ht:∀ s,Okq ts s→s.pos≤(there s).2.pos∧Okq ts (there s).2)
  (ho:∀ acc s,Okq ts s→(there s).1=true→Pg ts s (one acc (there s).2)):∀ (f:Nat) (acc:List α) (s:Ps),Okq ts s→Pq ts s (qY ts btw there one f acc s)∧((there s).1=true→Pg ts s (qY ts btw there one f acc s)):=by
 intro f
 induction f with
 | zero=>intro acc s h; exact ⟨Pg.none.q,fun _=>Pg.none⟩
 | succ f ih =>
  intro acc s h;obtain ⟨h1,h2⟩:=ht s h;have key:(there s).1=true→Pg ts s (qY ts btw there one (f+1) acc s):=by
   intro hth;have hone:=ho acc s h hth;unfold qY;rw [show there s=((there s).1,(there s).2) from rfl,hth]
   dsimp only
   cases e:one acc (there s).2 with
   | none=>exact Pg.none
   | some r =>
    cases r with
    | bad x=>exact Pg.bad
    | ok a s2 =>
     obtain ⟨p1,p2⟩:=hone a s2 e;dsimp only
     by_cases hz:btw=0
     ·rw [if_pos hz]
      intro b s' e';obtain ⟨q1,q2⟩:=(ih (acc++[a]) s2 p2).1 b s' e';exact ⟨by omega,q2⟩
     ·rw [if_neg hz]
      have hs:=p2.skip (k:=btw) hb;have hp:=zD ts btw s2
      cases e2:qN ts btw s2 with
      | mk b s3 =>
       rw [e2] at hs hp
       cases b with
       | false =>
        dsimp only;intro b s' e';injection e' with e'; injection e' with e1 e3; subst e3
        exact ⟨by dsimp only at hp; omega,hs⟩
       | true =>
        dsimp only;intro b s' e';obtain ⟨q1,q2⟩:=(ih (acc++[a]) s3 hs).1 b s' e';exact ⟨by dsimp only at hp; omega,q2⟩
  refine ⟨?_,key⟩
  cases hth:(there s).1 with
  | true=>exact (key hth).q
  | false =>
   unfold qY;rw [show there s=((there s).1,(there s).2) from rfl,hth]
   intro b s' e';injection e' with e'; injection e' with e1 e3; subst e3
   exact ⟨h1,h2⟩
theorem zu {x:Tok × Nat} (h:qy x≠0):x.1.kind≠18:=by
 unfold qy at h
 intro e
 rw [e] at h
 exact h (by simp)
theorem words_pos (ts:Ts):∀ (us:Ts) (i:Nat) (l:Bs) (s:Ps),(∀ x∈us,x.2≤4096)→Okq ts s→(zH i l us s).2.pos=s.pos∧Okq ts (zH i l us s).2:=by
 intro us
 induction us with
 | nil=>intro i l s _ h; exact ⟨rfl,h⟩
 | cons x r ih =>
  intro i l s hx h;unfold zH
  split
  ·obtain ⟨a,b⟩:=ih (i+1) (l++x.1.text++[58]) (qR 73 x.2 s) (fun y hy=>hx y (by simp [hy])) (h.pass (hx x (by simp)))
   exact ⟨a.trans (jD (c:=73) h.ok.place (hx x (by simp))).2.2,b⟩
  ·exact ih (i+1) _ s (fun y hy=>hx y (by simp [hy])) h
theorem jx {α:Type} {ts:Ts} {btw:Nat} {there:Ps→Bool × Ps} {one:List α→Ps→Option (Rs α)} {Q:α→Prop} (hb:btw≠18) (ht:∀ s,Okq ts s→s.pos≤(there s).2.pos∧Okq ts (there s).2)
  (ho:∀ acc s,Okq ts s→(there s).1=true→Pg ts s (one acc (there s).2)) (hq:∀ acc s a s',Okq ts s→(there s).1=true→one acc (there s).2=some (.ok a s')→Q a):∀ (f:Nat) (acc:List α) (s:Ps) (l:List α) (s':Ps),Okq ts s→(∀ a∈acc,Q a)→qY ts btw there one f acc s=some (.ok l s')→∀ a∈l,Q a:=by
 intro f
 induction f with
 | zero=>intro acc s l s' h hacc e; cases e
 | succ f ih =>
  intro acc s l s' h hacc e;unfold qY at e;obtain ⟨h1,h2⟩:=ht s h;rw [show there s=((there s).1,(there s).2) from rfl] at e
  cases hth:(there s).1 with
  | false =>
   rw [hth] at e;injection e with e; injection e with e1 e2; subst e1; exact hacc
  | true =>
   rw [hth] at e;dsimp only at e
   cases eo:one acc (there s).2 with
   | none=>rw [eo] at e; cases e
   | some r =>
    rw [eo] at e
    cases r with
    | bad x=>cases e
    | ok a s2 =>
     obtain ⟨p1,p2⟩:=ho acc s h hth a s2 eo;have hacc2:∀ b∈acc++[a],Q b:=by
      intro b hb
      rcases List.mem_append.1 hb with hb | hb
      ·exact hacc b hb
      ·simp at hb; subst hb; exact hq acc s _ s2 h hth eo
     dsimp only at e
     by_cases hz:btw=0
     ·rw [if_pos hz] at e
      exact ih _ _ _ _ p2 hacc2 e
     ·rw [if_neg hz] at e
      have hs:=p2.skip (k:=btw) hb
      cases e2:qN ts btw s2 with
      | mk b s3 =>
       rw [e2] at hs e
       cases b with
       | false=>dsimp only at e; injection e with e; injection e with e1 e3; subst e1; exact hacc2
       | true=>dsimp only at e; exact ih _ _ _ _ hs hacc2 e
theorem keywords_pg {α:Type} {ts:Ts} {one:Ps→Option (Rs α)} (ho:∀ s,Okq ts s→Pq ts s (one s)) (f:Nat) (s:Ps) (h:Okq ts s) (hr:qy (hdT ts s)=3):Pg ts s (zv ts one f s):=by
 unfold zv
 have h1:∀ (acc:List ((Tok × Nat) × α)) (s:Ps),Okq ts s→(decide (qy (hdT ts s)=3),s).1=true→Pg ts s ((fun (_:List ((Tok × Nat) × α)) s=>qF (one (qj ts s)) (fun a s2=>some (.ok (hdT ts s,a) s2))) acc s):=by
  intro acc s hs hth;have hk:qy (hdT ts s)=3:=by simpa using hth
  have ht:=hs.take (zu (by rw [hk]; decide))
  exact Pg.tk (Pq.bind (ho _ ht) (fun a s1 _ h1=>Pq.ok h1))
 have h2:=zh (there:=fun s=>(decide (qy (hdT ts s)=3),s)) (one:=fun (_:List ((Tok × Nat) × α)) s=>qF (one (qj ts s)) (fun a s2=>some (.ok (hdT ts s,a) s2))) (btw:=0) (by decide) (fun s hs=>⟨Nat.le_refl _,hs⟩) h1 f [] s h
 refine Pg.bind (h2.2 (by simpa using hr)) (fun l s1 e1 hs1=>?_)
 have h3:=jx (there:=fun s=>(decide (qy (hdT ts s)=3),s)) (one:=fun (_:List ((Tok × Nat) × α)) s=>qF (one (qj ts s)) (fun a s2=>some (.ok (hdT ts s,a) s2))) (Q:=fun a=>a.1.2≤4096) (btw:=0) (by decide) (fun s hs=>⟨Nat.le_refl _,hs⟩) h1 (fun acc s a s' hs hth e=>by
  obtain ⟨b,s1,e1,e2⟩:=qQ e;injection e2 with e2; injection e2 with e2 e3; subst e2
  exact hs.txt.2) f [] s l s1 h (by simp) e1
 obtain ⟨q1,q2⟩:=words_pos ts (l.map (·.1)) 0 [] s1 (fun x hx=>by obtain ⟨a,ha,rfl⟩:=List.mem_map.1 hx; exact h3 a ha) hs1
 intro b s' e
 injection e with e; injection e with e2 e3; subst e3
 exact ⟨by rw [q1]; exact Nat.le_refl _,q2⟩
theorem worded_pg {α:Type} {ts:Ts} {one:Nat→Ps→Option (Rs α)} (ho:∀ k s,k≤3→Okq ts s→Pq ts s (one k s)) (f:Nat) (s:Ps) (h:Okq ts s):Pg ts s (zt ts one f s):=by
 unfold zt
 split
 ·rename_i hr
  exact Pg.tk (Pq.ok (h.take (zu (by rw [hr]; decide))))
 split
 ·rename_i hr
  have ht:=h.take (zu (by rw [hr]; decide))
  exact Pg.tk (Pq.bind (ho 2 _ (by decide) ht) (fun a s1 _ h1=>Pq.ok h1))
 split
 ·rename_i hr
  exact keywords_pg (ho 3 · (by decide)) f s h hr
 ·exact Pg.bad
theorem integer_pg {ts:Ts} {s:Ps} (h:Okq ts s) (hk:(hdT ts s).1.kind≠18):Pg ts s (some (jc ts s)):=by
 unfold jc
 dsimp only
 split
 ·exact Pg.tk (Pq.ok (h.take hk))
 split
 ·rename_i h2
  exact Pg.tk (Pg.tk (Pq.ok ((h.take hk).take (by rw [qk h2.2.1]; decide)))).q
 ·exact Pg.bad
theorem named_pg {ts:Ts} {s:Ps} {most:Nat} (h:Okq ts s) (hk:(hdT ts s).1.kind≠18):Pg ts s (some (jf ts most s)):=by
 unfold jf
 dsimp only
 split
 ·exact Pg.tk (Pq.ok (h.take hk))
 split
 ·exact Pg.tk (Pq.ok (h.take hk))
 split
 ·exact Pg.bad
 ·exact Pg.tk (Pq.ok (h.take hk))
theorem qZ {ts:Ts} (f:Nat) {s:Ps} (h:Okq ts s):Pq ts s (qv ts f s):=by
 unfold qv
 have hs:=h.skip (k:=12) (by decide)
 have hp:=zD ts 12 s
 cases e:qN ts 12 s with
 | mk b s1 =>
  rw [e] at hs hp
  cases b with
  | false =>
   dsimp only;intro a s' e';injection e' with e'; injection e' with e1 e2; subst e2
   exact ⟨hp,hs⟩
  | true =>
   dsimp only at hs hp ⊢;have h2:=(zh (α:=Tok × Nat) (there:=fun s=>(qi ts 1 s,s)) (one:=fun _ s=>some (.ok (hdT ts s) (qj ts s))) (btw:=0) (by decide) (fun s hs=>⟨Nat.le_refl _,hs⟩) (fun acc s hs hth=>Pg.tk (Pq.ok (hs.take (by rw [qk hth]; decide)))) f [] s1 hs).1
   have h3:Pq ts s1 (qF (qY ts 0 (fun s=>(qi ts 1 s,s)) (fun _ s=>some (.ok (hdT ts s) (qj ts s))) f [] s1) fun l s2=>match qS ts 12 s2 with
     | .bad x=>some (.bad x)
     | .ok _ s3=>some (.ok l s3)):=Pq.bind h2 (fun l s2 _ hs2=>by
    rw [needP_cases]
    split
    ·rename_i hst
     exact (Pg.tk (Pq.ok (hs2.take (by rw [qk hst]; decide)))).q
    ·exact Pg.bad.q)
   intro a s' e';obtain ⟨q1,q2⟩:=h3 a s' e';exact ⟨Nat.le_trans hp q1,q2⟩
theorem need_pq {α:Type} {ts:Ts} {s:Ps} {k:Nat} {l:α} (h:Okq ts s) (hk:k≠18):Pg ts s (match qS ts k s with | .bad x=>some (.bad x) | .ok _ s2=>some (.ok l s2):Option (Rs α)):=by
 rw [needP_cases]
 split
 ·rename_i hst
  exact Pg.tk (Pq.ok (h.take (by rw [qk hst]; exact hk)))
 ·exact Pg.bad
theorem lit_place {ts:Ts} {f:Nat} {s s':Ps} {n:Nd} (e:zb ts f s=some (.ok n s')):n.place=(hdT ts s).2:=by
 cases f with
 | zero=>cases e
 | succ f =>
  unfold zb at e
  split at e
  ·unfold jc at e
   dsimp only at e
   split at e
   ·injection e with e; injection e with e1 e2; subst e1; rfl
   split at e
   ·injection e with e; injection e with e1 e2; subst e1; rfl
   ·injection e with e; cases e
  split at e
  ·injection e with e; injection e with e1 e2; subst e1; rfl
  split at e
  ·injection e with e; injection e with e1 e2; subst e1; rfl
  split at e
  ·obtain ⟨l,s1,e1,e2⟩:=qQ e
   split at e2
   ·injection e2 with e; cases e
   ·injection e2 with e; injection e with e1 e2; subst e1; rfl
  ·injection e with e; cases e
theorem elem_place {ts:Ts} {f:Nat} {s s':Ps} {n:Nd} (e:qX ts f s=some (.ok n s')):n.place=(hdT ts s).2:=by
 cases f with
 | zero=>cases e
 | succ f =>
  unfold qX at e
  split at e
  ·unfold jf at e
   dsimp only at e
   split at e
   ·injection e with e; injection e with e1 e2; subst e1; rfl
   split at e
   ·injection e with e; injection e with e1 e2; subst e1; rfl
   split at e
   ·injection e with e; cases e
   ·injection e with e; injection e with e1 e2; subst e1; rfl
  ·exact lit_place e
theorem places_getD {l:List Nd} (h:∀ n∈l,n.place≤4096) (i:Nat):(l.map Nd.place).getD i 0≤4096:=by
 rw [List.getD_eq_getElem?_getD]
 cases e:(l.map Nd.place)[i]? with
 | none=>exact Nat.zero_le _
 | some p =>
  have:=List.mem_of_getElem? e;obtain ⟨n,hn,rfl⟩:=List.mem_map.1 this;exact h n hn
theorem toks_getD {l:Ts} (h:∀ n∈l,n.2≤4096) (i:Nat):(l.getD i zj).2≤4096:=by
 rw [List.getD_eq_getElem?_getD]
 cases e:l[i]? with
 | none=>exact Nat.zero_le _
 | some p=>exact h _ (List.mem_of_getElem? e)
theorem params_pg {ts:Ts} (f:Nat) {s:Ps} (h:Okq ts s):Pq ts s (qY ts 0 (fun s=>qN ts 13 s) (fun _ s=>some (qS ts 1 s)) f [] s)∧∀ l s',qY ts 0 (fun s=>qN ts 13 s) (fun _ s=>some (qS ts 1 s)) f [] s=some (.ok l s')→∀ x∈l,x.2≤4096:=by
 have h1:∀ (acc:Ts) (s:Ps),Okq ts s→(qN ts 13 s).1=true→Pg ts s ((fun (_:Ts) s=>some (qS ts 1 s)) acc (qN ts 13 s).2):=fun acc s hs _ a s' e=>by
  obtain ⟨q1,q2⟩:=Pg.need (hs.skip (k:=13) (by decide)) (k:=1) (by decide) a s' e
  exact ⟨Nat.lt_of_le_of_lt (zD ts 13 s) q1,q2⟩
 refine ⟨(zh (btw:=0) (by decide) (fun s hs=>⟨zD ts 13 s,hs.skip (by decide)⟩) h1 f [] s h).1,fun l s' e=>?_⟩
 refine jx (Q:=fun x=>x.2≤4096) (btw:=0) (by decide) (fun s hs=>⟨zD ts 13 s,hs.skip (by decide)⟩) h1 (fun acc s a s' hs hth e=>?_) f [] s l s' h (by simp) e
 have hs2:=hs.skip (k:=13) (by decide)
 injection e with e
 unfold qS at e
 split at e
 ·injection e with e1 e2; subst e1; exact hs2.txt.2
 ·cases e
theorem elems_place {ts:Ts} {f g:Nat} {s s':Ps} {l:List Nd} (hg:∀ s,Okq ts s→Pg ts s (qX ts g s)) (h:Okq ts s) (e:qY ts 0 (fun s=>(!qi ts 9 s,s)) (fun _=>qX ts g) f [] s=some (.ok l s')):∀ n∈l,n.place≤4096 :=
 jx (Q:=fun n=>n.place≤4096) (btw:=0) (by decide) (fun s hs=>⟨Nat.le_refl _,hs⟩) (fun acc s hs _=>hg s hs) (fun acc s a s' hs hth e=>by rw [elem_place e]; exact hs.txt.2) f [] s l s' h (by simp) e
structure PgAll (ts:Ts) (f:Nat):Prop where
 expr:∀ s,Okq ts s→Pg ts s (qD ts f s)
 casc:∀ s,Okq ts s→Pg ts s (zi ts f s)
 sends:∀ most s,Okq ts s→Pg ts s (zm ts f most s)
 ranks:∀ most rank n sent s,Okq ts s→Pq ts s (zn ts f most rank n sent s)
 msg:∀ s,Okq ts s→Pg ts s (qM ts f s)
 prim:∀ most s,Okq ts s→Pg ts s (ze ts f most s)
 lit:∀ s,Okq ts s→Pg ts s (zb ts f s)
 elem:∀ s,Okq ts s→Pg ts s (qX ts f s)
 blk:∀ s,Okq ts s→(hdT ts s).1.kind=10→Pg ts s (zO ts f s)
 stmt:∀ s,Okq ts s→Pg ts s (qA ts f s)
 body:∀ fin s,fin≠18→Okq ts s→Pg ts s (zg ts f fin s)
theorem zS (ts:Ts):∀ f,PgAll ts f:=by
 intro f
 induction f with
 | zero =>
  refine ⟨fun s _=>?_,fun s _=>?_,fun _ s _=>?_,fun _ _ _ _ s _=>Pg.q ?_,fun s _=>?_,fun _ s _=>?_,fun s _=>?_,fun s _=>?_,fun s _ _=>?_,fun s _=>?_,fun _ s _ _=>?_⟩ <;> first | (unfold qD; exact Pg.none) | (unfold zi; exact Pg.none) | (unfold zm; exact Pg.none) | (unfold zn; exact Pg.none) | (unfold qM; exact Pg.none) | (unfold ze; exact Pg.none) | (unfold zb; exact Pg.none) | (unfold qX; exact Pg.none) | (unfold zO; exact Pg.none) | (unfold qA; exact Pg.none) | (unfold zg; exact Pg.none)
 | succ f ih =>
  have hbodyL:∀ fin s,Okq ts s→Pq ts s (qY ts 16 (fun s=>(!qi ts fin s,s)) (fun acc s=>if retd acc=true then some (.bad (hdT ts s)) else qA ts f s) f [] s):=fun fin s h =>
   (zh (btw:=16) (by decide) (fun s hs=>⟨Nat.le_refl _,hs⟩) (fun acc s hs _=>by
    dsimp only
    split
    ·exact Pg.bad
    ·exact ih.stmt s hs) f [] s h).1
  refine ⟨?_,?_,?_,?_,?_,?_,?_,?_,?_,?_,?_⟩
  ·intro s h
   unfold qD
   split
   ·rename_i hs
    have h1:=h.take (by rw [qk hs.1]; decide)
    have hk:hdT ts (qj ts s)=ts.getD (s.pos+1) zj:=rfl;have h2:=h1.take (by rw [hk,hs.2]; decide)
    exact Pg.tk (Pg.tk (Pg.bind (ih.expr _ h2) (fun n s1 _ h1=>Pq.ok h1)).q).q
   ·exact ih.casc s h
  ·intro s h
   unfold zi;refine Pg.bind (ih.sends 3 s h) (fun x s1 _ h1=>?_)
   split
   ·exact Pq.ok h1
   rename_i hst
   split
   ·exact Pg.bad.q
   have h2:=h1.take (by rw [qk (by simpa using hst)]; decide)
   refine (Pg.tk (Pq.bind (zh (btw:=17) (by decide) (fun s hs=>⟨Nat.le_refl _,hs⟩) (fun acc s hs _=>ih.msg s hs) f [] _ h2).1 (fun l s3 _ h3=>?_))).q
   cases x.1.kids with
   | nil=>exact Pg.none.q
   | cons r ks=>exact Pq.ok h3
  ·intro most s h
   unfold zm;exact Pg.bind (ih.prim most s h) (fun n s1 _ h1=>ih.ranks most 1 n false s1 h1)
  ·intro most rank n sent s h
   unfold zn
   split
   ·exact Pq.ok h
   split
   ·exact (Pg.bind (ih.msg s h) (fun m s1 _ h1=>ih.ranks most rank (sendN n m) true s1 h1)).q
   ·exact ih.ranks most (rank+1) n sent s h
  ·intro s h
   unfold qM;refine Pg.bind (worded_pg (fun k s _ hs=>?_) f s h) (fun x s1 _ h1=>Pq.ok h1)
   exact (Pg.bind (ih.sends (k - 1) s hs) (fun x s1 _ h1=>Pq.ok h1)).q
  ·intro most s h
   unfold ze
   split
   ·rename_i hk; exact named_pg h (by rw [hk]; decide)
   split
   ·rename_i hk
    have h1:=h.take (by rw [hk]; decide)
    exact Pg.tk (Pg.bind (ih.expr _ h1) (fun n s1 _ h1=>(need_pq h1 (by decide)).q)).q
   split
   ·rename_i hk; exact ih.blk s h hk
   ·exact ih.lit s h
  ·intro s h
   unfold zb
   split
   ·rename_i hk; exact integer_pg h (by rcases hk with hk | hk <;> rw [hk] <;> decide)
   split
   ·rename_i hk; exact Pg.tk (Pq.ok (h.take (by rw [hk]; decide)))
   split
   ·rename_i hk; exact Pg.tk (Pq.ok (h.take (by rw [hk]; decide)))
   split
   ·rename_i hk
    have h1:=h.take (by rw [hk]; decide)
    refine Pg.tk (Pq.bind (zh (btw:=0) (by decide) (fun s hs=>⟨Nat.le_refl _,hs⟩) (fun acc s hs _=>ih.elem s hs) f [] _ h1).1 (fun l s1 e1 hs1=>?_))
    have h2:Okq ts (if 32 < l.length then qR 73 ((l.map Nd.place).getD 32 0) s1 else s1)∧s1.pos≤(if 32 < l.length then qR 73 ((l.map Nd.place).getD 32 0) s1 else s1).pos:=by
     have hp:=places_getD (elems_place ih.elem h1 e1) 32
     split
     ·exact ⟨hs1.pass hp,by rw [(jD (c:=73) hs1.ok.place hp).2.2]; exact Nat.le_refl _⟩
     ·exact ⟨hs1,Nat.le_refl _⟩
    intro b s' e;obtain ⟨q1,q2⟩:=need_pq h2.1 (k:=9) (by decide) b s' e
    exact ⟨by omega,q2⟩
   ·exact Pg.bad
  ·intro s h
   unfold qX
   split
   ·rename_i hk; exact named_pg h (by rw [hk.1]; decide)
   ·exact ih.lit s h
  ·intro s h hk
   unfold zO;have h1:=h.take (by rw [hk]; decide)
   obtain ⟨p1,p2⟩:=params_pg f h1;refine Pg.tk (Pq.bind p1 (fun ps s1 e1 hs1=>?_))
   have hp:=toks_getD (p2 ps s1 e1) 8;have h2:Okq ts (if 8 < ps.length then qR 73 (ps.getD 8 zj).2 s1 else s1)∧s1.pos≤(if 8 < ps.length then qR 73 (ps.getD 8 zj).2 s1 else s1).pos:=by
    split
    ·exact ⟨hs1.pass hp,by rw [(jD (c:=73) hs1.ok.place hp).2.2]; exact Nat.le_refl _⟩
    ·exact ⟨hs1,Nat.le_refl _⟩
   dsimp only;generalize (if 8 < ps.length then qR 73 (ps.getD 8 zj).2 s1 else s1)=s2 at *
   have rest:∀ s3,Okq ts s3→Pq ts s3 (qF (qv ts f s3) fun tm s4=>qF (zg ts f 11 s4) fun l s5 =>
    some (.ok (Nd.mk 12 [] ps.length (hdT ts s).2 ((ps++tm).map (·.1.text)) ((ps++tm).map (·.2)) l) s5)):=fun s3 h3=>Pq.bind (qZ f h3) (fun tm s4 _ h4=>(Pg.bind (ih.body 11 s4 (by decide) h4) (fun l s5 _ h5=>Pq.ok h5)).q)
   by_cases hc:0 < ps.length∧qi ts 11 s2=false
   ·rw [if_pos hc]
    unfold qS
    by_cases hb:qi ts 12 s2=true
    ·rw [if_pos hb]
     dsimp only;have:=h2.1.take (by rw [qk hb]; decide)
     intro b s' e;obtain ⟨q1,q2⟩:=rest _ this b s' e;rw [zC] at q1;exact ⟨by omega,q2⟩
    ·rw [if_neg hb]; exact Pg.bad.q
   ·rw [if_neg hc]
    dsimp only;intro b s' e;obtain ⟨q1,q2⟩:=rest _ h2.1 b s' e;exact ⟨by omega,q2⟩
  ·intro s h
   unfold qA
   split
   ·rename_i hk
    exact Pg.tk (Pg.bind (ih.expr _ (h.take (by rw [qk hk]; decide))) (fun n s1 _ h1=>Pq.ok h1)).q
   ·exact ih.expr s h
  ·intro fin s hf h
   unfold zg;exact Pq.bindG (hbodyL fin s h) (fun l s1 _ h1=>need_pq h1 hf)
end Go.Proofs.YtfhkhmgodkheaaaGreatDoor
