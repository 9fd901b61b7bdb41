import Derived.Test.YtfhkhmgodkheaaaGreatDoorQCG02LRes
import Derived.Lib.Replace
import Derived.Laws.EntriesVeiled
set_option linter.unusedSimpArgs false
set_option linter.unusedVariables false
set_option maxRecDepth 1000000
set_option maxHeartbeats 16000000
namespace Go.Proofs.YtfhkhmgodkheaaaGreatDoor
open Go.RowKit
theorem indexByte_b (s:ByteArray) (c:Int) (k:Int) (h:Lib.indexByte s.data.toList c.toNat.toUInt8=k) (w:World):Calls Tryz.prog 71 #[.string s,.int .u8 c] w fun e w'=>e=.returned (.int .i64 k)∧w'=w:=by
 subst h; exact Tryz.strings_IndexByte s c w
theorem jH (s:ByteArray) (w:World):Calls Tryz.prog 41 #[.string s] w fun e w'=>e=.returned (.tuple #[.agg #[.int .i64 0,.string ⟨#[]⟩,.int .i64 0,.int .i64 0],.int .i64 0])∧w'=w.alloc (.cells #[.int .i64 0,.string ⟨#[]⟩,.int .i64 0,.int .i64 0] 54):=by
 go_enter Tryz.func41,Tryz.ntmps41
 go_wp2
 refine bodyPost_ret (v:=.tuple #[.agg #[.int .i64 0,.string ⟨#[]⟩,.int .i64 0,.int .i64 0],.int .i64 0]) (by simp [results,Tryz.results41,go_sem]) rfl ⟨rfl,rfl⟩
theorem Bl.alloc2 (w:World) (o o':Obj):Bl w ((w.alloc o).alloc o'):=(Bl.alloc w o).trans (Bl.alloc _ o')
theorem cutComment_ok (s:ByteArray) (w:World) (hs:s.size≤140737488355328) (h:hd (lst s)=34):Calls Tryz.prog 43 #[.string s] w fun e w'=>e=.returned (cv (zG (lst s)))∧Bl w w':=by
 have hq:=cutQ_cmt h
 have hp:=hd_lt h (by omega)
 rw [qo] at hp
 have hi:=indexByte_cmt ((lst s).drop 1)
 cases hc:cmt ((lst s).drop 1) with
 | none =>
  rw [hc] at hq hi;have hi':Lib.indexByte (s.extract 1 s.size).data.toList (34:Int).toNat.toUInt8=-1:=by
   rw [show (s.extract 1 s.size).data.toList=(lst s).drop 1 from lst_from s 1]; exact hi
  simp only at hq
  rw [hq];clear hq hi hc h
  go_enter Tryz.func43,Tryz.ntmps43
  go_wp2_with (first | (go_at_call 71; refine (indexByte_b _ 34 (-1) hi' _).mono ?_; rintro e w1 ⟨rfl,rfl⟩) | (go_at_call 41; refine (jH s _).mono ?_; rintro e w2 ⟨rfl,rfl⟩))
  refine bodyPost_ret (v:=cv (0,[],0,0)) (by simp [results,Tryz.results43,go_sem,cv,ba]) rfl ⟨rfl,Bl.alloc2 _ _ _⟩
 | some n =>
  have hn:=cmt_n _ _ hc;rw [List.length_drop,qo] at hn;rw [hc] at hq hi;have hi':Lib.indexByte (s.extract 1 s.size).data.toList (34:Int).toNat.toUInt8=(n:Int) - 1:=by
   rw [show (s.extract 1 s.size).data.toList=(lst s).drop 1 from lst_from s 1]; exact hi
  simp only at hq
  rw [hq];clear hq hi hc h
  go_enter Tryz.func43,Tryz.ntmps43
  go_wp2_with (first | (go_at_call 71; refine (indexByte_b _ 34 ((n:Int) - 1) hi' _).mono ?_; rintro e w1 ⟨rfl,rfl⟩) | (go_at_call 41; refine (jH s _).mono ?_; rintro e w2 ⟨rfl,rfl⟩))
  refine bodyPost_ret (v:=cv (0,[],0,n+1)) (by simp [results,Tryz.results43,go_sem,cv,ba]; omega) rfl ⟨rfl,Bl.alloc _ _⟩
theorem cutWord_ok (s:ByteArray) (w:World) (hs:s.size≤140737488355328) (h:isL (hd (lst s))=true):Calls Tryz.prog 44 #[.string s] w fun e w'=>e=.returned (cv (zG (lst s)))∧Bl w w':=by
 have hq:=cutQ_word h
 have hle:=jP (lst s)
 rw [qo] at hle
 have hn:=fun w=>jL s w hs
 have hk:=fun w=>kwLength_ok s w hs
 have ht:=qd (ba_upto s (qw (lst s)))
 by_cases k0:qT (lst s)=0
 ·rw [if_pos k0] at hq
  rw [hq];rw [k0] at hk;clear hq h k0;generalize qw (lst s)=n at *;have hle':(n:Int)≤s.size:=by omega
  go_enter Tryz.func44,Tryz.ntmps44
  go_wp2_with (first
   | (go_at_call 72; refine (hn _).mono ?_; rintro e w1 ⟨rfl,b1⟩; obtain ⟨hr1,bb1,lt1⟩:=res_in b1)
   | (go_at_call 73; refine (hk _).mono ?_; rintro e w2 ⟨rfl,b2⟩; have hr2:=(b2.block _ lt1).trans hr1; have bb2:=bb1.trans b2; obtain ⟨r0,r1,r2,r3,y0,y1,y2,y3⟩:=resF hr2))
  exact ret4 (1,(lst s).take n,0,n) Tryz.results44 hr2 bb2 (Nat.le_refl _) rfl rfl rfl (by rw [ht.out]) rfl rfl
 ·rw [if_neg k0] at hq
  rw [hq];clear hq h;generalize qw (lst s)=n at *;generalize qT (lst s)=m at *;have hle':(n:Int)≤s.size:=by omega
  have hm':(0:Int) < m:=by omega
  go_enter Tryz.func44,Tryz.ntmps44
  go_wp2_with (first
   | (go_at_call 72; refine (hn _).mono ?_; rintro e w1 ⟨rfl,b1⟩; obtain ⟨hr1,bb1,lt1⟩:=res_in b1)
   | (go_at_call 73; refine (hk _).mono ?_; rintro e w2 ⟨rfl,b2⟩; have hr2:=(b2.block _ lt1).trans hr1; have bb2:=bb1.trans b2; obtain ⟨r0,r1,r2,r3,y0,y1,y2,y3⟩:=resF hr2))
  exact ret4 (2,(lst s).take n,0,m) Tryz.results44 hr2 bb2 (Nat.le_refl _) rfl rfl rfl (by rw [ht.out]) rfl rfl
theorem cutBinary_ok (s:ByteArray) (w:World) (hs:s.size≤140737488355328) (h:isO (hd (lst s))=true):Calls Tryz.prog 47 #[.string s] w fun e w'=>e=.returned (cv (zG (lst s)))∧Bl w w':=by
 have hq:=cutQ_op h
 have hle:=opLen_le (lst s)
 rw [qo] at hle
 have hn:=fun w=>opLength_ok s w hs
 have ht:=qd (ba_upto s (zE (lst s)))
 rw [hq]
 clear hq h
 generalize zE (lst s)=n at *
 have hle':(n:Int)≤s.size:=by omega
 go_enter Tryz.func47,Tryz.ntmps47
 go_wp2_with (go_at_call 76; refine (hn _).mono ?_; rintro e w1 ⟨rfl,rfl⟩)
 refine bodyPost_ret (v:=cv (3,(lst s).take n,0,n)) (by simp [results,Tryz.results47,go_sem,cv,ht.out]) rfl ⟨rfl,Bl.alloc _ _⟩
theorem ret4' {f:Func} {V w:World} {B:Nat} {tm:Array Value} (x:Q4) (hres:f.results=#[.cell 2 54,.tmp 3])
  (hVb:V.heap[B]?=some (.cells #[.int .i64 x.1,.string (ba x.2.1),.int .i64 x.2.2.1,.int .i64 0] 54 (0,0))) (hVl:Bl w V)
  (h2:tm.getD 2 undef=.pointer (some ⟨B,0,none⟩)) (h3:tm.getD 3 undef=.int .i64 x.2.2.2) :
  bodyPost Tryz.prog f (fun e w'=>e=.returned (cv x)∧Bl w w') .ret ⟨tm,[]⟩ V:=by
 have x0:V.cell? ⟨B,0,none⟩=some (.int .i64 x.1):=by rw [qh hVb]; rfl
 have x1:V.cell? ⟨B,1,none⟩=some (.string (ba x.2.1)):=by rw [qh hVb]; rfl
 have x2:V.cell? ⟨B,2,none⟩=some (.int .i64 x.2.2.1):=by rw [qh hVb]; rfl
 have x3:V.cell? ⟨B,3,none⟩=some (.int .i64 0):=by rw [qh hVb]; rfl
 have h2':tm[2]?.getD undef=.pointer (some ⟨B,0,none⟩):=by simpa using h2
 have h3':tm[3]?.getD undef=.int .i64 x.2.2.2:=by simpa using h3
 refine bodyPost_ret (v:=cv x) (by simp [results,hres,go_sem,h2,h3,h2',h3',x0,x1,x2,x3,cv]) rfl ⟨rfl,hVl⟩
def marksL:List (Nat × Bs):=[(7,[35,40]),(14,[58,61]),(8,[40]),(9,[41]),(10,[91]),(11,[93]),(12,[124]),(13,[58]),(15,[94]),(16,[46]),(17,[59])]
def marksC:List Value:=marksL.flatMap fun x=>[.int .i64 x.1,.string (ba x.2)]
structure Tab (w:World):Prop where
 two:2 < w.heap.size
 mark:∀ i v,marksC[i]?=some v→w.cell? ⟨0,i,none⟩=some v
 max:∃ m,w.cell? ⟨2,0,none⟩=some (.int .i64 m)
theorem Tab.mono {w w':World} (h:Tab w) (b:Bl w w'):Tab w' where
 two:=Nat.lt_of_lt_of_le h.two b.size
 mark:=fun i v hv=>by rw [World.cell?_of_block (w:=w) (b.block 0 (by have:=h.two; omega))]; exact h.mark i v hv
 max:=by obtain ⟨m,hm⟩:=h.max; exact ⟨m,by rw [World.cell?_of_block (w:=w) (b.block 2 h.two)]; exact hm⟩
def markF:List (Nat × Bs)→Bs→Q4
 | [],_=>(0,[],0,0)
 | (k,t) :: r,l=>if Lib.hasPrefix l t=true then (k,[],0,t.length) else markF r l
def kdAt (k:Nat):Nat:=(marksL.getD k (0,[])).1
def txAt (k:Nat):Bs:=(marksL.getD k (0,[])).2
theorem load_marks {w:World} (hT:Tab w):(loadVar 120 ⟨0,0,none⟩).run Tryz.prog w=.ok (.agg marksC.toArray) w:=by
 have hl:(loadCells ⟨0,0,none⟩ marksC.length).run Tryz.prog w=.ok marksC.toArray w :=
  run_loadCells_list (P:=Tryz.prog) w ⟨0,0,none⟩ marksC (fun j v hv=>by
   have hadd:(⟨0,0,none⟩:Addr).add j=⟨0,j,none⟩:=by unfold Addr.add; split <;> simp_all
   rw [hadd];exact hT.mark j v hv)
 have hi:(Tryz.prog.info? 120).map (·.size)=some 22:=by kernel_rfl
 cases hq:Tryz.prog.info? 120 with
 | none=>simp [hq] at hi
 | some i =>
  have hs:i.size=22:=by simpa [hq] using hi
  have hagg:(isAgg 120).run Tryz.prog w=.ok true w:=by
   unfold isAgg;rw [Sem.run_bind,run_underlying Tryz.underlying120 w];rfl
  have e:marksC.length=22:=rfl;rw [e] at hl;simp [loadVar,Sem.run_bind,hagg,sizeOf,typeInfo,hq,hs,hl]
theorem index_marks {w:World} {k:Nat} (hk:k < 11):(Instr.index 120 (.agg marksC.toArray) (.int .i64 k)).run Tryz.prog w=.ok (.agg #[.int .i64 (kdAt k),.string (ba (txAt k))]) w:=by
 have hcase:k=0∨k=1∨k=2∨k=3∨k=4∨k=5∨k=6∨k=7∨k=8∨k=9∨k=10:=by omega
 have hi:(Tryz.prog.info? 119).map (·.size)=some 2:=by kernel_rfl
 rcases hcase with rfl | rfl | rfl | rfl | rfl | rfl | rfl | rfl | rfl | rfl | rfl <;> simp [Instr.index,go_sem,Tryz.underlying120,marksC,marksL] <;> exact ⟨rfl,rfl⟩
theorem Bl.drew (w:World):Bl w w.drew:=⟨rfl,rfl,rfl,Nat.le_refl _,fun _ _=>rfl⟩
theorem set4_heap {W:World} {B:Nat} (hr:W.heap[B]?=some z4) (a b c d:Value):((((W.setCell ⟨B,0,none⟩ a).setCell ⟨B,1,none⟩ b).setCell ⟨B,2,none⟩ c).setCell ⟨B,3,none⟩ d).heap[B]?=some (.cells #[a,b,c,d] 54 (0,0)):=by
 rw [zc (zc (zc (zc hr 0 _) 1 _) 2 _) 3 _]
 rfl
theorem set4_bl {w W:World} {B:Nat} (hb:Bl w W) (hB:w.heap.size≤B) (a b c d:Value):Bl w ((((W.setCell ⟨B,0,none⟩ a).setCell ⟨B,1,none⟩ b).setCell ⟨B,2,none⟩ c).setCell ⟨B,3,none⟩ d) :=
 jy (jy (jy (jy hb hB 0 _) hB 1 _) hB 2 _) hB 3 _
theorem wpList_loadV {ops:Array Oper} {rest:List Oper} {o:Oper} {a:Act} {w:World} {Q:Exit→Act→World→Prop} (hgd:o.guard=none) (ty:TypeId) (x:Operand) (ho:o.op=.load ty x)
  (g:Addr) (hx:a.eval x=.pointer (some g)) {v:Value} (hl:(loadVar ty g).run Tryz.prog w=.ok v w)
  (h:wpList Tryz.prog ops Q rest (a.put o.dst v) w):wpList Tryz.prog ops Q (o :: rest) a w:=by
 refine wpList_plain hgd fun K hK=>?_
 unfold Oper.wp execOp
 simp only [ho,hx,Instr.loadAt,Instr.sureAddr,Sem.run_bind,Sem.run_pure,Result.andThen_ok,hl]
 exact hK _ _ h
theorem markF_at {k:Nat} (hk:k < 11) (l:Bs):markF (marksL.drop k) l=if Lib.hasPrefix l (txAt k)=true then (kdAt k,[],0,(txAt k).length) else markF (marksL.drop (k+1)) l:=by
 have e:marksL.drop k=(kdAt k,txAt k) :: marksL.drop (k+1):=by
  have hcase:k=0∨k=1∨k=2∨k=3∨k=4∨k=5∨k=6∨k=7∨k=8∨k=9∨k=10:=by omega
  rcases hcase with rfl | rfl | rfl | rfl | rfl | rfl | rfl | rfl | rfl | rfl | rfl <;> rfl
 rw [e]
 rfl
theorem cutMark_ok (s:ByteArray) (w:World) (hT:Tab w):Calls Tryz.prog 49 #[.string s] w fun e w'=>e=.returned (cv (markF marksL (lst s)))∧Bl w w':=by
 obtain ⟨MV,hMV⟩:∃ MV:Value,MV=.agg marksC.toArray:=⟨_,rfl⟩
 have hlv:∀ o,(loadVar 120 ⟨0,0,none⟩).run Tryz.prog (w.alloc o)=.ok MV (w.alloc o):=fun o=>by rw [hMV]; exact load_marks (hT.mono (Bl.alloc w o))
 have hix:∀ k:Nat,k < 11→∀ W,(Instr.index 120 MV (.int .i64 k)).run Tryz.prog W=.ok (.agg #[.int .i64 (kdAt k),.string (ba (txAt k))]) W:=fun k hk W=>by rw [hMV]; exact index_marks hk
 clear hMV hT
 go_enter Tryz.func49,Tryz.ntmps49
 go_wp2_with (refine wpList_loadV rfl 120 _ rfl ⟨0,0,none⟩ rfl (hlv _) ?_)
 clear hlv
 go_loopw [7] (fun q wr=>∃ k:Nat,k≤11∧q=.int .i64 k∧Hid (markF marksL (lst s)=markF (marksL.drop k) (lst s)∧wr.heap[w.heap.size]?=some z4∧Bl w wr)) (fun q _=>11 - (intOf q).toNat)
 case atStart=>exact ⟨0,by omega,rfl,rfl,heap_alloc_new w _,Bl.alloc w _⟩
 case round =>
  obtain ⟨k,hk,rfl,hH⟩:=hrel;obtain ⟨r0,r1,r2,r3,y0,y1,y2,y3⟩:=resF hH.out.2.1;have hlt:=qf hH.out.2.1
  by_cases hk11:k < 11
  ·have hx:=hix k hk11
   have hki:(k:Int) < 11:=by omega
   clear hix
   by_cases hp:Lib.hasPrefix (lst s) (txAt k)=true
   ·have hV:markF marksL (lst s)=(kdAt k,[],0,(txAt k).length):=by rw [hH.out.1,markF_at hk11,if_pos hp]
    have hp':Lib.hasPrefix s.data.toList (ba (txAt k)).data.toList=true:=by
     rw [show (ba (txAt k)).data.toList=txAt k from qJ _]; exact hp
    have HV:=qd hV;clear hV hp;generalize kdAt k=kd at *;generalize txAt k=tx at *
    go_wp2_with (go_at_call 78; refine (prefix_b s _ true hp' _).mono ?_; rintro e w1 ⟨rfl,rfl⟩)
    go_region
    go_wp2
    rw [HV.out];exact ret4' (kd,[],0,tx.length) Tryz.results49 ((Below.heap_alloc _ _ _ (qf (set4_heap hH.out.2.1 _ _ _ _))).trans (set4_heap hH.out.2.1 _ _ _ _)) (((set4_bl hH.out.2.2 (Nat.le_refl _) _ _ _ _).trans (Bl.alloc _ _)).trans (Bl.drew _)) rfl (by show Value.int .i64 ((ba tx).size:Int)=_; rw [← qo,qJ])
   ·have hV:markF marksL (lst s)=markF (marksL.drop (k+1)) (lst s):=by rw [hH.out.1,markF_at hk11,if_neg hp]
    have hp':Lib.hasPrefix s.data.toList (ba (txAt k)).data.toList=false:=by
     rw [show (ba (txAt k)).data.toList=txAt k from qJ _]; simpa [lst] using hp
    have HV:=qd hV;clear hV hp;generalize kdAt k=kd at *;generalize txAt k=tx at *
    go_wp2_with (go_at_call 78; refine (prefix_b s _ false hp' _).mono ?_; rintro e w1 ⟨rfl,rfl⟩)
    go_roundw
    case rel=>exact ⟨k+1,by omega,by simp,HV.out,(Below.heap_alloc _ _ _ hlt).trans hH.out.2.1,hH.out.2.2.trans (Bl.alloc _ _)⟩
    case measure=>simp [intOf]; omega
  ·have hk':k=11:=by omega
   have hV:markF marksL (lst s)=(0,[],0,0):=by rw [hH.out.1,hk']; rfl
   have HV:=qd hV;clear hV hk hk11 hix;subst hk'
   go_wp2_with (go_at_call 41; fail)
   go_wp2_with (go_at_call 41; refine (jH s _).mono ?_; rintro e w2 ⟨rfl,rfl⟩)
   rw [HV.out];exact ret4' (0,[],0,0) Tryz.results49 ((Below.heap_alloc _ _ _ (qf (set4_heap hH.out.2.1 _ _ _ _))).trans (set4_heap hH.out.2.1 _ _ _ _)) ((set4_bl hH.out.2.2 (Nat.le_refl _) _ _ _ _).trans (Bl.alloc _ _)) rfl rfl
theorem markF_is (l:Bs):markF marksL l=if hd l=35∧hd (l.drop 1)=40 then (7,[],0,2) else if hd l=58∧hd (l.drop 1)=61 then (14,[],0,2) else if markK (hd l)=0 then (0,[],0,0) else (markK (hd l),[],0,1):=by
 unfold marksL
 simp only [markF,pre1,pre2,decide_eq_true_eq]
 unfold markK
 simp only [show UInt8.toNat 35=35 from rfl,show UInt8.toNat 40=40 from rfl,show UInt8.toNat 58=58 from rfl,show UInt8.toNat 61=61 from rfl,show UInt8.toNat 41=41 from rfl,show UInt8.toNat 91=91 from rfl,show UInt8.toNat 93=93 from rfl,show UInt8.toNat 124=124 from rfl,show UInt8.toNat 94=94 from rfl,show UInt8.toNat 46=46 from rfl,show UInt8.toNat 59=59 from rfl]
 generalize hd l=n
 generalize hd (l.drop 1)=m
 by_cases h35:n=35
 ·subst h35; simp
 by_cases h58:n=58
 ·subst h58; simp
 by_cases h40:n=40
 ·subst h40; simp
 by_cases h41:n=41
 ·subst h41; simp
 by_cases h91:n=91
 ·subst h91; simp
 by_cases h93:n=93
 ·subst h93; simp
 by_cases h124:n=124
 ·subst h124; simp
 by_cases h94:n=94
 ·subst h94; simp
 by_cases h46:n=46
 ·subst h46; simp
 by_cases h59:n=59
 ·subst h59; simp
 simp [h35,h58,h40,h41,h91,h93,h124,h94,h46,h59]
end Go.Proofs.YtfhkhmgodkheaaaGreatDoor
namespace Go.Proofs.YtfhkhmgodkheaaaGreatDoor
open Go.RowKit Go.Lib
theorem ra_def {u old new:Bs} (hne:¬ (old == new)=true):replaceAll u old new=replaceK old new (count u old) u:=by
 unfold replaceAll replace replaceNum
 rw [if_neg hne,if_pos (Or.inl (by decide))]
theorem ra_skip {c:UInt8} {u old new:Bs} (hne:¬ (old == new)=true) (h0:old≠[]) (hp:old.isPrefixOf (c :: u)=false):replaceAll (c :: u) old new=c :: replaceAll u old new:=by
 rw [ra_def hne,ra_def hne]
 have hi:index (c :: u) old=if index u old == -1 then -1 else index u old+1:=by
  rw [index,hp]; rfl
 by_cases hm:index u old=-1
 ·rw [hm] at hi
  rw [count_miss hm,count_miss (by rw [hi]; rfl)]
  rfl
 ·have hge:=index_ge u old
  obtain ⟨i,hiu⟩:∃ i:Nat,index u old=i:=⟨(index u old).toNat,by omega⟩
  have hic:index (c :: u) old=((i+1:Nat):Int):=by
   rw [hi,hiu,if_neg (by simp)]
   simp
  have e:(c :: u).drop (i+1+old.length)=u.drop (i+old.length):=by
   rw [show i+1+old.length=(i+old.length)+1 by omega]; rfl
  rw [count_hit h0 hic,count_hit h0 hiu,Nat.add_comm 1,Nat.add_comm 1,replaceK_hit _ _ _ _ _ hic,replaceK_hit _ _ _ _ _ hiu,e];rfl
theorem ra_hit {u old new:Bs} (hne:¬ (old == new)=true) (h0:old≠[]):replaceAll (old++u) old new=new++replaceAll u old new:=by
 rw [ra_def hne,ra_def hne]
 have hi:index (old++u) old=((0:Nat):Int):=by
  cases old with
  | nil=>exact absurd rfl h0
  | cons a t =>
   rw [List.cons_append,index,if_pos]
   ·rfl
   ·rw [← List.cons_append]; simp
 have e:(old++u).drop (0+old.length)=u:=by simp
 rw [count_hit h0 hi,e,Nat.add_comm 1,replaceK_hit _ _ _ _ _ hi,e]
 simp
theorem ra_nil {old new:Bs} (hne:¬ (old == new)=true) (h0:old≠[]):replaceAll [] old new=[]:=by
 rw [ra_def hne]
 have:index [] old=-1:=by rw [index,if_neg]; simpa using h0
 rw [count_miss this]
 rfl
inductive Pd:Bs→Bs→Prop
 | nil:Pd [] []
 | one (c:UInt8) (u p:Bs):c.toNat≠39→Pd u p→Pd (c :: u) (c :: p)
 | two (u p:Bs):Pd u p→Pd (39 :: 39 :: u) (39 :: p)
theorem Pd.append {u p v q:Bs} (h:Pd u p) (k:Pd v q):Pd (u++v) (p++q):=by
 induction h with
 | nil=>exact k
 | one c u p hc _ ih=>exact .one c _ _ hc ih
 | two u p _ ih=>exact .two _ _ ih
theorem Pd.says {u p:Bs} (h:Pd u p):replaceAll u [39,39] [39]=p:=by
 have hne:¬ (([39,39]:Bs) == [39])=true:=by decide
 induction h with
 | nil=>exact ra_nil hne (by decide)
 | one c u p hc _ ih =>
  rw [ra_skip hne (by decide),ih]
  have hb:((39:UInt8) == c)=false:=by rw [beq_eq_false_iff_ne]; intro e; exact hc (by rw [← e]; rfl)
  rw [List.isPrefixOf_cons_cons,hb];rfl
 | two u p _ ih =>
  have:=ra_hit (u:=u) (old:=[39,39]) (new:=[39]) hne (by decide)
  rw [ih] at this;exact this
theorem txt_one {c:UInt8} {l:Bs} (h:c.toNat≠39):txt (c :: l)=(txt l).map (fun x=>(c :: x.1,x.2+1)):=by
 cases l with
 | nil=>simp [txt,h]
 | cons d r =>
        conv=>lhs; unfold txt
        rw [if_neg h]
theorem txt_two (c d:UInt8) (l:Bs) (hc:c.toNat=39) (hd:d.toNat=39):txt (c :: d :: l)=(txt l).map (fun x=>(c :: x.1,x.2+2)):=by
 conv=>lhs; unfold txt
 rw [if_pos hc,if_pos hd]
theorem txt_end {c:UInt8} {l:Bs} (hc:c.toNat=39) (h:hd l≠39):txt (c :: l)=some ([],1):=by
 cases l with
 | nil=>simp [txt,hc]
 | cons d r =>
  unfold txt;rw [if_pos hc,if_neg (show ¬ d.toNat=39 from h)]
theorem cutQ_text {l:Bs} (h:hd l=39):zG l=match txt (l.drop 1) with | none=>(0,[],0,0) | some x=>(6,x.1,0,x.2+1):=by
 cases l with
 | nil=>simp [hd] at h
 | cons c r =>
  have h':c.toNat=39:=h;have e:(c :: r).drop 1=r:=rfl;unfold zG cut;rw [e];simp only [h',show isB 39=false from rfl,show isL 39=false from rfl,show isD 39=false from rfl,show isO 39=false from rfl]
  cases txt r <;> simp
theorem cutQ_int {l:Bs} (h:isD (hd l)=true):zG l=if jI (l.take (zT l))≤1073741824 then (4,[],jI (l.take (zT l)),zT l) else (0,[],0,0):=by
 cases l with
 | nil=>simp [hd,isD] at h
 | cons c r =>
  have h':isD c.toNat=true:=h;have h2:=h';rw [isD_iff] at h2;have hb:isB c.toNat=false:=by rw [Bool.eq_false_iff]; intro h3; rw [isB_iff] at h3; omega
  have hL:isL c.toNat=false:=by rw [Bool.eq_false_iff]; intro h3; rw [isL_iff] at h3; omega
  have hq:¬ c.toNat=34:=by omega
  unfold zG cut;simp only [hb,hL,hq,h',if_true,if_false,Bool.false_eq_true]
  by_cases hn:jI ((c :: r).take (zT (c :: r)))≤1073741824
  ·rw [if_pos hn,if_pos hn]
  ·rw [if_neg hn,if_neg hn]
theorem numOf_snoc (l:Bs) (c:UInt8):jI (l++[c])=10 * jI l+(c.toNat - 48):=by simp [jI]
theorem numOf_take {l:Bs} {k:Nat} (hk:k < l.length):jI (l.take (k+1))=10 * jI (l.take k)+(hd (l.drop k) - 48):=by
 rw [List.take_succ_eq_append_getElem hk,numOf_snoc,hd_drop hk]
theorem numOf_mono {l:Bs} {k n:Nat} (h:k≤n) (hn:n≤l.length):jI (l.take k)≤jI (l.take n):=by
 induction n with
 | zero =>
      have:k=0:=by omega
      subst this; exact Nat.le_refl _
 | succ n ih =>
  by_cases e:k=n+1
  ·subst e; exact Nat.le_refl _
  ·have:=ih (by omega) (by omega)
   rw [numOf_take (by omega)]
   omega
end Go.Proofs.YtfhkhmgodkheaaaGreatDoor
namespace Go.Proofs.YtfhkhmgodkheaaaGreatDoor
open Go.RowKit
theorem cutHash_ok (s:ByteArray) (w:World) (hT:Tab w) (hs:s.size≤140737488355328) (h:hd (lst s)=35):Calls Tryz.prog 46 #[.string s] w fun e w'=>e=.returned (cv (zG (lst s)))∧Bl w w':=by
 have hq:=cutQ_hash h
 have hp:=hd_lt h (by omega)
 rw [qo] at hp
 have hle:=symLen_le ((lst s).drop 1)
 rw [List.length_drop,qo] at hle
 have hsy:=fun w=>symLength_ok (s.extract 1 s.size) w (by rw [size_from]; omega)
 rw [lst_from] at hsy
 by_cases k0:zr ((lst s).drop 1)=0
 ·rw [if_pos k0] at hq
  have hm:=markF_is (lst s);rw [h,if_neg (show ¬ ((35:Nat)=58∧_) by omega),show markK 35=0 from rfl] at hm
  simp only [true_and,if_true] at hm
  rw [← hm] at hq;have hM:∀ W,Tab W→Calls Tryz.prog 49 #[.string s] W fun e w'=>e=.returned (.tuple #[.agg #[.int .i64 (zG (lst s)).1,.string (ba (zG (lst s)).2.1),.int .i64 (zG (lst s)).2.2.1,.int .i64 0],.int .i64 (zG (lst s)).2.2.2])∧Bl W w':=fun W hW=>by
   have:=cutMark_ok s W hW;rw [← hq] at this;exact this
  rw [k0] at hsy;clear hq hm k0 hle;generalize zG (lst s)=x at *;obtain ⟨x1,x2,x3,x4⟩:=x;dsimp only at hM
  go_enter Tryz.func46,Tryz.ntmps46
  go_wp2_with (first
   | (go_at_call 75; refine (hsy _).mono ?_; rintro e w1 ⟨rfl,b1⟩; obtain ⟨hr1,bb1,lt1⟩:=res_in b1)
   | (go_at_call 49; refine (hM _ (hT.mono bb1)).mono ?_; rintro e w2 ⟨rfl,b2⟩; have hr2:=(b2.block _ lt1).trans hr1; have bb2:=bb1.trans b2; obtain ⟨r0,r1,r2,r3,y0,y1,y2,y3⟩:=resF hr2))
  exact ret4 (x1,x2,x3,x4) Tryz.results46 hr2 bb2 (Nat.le_refl _) rfl rfl rfl rfl rfl rfl
 ·rw [if_neg k0] at hq
  rw [hq];have ht:=qd (ba_mid s 1 (1+zr ((lst s).drop 1)));rw [show 1+zr ((lst s).drop 1) - 1=zr ((lst s).drop 1) by omega] at ht
  clear hq;generalize zr ((lst s).drop 1)=n at *;have hn:(1:Int)+n≤s.size:=by omega
  have hn1:1+n≤s.size:=by omega
  have hsl:∀ W,(Instr.slice 9 (.string s) (some (.int .i64 1)) (some (.int .i64 (1+(n:Int)))) none).run Tryz.prog W=.ok (.string (s.extract 1 (1+n))) W:=fun W=>by
   have h5:=run_slice_string (P:=Tryz.prog) W 9 s .i64 .i64 1 (1+(n:Int)) Tryz.underlying9 (by omega) (by omega) (by omega)
   rw [h5,show (1+(n:Int)).toNat=1+n by omega]
   rfl
  go_enter Tryz.func46,Tryz.ntmps46
  go_wp2_with (go_at_call 75; refine (hsy _).mono ?_; rintro e w1 ⟨rfl,b1⟩; obtain ⟨hr1,bb1,lt1⟩:=res_in b1; obtain ⟨r0,r1,r2,r3,y0,y1,y2,y3⟩:=resF hr1)
  exact ret4 (5,((lst s).drop 1).take n,0,n+1) Tryz.results46 hr1 bb1 (Nat.le_refl _) rfl (by show Value.int .i64 ((1:Int)+n)=.int .i64 ((n+1:Nat):Int); congr 1; omega) rfl (by rw [ht.out]) rfl rfl
theorem cutInt_ok (s:ByteArray) (w:World) (hs:s.size≤140737488355328) (h:isD (hd (lst s))=true):Calls Tryz.prog 45 #[.string s] w fun e w'=>e=.returned (cv (zG (lst s)))∧Bl w w':=by
 have hq:=qd (cutQ_int h)
 have hle:=digLen_le (lst s)
 rw [qo] at hle
 have hdg:=fun w=>digLength_ok s w hs
 have hD:∀ j,j < zT (lst s)→isD (hd ((lst s).drop j))=true:=fun j hj=>by
  obtain ⟨c,e,hc⟩:=tw_hd dN (lst s) j hj;rw [e]; exact hc
 have hlx:lst (s.extract 0 (zT (lst s)))=(lst s).take (zT (lst s)):=by rw [lst_mid]; simp
 generalize zT (lst s)=n at *
 have hszx:(s.extract 0 n).size=n:=by rw [← qo,hlx,List.length_take,qo]; omega
 have hn:(n:Int)≤s.size:=by omega
 have hx:∀ j,j < n→hd ((lst (s.extract 0 n)).drop j)=hd ((lst s).drop j):=fun j hj=>by
  rw [hlx,List.drop_take];obtain ⟨m,hm⟩:∃ m,n - j=m+1:=⟨n - j - 1,by omega⟩
  rw [hm]
  cases (lst s).drop j with
  | nil=>rfl
  | cons c r=>rfl
 have hnt:∀ j,j < n→jI ((lst s).take (j+1))=10 * jI ((lst s).take j)+(hd ((lst s).drop j) - 48):=fun j hj=>numOf_take (by rw [qo]; omega)
 have hmo:∀ j,j≤n→jI ((lst s).take j)≤jI ((lst s).take n):=fun j hj=>numOf_mono hj (by rw [qo]; omega)
 clear hlx
 obtain ⟨t,ht⟩:∃ t,t=s.extract 0 n:=⟨_,rfl⟩
 rw [← ht] at hszx hx
 have HT:=qd ht
 clear ht
 go_enter Tryz.func45,Tryz.ntmps45
 go_wp2_with (go_at_call 74; refine (hdg _).mono ?_; rintro e w1 ⟨rfl,b1⟩; obtain ⟨hr1,bb1,lt1⟩:=res_in b1)
 rw [← HT.out]
 go_loopw [5] (fun q wr=>∃ pos:Nat,wr.heap[w1.heap.size]?=some (.stringIter t pos)∧pos≤n∧q=.int .i64 (jI ((lst s).take pos))∧jI ((lst s).take pos)≤1073741824∧Hid (wr.heap[w.heap.size]?=some z4∧Bl w wr)) (fun _ wr=>n - wr.iterPos w1.heap.size)
 case atStart =>
  refine ⟨0,?_,Nat.zero_le _,rfl,by simp [jI],?_,bb1.trans (Bl.alloc _ _)⟩
  ·have:=World.iter_heap w1 t 0
   simpa using this
  ·exact (Below.heap_alloc _ _ _ lt1).trans hr1
 case round =>
  obtain ⟨pos,hit,hpn,rfl,hmax,hH⟩:=hrel;obtain ⟨r0,r1,r2,r3,y0,y1,y2,y3⟩:=resF hH.out.1
  by_cases hp:pos < n
  ·have hpt:pos < t.size:=by omega
   have hd1:=hD pos hp;have hx1:=hx pos hp;have hn1:=hnt pos hp;have hm1:=hmo (pos+1) hp;rw [isD_iff] at hd1;have hb:=get_lst t pos hpt;rw [hx1] at hb;have hnx:∀ ty,(Instr.next (.pointer (some ⟨w1.heap.size,0,none⟩)) true ty).run Tryz.prog wr=_:=fun ty=>Lib.run_next_ascii_at wr w1.heap.size t pos ty hit hpt (by rw [← hb]; omega)
   have hit2:=Lib.iterAt_heap wr w1.heap.size t pos (pos+1) hit;have hne:w.heap.size≠w1.heap.size:=by omega
   have hH2:Hid ((wr.iterAt w1.heap.size t (pos+1)).heap[w.heap.size]?=some z4∧Bl w (wr.iterAt w1.heap.size t (pos+1))) :=
    ⟨(Lib.iterAt_other wr w1.heap.size w.heap.size t (pos+1) hne).trans hH.out.1,Lib.below_iterAt hH.out.2 (by omega) t (pos+1)⟩
   obtain ⟨q0,q1,q2,q3,z0,z1,z2,z3⟩:=resF hH2.out.1;rw [← hb] at hnx;generalize wr.iterAt w1.heap.size t (pos+1)=W at *;have hlW:=qf hH2.out.1;clear hb hx1 hnt hmo hD hx r0 r1 r2 r3 y0 y1 y2 y3;generalize hd ((lst s).drop pos)=c at *;generalize jI ((lst s).take pos)=v at *;have hcv:(48:Int)≤c∧(c:Int)≤57:=by omega
   by_cases hbig:1073741824 < 10 * v+(c - 48)
   ·have hQ:zG (lst s)=(0,[],0,0):=by rw [hq.out,if_neg (by omega)]
    have hgt:((1073741824:Int) - ((c:Int) - 48)) / 10 < v:=by omega
    have HQ:=qd hQ;clear hQ
    go_wp2_with (go_at_call 41; refine (jH s _).mono ?_; rintro e w2 ⟨rfl,rfl⟩)
    rw [HQ.out];exact ret4' (0,[],0,0) Tryz.results45 ((Below.heap_alloc _ _ _ (qf (set4_heap hH2.out.1 _ _ _ _))).trans (set4_heap hH2.out.1 _ _ _ _)) ((set4_bl hH2.out.2 (Nat.le_refl _) _ _ _ _).trans (Bl.alloc _ _)) rfl rfl
   ·have hle2:¬ ((1073741824:Int) - ((c:Int) - 48)) / 10 < v:=by omega
    go_wp2_with (go_at_call 41; refine (jH s _).mono ?_; rintro e w2 ⟨rfl,rfl⟩)
    go_roundw
    case rel=>exact ⟨pos+1,hit2,by omega,by rw [hn1]; simp; omega,by omega,hH2.out.1,hH2.out.2⟩
    case measure=>simp only [World.iterPos,hit2,hit]; omega
  ·have hpe:pos=n:=by omega
   subst hpe;have hnx:∀ ty,(Instr.next (.pointer (some ⟨w1.heap.size,0,none⟩)) true ty).run Tryz.prog wr=_:=fun ty=>Lib.run_next_end_at wr w1.heap.size t pos ty hit (by omega)
   have hQ:=qd (show zG (lst s)=(4,[],jI ((lst s).take pos),pos) by rw [hq.out,if_pos hmax])
   go_wp2
   go_wp2
   rw [hQ.out];exact ret4 (4,[],jI ((lst s).take pos),pos) Tryz.results45 hH.out.1 hH.out.2 (Nat.le_refl _) rfl rfl rfl rfl rfl rfl
theorem replaceAll_b (s old new:ByteArray) (p:Bs) (w:World) (hT:Tab w) (hs:s.size < 4294967281) (h1:1≤old.size) (hlen:s.size+Lib.countB s old * new.size≤140737488355328) (hp:Lib.replaceAll s.data.toList old.data.toList new.data.toList=p) :
  Calls Tryz.prog 77 #[.string s,.string old,.string new] w fun e w'=>e=.returned (.string (ba p))∧Bl w w':=by
 subst hp
 obtain ⟨m,hm⟩:=hT.max
 exact Tryz.strings_ReplaceAll s old new m w hs hm h1 hlen
theorem cutText_ok (s:ByteArray) (w:World) (hT:Tab w) (hs:s.size≤4096) (h:hd (lst s)=39):Calls Tryz.prog 48 #[.string s] w fun e w'=>e=.returned (cv (zG (lst s)))∧Bl w w':=by
 have hq:=qd (cutQ_text h)
 have hp:=hd_lt h (by omega)
 rw [qo] at hp
 have HT:=qd (fun o=>hT.mono (Bl.alloc w o))
 clear h hT
 go_enter Tryz.func48,Tryz.ntmps48
 go_wp2
 go_loopw [4] (fun q wr=>∃ i:Nat,1≤i∧i≤s.size∧q=.int .i64 i∧wr=w.alloc (.cells #[.int .i64 0,.string ⟨#[]⟩,.int .i64 0,.int .i64 0] 54)∧Hid (∃ pre,Pd (((lst s).drop 1).take (i - 1)) pre∧txt ((lst s).drop 1)=(txt ((lst s).drop i)).map (fun x=>(pre++x.1,x.2+(i - 1))))) (fun q _=>s.size - (intOf q).toNat)
 case atStart=>exact ⟨1,Nat.le_refl _,hp,rfl,rfl,[],.nil,by simp⟩
 case round =>
  obtain ⟨i,hi1,hi2,rfl,rfl,hH⟩:=hrel;obtain ⟨pre,hPd,htx⟩:=hH.out
  by_cases hlt:i < s.size
  ·have hli:(i:Int) < s.size:=by omega
   have hb:=get_lst s i hlt;have hdr:(lst s).drop i=s[i]'hlt :: (lst s).drop (i+1):=List.drop_eq_getElem_cons (by rw [qo]; exact hlt)
   have htk:((lst s).drop 1).take i=((lst s).drop 1).take (i - 1)++[s[i]'hlt]:=by
    have h1:i - 1 < ((lst s).drop 1).length:=by rw [List.length_drop,qo]; omega
    have h2:=List.take_succ_eq_append_getElem h1;rw [show i - 1+1=i by omega] at h2
    rw [h2]
    congr 2
    rw [List.getElem_drop];simp only [show 1+(i - 1)=i by omega]
    rfl
   by_cases c39:(s[i]'hlt).toNat=39
   ·have c39':((s[i]'hlt).toNat:Int)=39:=by omega
    by_cases hend:i+1=s.size
    ·have hie:(i:Int)+1=s.size:=by omega
     have hnx:hd ((lst s).drop (i+1))≠39:=by rw [hd_drop_end (by rw [qo]; omega)]; omega
     have hQ:zG (lst s)=(6,pre,0,i+1):=by
      rw [hq.out,htx,hdr,txt_end c39 hnx];simp;omega
     have HQ:=qd hQ;have hrep:Lib.replaceAll (s.extract 1 i).data.toList (⟨#[39,39]⟩:ByteArray).data.toList (⟨#[39]⟩:ByteArray).data.toList=pre:=by
      rw [show (s.extract 1 i).data.toList=((lst s).drop 1).take (i - 1) from lst_mid s 1 i]
      exact hPd.says
     have hsz:(s.extract 1 i).size≤4096:=by rw [← qo,lst_mid,List.length_take,List.length_drop,qo]; omega
     have hcl:(s.extract 1 i).size+Lib.countB (s.extract 1 i) ⟨#[39,39]⟩ * (⟨#[39]⟩:ByteArray).size≤140737488355328:=by
      have h6:=Lib.count_le (s.extract 1 i).data.toList (⟨#[39,39]⟩:ByteArray).data.toList;have h7:(s.extract 1 i).data.toList.length=(s.extract 1 i).size:=rfl;have h8:(⟨#[39]⟩:ByteArray).size=1:=rfl;unfold Lib.countB;rw [h8];omega
     have hsl:∀ W,(Instr.slice 9 (.string s) (some (.int .i64 1)) (some (.int .i64 (i:Int))) none).run Tryz.prog W=.ok (.string (s.extract 1 i)) W:=fun W=>by
      have h5:=run_slice_string (P:=Tryz.prog) W 9 s .i64 .i64 1 (i:Int) Tryz.underlying9 (by omega) (by omega) (by omega)
      rw [h5];rfl
     clear hQ hdr htk hH hPd htx hb c39 hnx
     go_wp2_with (go_at_call 77; refine (replaceAll_b (s.extract 1 i) ⟨#[39,39]⟩ ⟨#[39]⟩ pre _ (HT.out _) (by omega) (by decide) hcl hrep).mono ?_; rintro e w1 ⟨rfl,b1⟩; obtain ⟨hr1,bb1,lt1⟩:=res_in b1; obtain ⟨r0,r1,r2,r3,y0,y1,y2,y3⟩:=resF hr1)
     rw [HQ.out];exact ret4 (6,pre,0,i+1) Tryz.results48 hr1 bb1 (Nat.le_refl _) rfl (by show Value.int .i64 (s.size:Int)=.int .i64 ((i+1:Nat):Int); congr 1; omega) rfl rfl rfl rfl
    ·have hlt2:i+1 < s.size:=by omega
     have hie:(i:Int)+1 < s.size:=by omega
     have hb2:=get_lst s (i+1) hlt2
     by_cases d39:(s[i+1]'hlt2).toNat=39
     ·have d39':((s[i+1]'hlt2).toNat:Int)=39:=by omega
      have hdr2:(lst s).drop (i+1)=s[i+1]'hlt2 :: (lst s).drop (i+2):=List.drop_eq_getElem_cons (by rw [qo]; exact hlt2)
      have e39:∀ c:UInt8,c.toNat=39→c=39:=fun c hc=>UInt8.toNat_inj.1 hc
      have hH2:Hid (∃ pre,Pd (((lst s).drop 1).take (i+2 - 1)) pre∧txt ((lst s).drop 1)=(txt ((lst s).drop (i+2))).map (fun x=>(pre++x.1,x.2+(i+2 - 1)))):=by
       refine ⟨pre++[39],?_,?_⟩
       ·have h1:i < ((lst s).drop 1).length:=by rw [List.length_drop,qo]; omega
        have h2:=List.take_succ_eq_append_getElem h1;rw [show i+2 - 1=i+1 by omega,h2,htk,List.append_assoc]
        have h3:((lst s).drop 1)[i]=39:=by
         rw [List.getElem_drop];simp only [show 1+i=i+1 by omega]
         exact e39 _ d39
        rw [h3,e39 _ c39];exact hPd.append (.two _ _ .nil)
       ·rw [htx,hdr,hdr2,txt_two _ _ _ c39 d39,Option.map_map,e39 _ c39]
        congr 1
        funext x
        simp
        omega
      clear hdr hdr2 htk hH hPd htx hb hb2 c39 d39
      go_wp2_with fail
      go_roundw
      case rel=>exact ⟨i+2,by omega,by omega,by simp; omega,by simp,hH2.out⟩
      case measure=>simp [intOf]; omega
     ·have d39':((((s[i+1]'hlt2).toNat:Int)) != 39)=true:=by rw [bne_iff_ne]; omega
      have hieb:((i:Int)+1 == (s.size:Int))=false:=by rw [beq_eq_false_iff_ne]; omega
      have hnx:hd ((lst s).drop (i+1))≠39:=by rw [hb2]; exact d39
      clear hb2 d39;have hQ:zG (lst s)=(6,pre,0,i+1):=by
       rw [hq.out,htx,hdr,txt_end c39 hnx];simp;omega
      have HQ:=qd hQ;have hrep:Lib.replaceAll (s.extract 1 i).data.toList (⟨#[39,39]⟩:ByteArray).data.toList (⟨#[39]⟩:ByteArray).data.toList=pre:=by
       rw [show (s.extract 1 i).data.toList=((lst s).drop 1).take (i - 1) from lst_mid s 1 i]
       exact hPd.says
      have hsz:(s.extract 1 i).size≤4096:=by rw [← qo,lst_mid,List.length_take,List.length_drop,qo]; omega
      have hcl:(s.extract 1 i).size+Lib.countB (s.extract 1 i) ⟨#[39,39]⟩ * (⟨#[39]⟩:ByteArray).size≤140737488355328:=by
       have h6:=Lib.count_le (s.extract 1 i).data.toList (⟨#[39,39]⟩:ByteArray).data.toList;have h7:(s.extract 1 i).data.toList.length=(s.extract 1 i).size:=rfl;have h8:(⟨#[39]⟩:ByteArray).size=1:=rfl;unfold Lib.countB;rw [h8];omega
      have hsl:∀ W,(Instr.slice 9 (.string s) (some (.int .i64 1)) (some (.int .i64 (i:Int))) none).run Tryz.prog W=.ok (.string (s.extract 1 i)) W:=fun W=>by
       have h5:=run_slice_string (P:=Tryz.prog) W 9 s .i64 .i64 1 (i:Int) Tryz.underlying9 (by omega) (by omega) (by omega)
       rw [h5];rfl
      clear hQ hdr htk hH hPd htx hb c39 hnx
      go_wp2_with (go_at_call 77; refine (replaceAll_b (s.extract 1 i) ⟨#[39,39]⟩ ⟨#[39]⟩ pre _ (HT.out _) (by omega) (by decide) hcl hrep).mono ?_; rintro e w1 ⟨rfl,b1⟩; obtain ⟨hr1,bb1,lt1⟩:=res_in b1; obtain ⟨r0,r1,r2,r3,y0,y1,y2,y3⟩:=resF hr1)
      rw [HQ.out];exact ret4 (6,pre,0,i+1) Tryz.results48 hr1 bb1 (Nat.le_refl _) rfl rfl rfl rfl rfl rfl
   ·have c39':¬ ((s[i]'hlt).toNat:Int)=39:=by omega
    have hH2:Hid (∃ pre,Pd (((lst s).drop 1).take (i+1 - 1)) pre∧txt ((lst s).drop 1)=(txt ((lst s).drop (i+1))).map (fun x=>(pre++x.1,x.2+(i+1 - 1)))):=by
     refine ⟨pre++[s[i]'hlt],?_,?_⟩
     ·rw [show i+1 - 1=i by omega,htk]
      exact hPd.append (.one _ _ _ c39 .nil)
     ·rw [htx,hdr,txt_one c39,Option.map_map]
      congr 1
      funext x
      simp
      omega
    clear hdr htk hH hPd htx hb c39
    go_wp2_with fail
    go_roundw
    case rel=>exact ⟨i+1,by omega,by omega,by simp,by simp,hH2.out⟩
    case measure=>simp [intOf]; omega
  ·have hi3:i=s.size:=by omega
   have hQ:zG (lst s)=(0,[],0,0):=by
    rw [hq.out,htx,hi3,List.drop_eq_nil_of_le (by rw [qo]; exact Nat.le_refl _)]
    rfl
   have HQ:=qd hQ;clear hQ hH hPd htx hlt;subst hi3
   go_wp2_with (go_at_call 41; fail)
   go_wp2_with (go_at_call 41; refine (jH s _).mono ?_; rintro e w2 ⟨rfl,rfl⟩)
   rw [HQ.out];refine bodyPost_ret (v:=cv (0,[],0,0)) (by simp [results,Tryz.results48,go_sem,cv,ba]) rfl ⟨rfl,Bl.alloc2 _ _ _⟩
def fv (n:Nat):Value:=.func (.func n) #[] #[]
def openA:Array Value:=#[fv 41,.bool false,fv 42,.bool true,fv 43,.bool true,fv 44,.bool false,fv 45,.bool false,fv 46,.bool false,fv 47,.bool false,fv 48,.bool false,fv 49,.bool false]
theorem openings_ok (w:World):Calls Tryz.prog 29 #[] w fun e w'=>e=.returned (.agg openA)∧w'=w.alloc (.cells openA 68):=by
 go_enter Tryz.func29,Tryz.ntmps29
 go_wp2
 refine bodyPost_ret (v:=.agg openA) (results_cell_row (p:=0) (ty:=68) Tryz.results29 _ _ w.heap.size 68 openA (0,0) _ rfl (heap_alloc_new w _) Tryz.underlying68 rfl (by kernel_rfl)) rfl ⟨rfl,rfl⟩
end Go.Proofs.YtfhkhmgodkheaaaGreatDoor
