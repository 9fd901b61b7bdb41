import Derived.Test.YtfhkhmgodkheaaaGreatDoorQCG06LRepl
import Derived.Test.YtfhkhmgodkheaaaGreatDoorQCG03LOpen
import Derived.Lib.LaidTab
import Derived.Test.YtfhkhmgodkheaaaGreatDoorQCG04LKnown
import Derived.Laws.Tables
set_option linter.unusedSimpArgs false
set_option linter.unusedVariables false
set_option maxRecDepth 1000000
set_option maxHeartbeats 16000000
namespace Go.Proofs.YtfhkhmgodkheaaaGreatDoor
open Go.RowKit Go.Maps
abbrev Pw (w:World):Prop:=Lib.TabIs Tryz.prog w "internal/strconv.uint64pow10" .u64 Lib.pow10Tab
theorem Pw.mono {w w':World} (h:Pw w) (b:Bl w w'):Pw w':=by
 unfold Pw Lib.TabIs World.var? at h ⊢
 cases hg:Tryz.prog.globalNamed "internal/strconv.uint64pow10" with
 | none=>rw [hg] at h; cases h
 | some g =>
 rw [hg] at h
 simp only [Option.bind_some] at h ⊢
 have hlt:g < w.heap.size:=by
  rcases Nat.lt_or_ge g w.heap.size with h1 | h1
  ·exact h1
  ·rw [Array.getElem?_eq_none h1] at h
   cases h
 rw [b.block g hlt]
 exact h
theorem itoa_ok (n:Nat) (w:World) (hn:n≤1073741824) (hP:Pw w):Calls Tryz.prog 131 #[.int .i64 n] w fun e w'=>e=.returned (.string (ba (Lib.decDigits n)))∧Bl w w':=by
 have HI:=qd (Tryz.internal_strconv_Itoa n (by omega) (by omega) w hP)
 have e:Lib.itoa (n:Int)=Lib.decDigits n:=by unfold Lib.itoa; rw [if_neg (by omega)]; simp
 rw [e] at HI
 go_enter Tryz.func131,Tryz.ntmps131
 go_wp2_with (go_at_call 147; refine HI.out.mono ?_; rintro e w1 ⟨rfl,k,os,rfl⟩)
 go_ret
 refine ⟨rfl,rfl,rfl,rfl,?_,fun j hj=>?_⟩
 ·show w.heap.size≤(w.heap++os).size
  simp
 ·show (w.heap++os)[j]?=w.heap[j]?
  rw [Array.getElem?_append_left hj]
theorem ba_app (a b:Bs):ba a++ba b=ba (a++b):=by
 have h:lst (ba a++ba b)=a++b:=by unfold lst; simp [ba]
 rw [← ba_lst (ba a++ba b),h]
theorem kinds_in {k:Nat} (h1:7≤k) (h2:k≤17):∃ j,j < 11∧kdAt j=k:=by
 have:k=7∨k=8∨k=9∨k=10∨k=11∨k=12∨k=13∨k=14∨k=15∨k=16∨k=17:=by omega
 rcases this with rfl | rfl | rfl | rfl | rfl | rfl | rfl | rfl | rfl | rfl | rfl
 ·exact ⟨0,by omega,rfl⟩
 ·exact ⟨2,by omega,rfl⟩
 ·exact ⟨3,by omega,rfl⟩
 ·exact ⟨4,by omega,rfl⟩
 ·exact ⟨5,by omega,rfl⟩
 ·exact ⟨6,by omega,rfl⟩
 ·exact ⟨7,by omega,rfl⟩
 ·exact ⟨1,by omega,rfl⟩
 ·exact ⟨8,by omega,rfl⟩
 ·exact ⟨9,by omega,rfl⟩
 ·exact ⟨10,by omega,rfl⟩
theorem txAt_mark {j:Nat} (h:j < 11):txAt j=markT (kdAt j):=by
 have:j=0∨j=1∨j=2∨j=3∨j=4∨j=5∨j=6∨j=7∨j=8∨j=9∨j=10:=by omega
 rcases this with rfl | rfl | rfl | rfl | rfl | rfl | rfl | rfl | rfl | rfl | rfl <;> rfl
theorem writtenMark (k:Nat) (x:ByteArray) (a:Int) (w:World) (hT:Tab w) (h1:7≤k) (h2:k≤17):Calls Tryz.prog 171 #[.agg #[.int .i64 k,.string x,.int .i64 0,.int .i64 a]] w fun e w'=>e=.returned (.string (ba (markT k)))∧Bl w w':=by
 obtain ⟨MV,hMV⟩:∃ MV:Value,MV=.agg marksC.toArray:=⟨_,rfl⟩
 have hlv:∀ o,(loadVar 120 ⟨0,0,none⟩).run Tryz.prog (w.alloc o)=.ok MV (w.alloc o):=fun o=>by rw [hMV]; exact load_marks (hT.mono (Bl.alloc w o))
 have hix:∀ j:Nat,j < 11→∀ W,(Instr.index 120 MV (.int .i64 j)).run Tryz.prog W=.ok (.agg #[.int .i64 (kdAt j),.string (ba (txAt j))]) W:=fun j hj W=>by rw [hMV]; exact index_marks hj
 clear hMV hT
 have b1:((k:Int) == 1)=false:=by simp; omega
 have b2:((k:Int) == 2)=false:=by simp; omega
 have b3:((k:Int) == 3)=false:=by simp; omega
 have b4:((k:Int) == 4)=false:=by simp; omega
 have b5:((k:Int) == 5)=false:=by simp; omega
 have b6:((k:Int) == 6)=false:=by simp; omega
 have c1:¬ (k:Int)=1:=by omega
 have c2:¬ (k:Int)=2:=by omega
 have c3:¬ (k:Int)=3:=by omega
 have c4:¬ (k:Int)=4:=by omega
 have c5:¬ (k:Int)=5:=by omega
 have c6:¬ (k:Int)=6:=by omega
 go_enter Tryz.func171,Tryz.ntmps171
 go_wp2_with (refine wpList_loadV rfl 120 _ rfl ⟨0,0,none⟩ rfl (hlv _) ?_)
 clear hlv
 go_loopw [35] (fun q wr=>∃ j:Nat,j≤11∧q=.int .i64 j∧Hid ((∀ i,i < j→kdAt i≠k)∧wr.heap[w.heap.size]?=some (.cells #[.int .i64 k,.string x,.int .i64 0,.int .i64 a] 54 (0,0))∧Bl w wr)) (fun q _=>11 - (intOf q).toNat)
 case atStart=>exact ⟨0,by omega,rfl,fun i hi=>by omega,heap_alloc_new w _,Bl.alloc w _⟩
 case round =>
  obtain ⟨j,hj,rfl,hH⟩:=hrel;have r0:wr.cell? ⟨w.heap.size,0,none⟩=some (.int .i64 k):=by rw [qh hH.out.2.1]; rfl
  have hlt:=qf hH.out.2.1
  by_cases hj11:j < 11
  ·have hx:=hix j hj11
   have hji:(j:Int) < 11:=by omega
   clear hix
   by_cases hk:kdAt j=k
   ·have hV:txAt j=markT k:=by rw [txAt_mark hj11,hk]
    rw [hk,hV] at hx;have HV:=qd hV;clear hV hk;obtain ⟨tx,htx⟩:∃ tx,tx=markT k:=⟨_,rfl⟩;rw [← htx] at hx;have HX:=qd htx;clear htx
    go_wp2_with fail
    go_ret
    exact ⟨by rw [← HX.out]; rfl,hH.out.2.2.trans (Bl.alloc _ _)⟩
   ·have hb:((kdAt j:Int) == (k:Int))=false:=by simp; omega
    have hbb:¬ (kdAt j:Int)=(k:Int):=by omega
    have HV:=qd hk;clear hk;generalize hkd:kdAt j=kd at *;generalize txAt j=tx at *;have hkd':=qd hkd;clear hkd
    go_wp2_with fail
    go_roundw
    case rel=>exact ⟨j+1,by omega,by simp,fun i hi=>(by
     by_cases he:i=j
     ·subst he; rw [hkd'.out]; exact HV.out
     ·exact hH.out.1 i (by omega)),(Below.heap_alloc _ _ _ hlt).trans hH.out.2.1,hH.out.2.2.trans (Bl.alloc _ _)⟩
    case measure=>simp [intOf]; omega
  ·exfalso
   obtain ⟨i,hi,he⟩:=kinds_in h1 h2;exact hH.out.1 i (by omega) he
theorem written_ok (t:Tok) (a:Int) (w:World) (hT:Tab w) (hP:Pw w) (hc:canB t) (hs:t.text.length≤268435456):Calls Tryz.prog 171 #[.agg #[.int .i64 t.kind,.string (ba t.text),.int .i64 t.num,.int .i64 a]] w fun e w'=>e=.returned (.string (ba (wr t)))∧Bl w w':=by
 obtain ⟨k,x,m⟩:=t
 obtain ⟨h0,h⟩:=hc
 simp only at h0 h hs ⊢
 have hxs:(ba x).size=x.length:=by rw [← qo,qJ]
 rcases h with ⟨h1 | h1,h2⟩ | ⟨h1,h2⟩ | ⟨h1,h2,h3⟩ | ⟨h1,h2⟩ | h1 | ⟨h1,h2,h3⟩
 ·subst h1
  go_enter Tryz.func171,Tryz.ntmps171
  go_wp2
  go_ret
  exact ⟨rfl,Bl.alloc _ _⟩
 ·subst h1
  have e:wr ⟨2,x,m⟩=x++[58]:=rfl;rw [e,← ba_app];have hq:(ba x).size+1≤9223372036854775807:=by omega
  go_enter Tryz.func171,Tryz.ntmps171
  go_wp2
  go_ret
  exact ⟨rfl,Bl.alloc _ _⟩
 ·subst h1
  go_enter Tryz.func171,Tryz.ntmps171
  go_wp2
  go_ret
  exact ⟨rfl,Bl.alloc _ _⟩
 ·subst h1
  have e:wr ⟨4,x,m⟩=Lib.decDigits m:=rfl;rw [e];have HI:=qd (fun W (hW:Bl w W)=>itoa_ok m W h3 (hP.mono hW))
  go_enter Tryz.func171,Tryz.ntmps171
  go_wp2_with (go_at_call 131; refine (HI.out _ (Bl.alloc _ _)).mono ?_; rintro e w1 ⟨rfl,b1⟩)
  go_ret
  exact ⟨rfl,(Bl.alloc _ _).trans b1⟩
 ·subst h1
  have e:wr ⟨5,x,m⟩=[35]++x:=rfl;rw [e,← ba_app];have hq:1+(ba x).size≤9223372036854775807:=by omega
  go_enter Tryz.func171,Tryz.ntmps171
  go_wp2
  go_ret
  exact ⟨rfl,Bl.alloc _ _⟩
 ·subst h1
  have e:wr ⟨6,x,m⟩=[39]++qt x++[39]:=rfl;rw [e,← ba_app,← ba_app];have hql:=qt_len x;have hqs:(ba (qt x)).size=(qt x).length:=by rw [← qo,qJ]
  have hq1:1+(ba (qt x)).size≤9223372036854775807:=by omega
  have hq2:(ba [39]++ba (qt x)).size+1≤9223372036854775807:=by rw [ByteArray.size_append,hqs]; show 1+_+1≤_; omega
  have HR:Hid (∀ W,Bl w W→Calls Tryz.prog 77 #[.string (ba x),.string ⟨#[39]⟩,.string ⟨#[39,39]⟩] W fun e w'=>e=.returned (.string (ba (qt x)))∧Bl W w'):=qd fun W hW=>by
   obtain ⟨mm,hmm⟩:=(hT.mono hW).max;have hcl:=Lib.count_le x [39];have:=Tryz.strings_ReplaceAll (ba x) ⟨#[39]⟩ ⟨#[39,39]⟩ mm W (by omega) hmm (by decide) (by
    have e2:Lib.countB (ba x) ⟨#[39]⟩=Lib.count x [39]:=by unfold Lib.countB; rw [show (ba x).data.toList=x from qJ x]
    rw [e2,hxs]
    show x.length+Lib.count x [39] * 2≤_
    omega)
   rw [show (ba x).data.toList=x from qJ x] at this
   have e3:Lib.replaceAll x [39] [39,39]=qt x:=replaceAll_qt x;refine this.mono ?_;rintro e w1 ⟨rfl,b1⟩;exact ⟨by show Ending.returned (Value.string (ba (Lib.replaceAll x [39] [39,39])))=_; rw [e3],b1⟩
  go_enter Tryz.func171,Tryz.ntmps171
  go_wp2_with (go_at_call 77; refine (HR.out _ (Bl.alloc _ _)).mono ?_; rintro e w1 ⟨rfl,b1⟩)
  go_ret
  exact ⟨rfl,(Bl.alloc _ _).trans b1⟩
 ·obtain rfl:=h0 (by omega)
  have e:wr ⟨k,x,0⟩=markT k:=by
   unfold wr;simp only;rw [if_neg (by omega),if_neg (by omega),if_neg (by omega),if_neg (by omega),if_neg (by omega)]
  rw [e];exact writtenMark k (ba x) a w hT h1 h2
theorem isConst_ok (s:ByteArray) (w:World):Calls Tryz.prog 127 #[.string s] w fun e w'=>e=.returned (.bool (constB (lst s)))∧w'=w:=by
 have e:Hid (constB (lst s)=(s.toList == [110,105,108] || (s.toList == [116,114,117,101] || s.toList == [102,97,108,115,101]))):=by
  unfold Hid constB;rw [tl_lst,Bool.eq_iff_iff];simp
 go_enter Tryz.func127,Tryz.ntmps127
 go_wp2
 all_goals (go_ret; refine ⟨?_,rfl⟩; rw [e.out]; first | (simp_all; done) | (rw [← Bool.or_assoc]; rfl))
def lastC (l:Bs):Bool:=decide (l.getLast?=some 58)
theorem last_ext (s:ByteArray) (h:0 < s.size):((s.extract (s.size - 1) s.size).toList == [58])=lastC (lst s):=by
 rw [tl_lst,lst_from]
 have hl:(lst s).drop (s.size - 1)=[(lst s)[s.size - 1]'(by rw [qo]; omega)]:=by
  rw [List.drop_eq_getElem_cons (by rw [qo]; omega),List.drop_eq_nil_of_le (by rw [qo]; omega)]
 rw [hl]
 unfold lastC
 rw [List.getLast?_eq_getElem?,List.getElem?_eq_getElem (by rw [qo]; omega),Bool.eq_iff_iff]
 simp [lst]
theorem sliteSuffix_ok (s:ByteArray) (w:World) (hs:s.size≤140737488355328):Calls Tryz.prog 144 #[.string s,.string ⟨#[58]⟩] w fun e w'=>e=.returned (.bool (lastC (lst s)))∧w'=w:=by
 by_cases h:0 < s.size
 ·have hE:=last_ext s h
  have h1:(1:Int)≤s.size:=by omega
  go_enter Tryz.func144,Tryz.ntmps144
  go_wp2_with fail
  go_ret
  exact ⟨by rw [← hE]; rfl,rfl⟩
 ·have hz:s.size=0:=by omega
  have hL:Hid (lastC (lst s)=false):=qd (by
   have:lst s=[]:=lst_nil.2 hz;rw [this]; rfl)
  have h1:¬ (1:Int)≤s.size:=by omega
  clear hz
  go_enter Tryz.func144,Tryz.ntmps144
  go_wp2_with fail
  go_ret
  exact ⟨by rw [hL.out]; rfl,rfl⟩
theorem suffix_ok (s:ByteArray) (w:World) (hs:s.size≤140737488355328):Calls Tryz.prog 125 #[.string s,.string ⟨#[58]⟩] w fun e w'=>e=.returned (.bool (lastC (lst s)))∧w'=w:=by
 have HS:=qd (sliteSuffix_ok s w hs)
 go_enter Tryz.func125,Tryz.ntmps125
 go_wp2_with (go_at_call 144; refine HS.out.mono ?_; rintro e w1 ⟨rfl,h⟩; have h3:=h.symm; subst h3)
 go_ret
 exact ⟨rfl,rfl⟩
theorem jK (s:ByteArray) (w:World) (hs:s.size≤140737488355328):Calls Tryz.prog 101 #[.string s] w fun e w'=>e=.returned (.int .i64 (qI (lst s)))∧Bl w w':=by
 have HS:=qd (sel_ok s w hs)
 have HX:=qd (fun V=>suffix_ok s V hs)
 have HR:Hid (qI (lst s)=if (sel (lst s)).2≠0 then 0 else if (sel (lst s)).1=0 then 1 else if lastC (lst s)=true then 3 else 2):=qd (by
  unfold qI lastC;simp only [decide_eq_true_eq])
 obtain ⟨R,hR⟩:∃ R,R=qI (lst s):=⟨_,rfl⟩
 rw [← hR] at HR ⊢
 clear hR
 generalize sel (lst s)=q at *
 obtain ⟨n,e⟩:=q
 generalize lastC (lst s)=L at *
 dsimp only at *
 by_cases he:e=0
 ·by_cases hn:n=0
  ·have hE:Hid (R=1):=by unfold Hid; rw [HR.out,if_neg (by simpa using he),if_pos hn]
   have qe:((e:Int) != 0)=false:=by rw [bne_eq_false_iff_eq]; omega
   have qn:((n:Int) == 0)=true:=beq_iff_eq.2 (by omega)
   clear he hn HR
   go_enter Tryz.func101,Tryz.ntmps101
   go_wp2_with (go_at_call 61; refine HS.out.mono ?_; rintro e w1 ⟨rfl,b1⟩)
   go_ret
   exact ⟨by rw [hE.out]; rfl,b1⟩
  ·have qe:((e:Int) != 0)=false:=by rw [bne_eq_false_iff_eq]; omega
   have qn:((n:Int) == 0)=false:=beq_eq_false_iff_ne.2 (by omega)
   cases L with
   | true =>
    have hE:Hid (R=3):=by unfold Hid; rw [HR.out,if_neg (by simpa using he),if_neg hn,if_pos rfl]
    clear he hn HR
    go_enter Tryz.func101,Tryz.ntmps101
    go_wp2_with (first | (go_at_call 61; refine HS.out.mono ?_; rintro e w1 ⟨rfl,b1⟩) | (go_at_call 125; refine (HX.out _).mono ?_; rintro e w2 ⟨rfl,h⟩; have h3:=h.symm; subst h3))
    go_ret
    exact ⟨by rw [hE.out]; rfl,b1⟩
   | false =>
    have hE:Hid (R=2):=by unfold Hid; rw [HR.out,if_neg (by simpa using he),if_neg hn,if_neg (by simp)]
    clear he hn HR
    go_enter Tryz.func101,Tryz.ntmps101
    go_wp2_with (first | (go_at_call 61; refine HS.out.mono ?_; rintro e w1 ⟨rfl,b1⟩) | (go_at_call 125; refine (HX.out _).mono ?_; rintro e w2 ⟨rfl,h⟩; have h3:=h.symm; subst h3))
    go_ret
    exact ⟨by rw [hE.out]; rfl,b1⟩
 ·have hE:Hid (R=0):=by unfold Hid; rw [HR.out,if_pos he]
  have qe:((e:Int) != 0)=true:=by rw [bne_iff_ne]; omega
  clear he HR
  go_enter Tryz.func101,Tryz.ntmps101
  go_wp2_with (go_at_call 61; refine HS.out.mono ?_; rintro e w1 ⟨rfl,b1⟩)
  go_ret
  exact ⟨by rw [hE.out]; rfl,b1⟩
theorem rankT_ok (x:Tok × Nat) (w:World) (hx:x.1.text.length≤8192):Calls Tryz.prog 79 #[tkv x] w fun e w'=>e=.returned (.int .i64 (qy x))∧Bl w w':=by
 obtain ⟨⟨tk,tt,tn⟩,tp⟩:=x
 have hbs:(ba tt).size=tt.length:=by rw [← qo,qJ]
 have hcat:ba tt++(⟨#[58]⟩:ByteArray)=ba (tt++[58]):=ba_app tt [58]
 have hbs2:(ba (tt++[58])).size=tt.length+1:=by rw [← qo,qJ]; simp
 have H1:=qd (fun V=>jK (ba tt) V (by simp only at hx; omega))
 have H2:=qd (fun V=>jK (ba (tt++[58])) V (by simp only at hx; omega))
 rw [qJ] at H1 H2
 have hc:=qd hcat
 unfold tkv
 dsimp only
 by_cases k1:tk=1
 ·have HE:Hid (qy (⟨tk,tt,tn⟩,tp)=qI tt):=qd (by unfold qy; simp [k1])
  have q1:((tk:Int) == 1)=true:=beq_iff_eq.2 (by omega)
  clear k1 hbs hbs2 hcat
  go_enter Tryz.func79,Tryz.ntmps79
  go_wp2_with (go_at_call 101; refine (H1.out _).mono ?_; rintro e w1 ⟨rfl,b1⟩)
  go_ret
  exact ⟨by rw [HE.out]; rfl,(Bl.alloc _ _).trans b1⟩
 ·have q1:((tk:Int) == 1)=false:=beq_eq_false_iff_ne.2 (by omega)
  by_cases k3:tk=3
  ·have HE:Hid (qy (⟨tk,tt,tn⟩,tp)=qI tt):=qd (by unfold qy; simp [k3])
   have q3:((tk:Int) == 3)=true:=beq_iff_eq.2 (by omega)
   clear k1 k3 hbs hbs2 hcat
   go_enter Tryz.func79,Tryz.ntmps79
   go_wp2_with (go_at_call 101; refine (H1.out _).mono ?_; rintro e w1 ⟨rfl,b1⟩)
   go_ret
   exact ⟨by rw [HE.out]; rfl,(Bl.alloc _ _).trans b1⟩
  ·have q3:((tk:Int) == 3)=false:=beq_eq_false_iff_ne.2 (by omega)
   by_cases k2:tk=2
   ·have HE:Hid (qy (⟨tk,tt,tn⟩,tp)=qI (tt++[58])):=qd (by unfold qy; simp [k2])
    have q2:((tk:Int) == 2)=true:=beq_iff_eq.2 (by omega)
    rw [← hc.out] at H2;have hz:=qd hbs;clear k1 k2 k3 hbs hbs2 hcat
    go_enter Tryz.func79,Tryz.ntmps79
    go_wp2_with (go_at_call 101; refine (H2.out _).mono ?_; rintro e w1 ⟨rfl,b1⟩)
    ·rename_i hlt
     have:=hz.out;omega
    go_ret
    exact ⟨by rw [HE.out]; rfl,(Bl.alloc _ _).trans b1⟩
   ·have HE:Hid (qy (⟨tk,tt,tn⟩,tp)=0):=qd (by unfold qy; simp [k1,k2,k3])
    have q2:((tk:Int) == 2)=false:=beq_eq_false_iff_ne.2 (by omega)
    clear k1 k2 k3 hbs hbs2 hcat
    go_enter Tryz.func79,Tryz.ntmps79
    go_wp2_with fail
    go_ret
    exact ⟨by rw [HE.out]; rfl,Bl.alloc _ _⟩
def nd0 (k:Nat) (t:Bs) (n:Int) (a:Nat):Value:=.agg #[.int .i64 k,.string (ba t),.int .i64 n,.int .i64 a,.slice none 0 0,.slice none 0 0,.slice none 0 0]
def z7:Obj:=.cells #[.int .i64 0,.string ⟨#[]⟩,.int .i64 0,.int .i64 0,.slice none 0 0,.slice none 0 0,.slice none 0 0] 34 (0,0)
theorem ret34g {f:Func} {V:World} {B p:Nat} {tm:Array Value} {a0 a1 a2 a3 a4 a5 a6:Value} {R:Ending→World→Prop} (hres:f.results=#[.cell p 34]) (hVb:V.heap[B]?=some (.cells #[a0,a1,a2,a3,a4,a5,a6] 34 (0,0)))
  (h2:tm.getD p undef=.pointer (some ⟨B,0,none⟩)) (hR:R (.returned (.agg #[a0,a1,a2,a3,a4,a5,a6])) V):bodyPost Tryz.prog f R .ret ⟨tm,[]⟩ V:=by
 have x0:V.cell? ⟨B,0,none⟩=some a0:=by rw [qh hVb]; rfl
 have x1:V.cell? ⟨B,1,none⟩=some a1:=by rw [qh hVb]; rfl
 have x2:V.cell? ⟨B,2,none⟩=some a2:=by rw [qh hVb]; rfl
 have x3:V.cell? ⟨B,3,none⟩=some a3:=by rw [qh hVb]; rfl
 have x4:V.cell? ⟨B,4,none⟩=some a4:=by rw [qh hVb]; rfl
 have x5:V.cell? ⟨B,5,none⟩=some a5:=by rw [qh hVb]; rfl
 have x6:V.cell? ⟨B,6,none⟩=some a6:=by rw [qh hVb]; rfl
 have h2':tm[p]?.getD undef=.pointer (some ⟨B,0,none⟩):=by simpa using h2
 refine bodyPost_ret (v:=.agg #[a0,a1,a2,a3,a4,a5,a6]) (by simp [results,hres,go_sem,h2,h2',x0,x1,x2,x3,x4,x5,x6]) rfl hR
theorem qG (W:World) (B:Nat) (cs:Array Value):Fr [B] W (W.setRow B cs) :=
 ⟨rfl,rfl,rfl,by simp,fun k hk hn=>setRow_other _ _ _ _ (by simpa using hn)⟩
theorem named_ok (P g c:Nat) (ts:Ts) (s:Ps) (most:Nat) (w:World) (h:Pr w P g c ts s) (ho:Okp ts s) (hp:s.pos+1 < ts.length):Calls Tryz.prog 176 #[.pointer (some ⟨P,0,none⟩),.int .i64 most] w fun e w'=>Fr [P] w w'∧match jf ts most s with
  | .ok n s'=>e=.returned (nd0 n.kind n.text n.num n.place)∧Pr w' P g c ts s'
  | .bad x=>e=.panicked [{ v:=jl x,recovered:=false }]:=by
 have HT:=qd (fun V (b:Bl w V)=>zY P g c ts s V (h.keep b) ho (by omega))
 have hPl:=h.lt
 have hgl:=h.glt (by omega)
 have HC:=qd (fun V=>isConst_ok (ba (hdT ts s).1.text) V)
 rw [qJ] at HC
 have hy:(hdT ts (qj ts s)).1.text.length≤8192:=by have:=(ho.txt _ (hdT_mem (s:=qj ts s) hp)).1; omega
 have HA:=qd (fun V (p:Pr V P g c ts (qj ts s))=>zI P g c ts (qj ts s) V p hp (by have:=ho.len; omega))
 have HR:=qd (fun V=>rankT_ok (hdT ts (qj ts s)) V hy)
 clear h ho hy
 unfold jf
 dsimp only
 unfold tkv at *
 obtain ⟨S,hS⟩:∃ S,S=qj ts s:=⟨_,rfl⟩
 rw [← hS] at HT HA HR ⊢
 clear hS
 generalize hdT ts S=y at *
 obtain ⟨R,hR⟩:∃ R,R=qy y:=⟨_,rfl⟩
 rw [← hR] at HR ⊢
 clear hR
 obtain ⟨⟨yk,yt,yn⟩,yp⟩:=y
 generalize hdT ts s=x at *
 obtain ⟨⟨tk,tt,tn⟩,tp⟩:=x
 dsimp only at *
 cases hc:constB tt with
 | true =>
  rw [hc] at HC;simp only [if_true];clear hc
  go_enter Tryz.func176,Tryz.ntmps176
  go_wp2_with (first
   | (
    go_at_call 80; refine (HT.out _ (Bl.alloc _ _)).mono ?_; rintro e w2 ⟨rfl,p2,f2⟩
    have q0:w2.heap[w.heap.size]?=some z7:=(f2.block _ (by simp) (by simp; omega)).trans (heap_alloc_new w _)
    have Q0:=qd q0;have P2:=qd p2;have F2:=qd (qu (za (Bl.alloc _ _)) f2);have L2:=qf q0;clear q0 p2 f2)
   | (go_at_call 127; refine (HC.out _).mono ?_; rintro e w3 ⟨rfl,h3⟩; have h4:=h3.symm; subst h4)
   | (refine wpList_store_row rfl 34 _ _ rfl w.heap.size #[.int .i64 5,.string (ba tt),.int .i64 0,.int .i64 tp,.slice none 0 0,.slice none 0 0,.slice none 0 0] rfl rfl 34 _ ((Below.heap_alloc _ _ _ L2).trans Q0.out) (by kernel_rfl) rfl (by kernel_rfl) ?_))
  have F3:=(qu F2.out (za (Bl.alloc w2 (.cells #[.int .i64 tk,.string (ba tt),.int .i64 tn,.int .i64 tp] 54))));refine ret34g Tryz.results176 (B:=w.heap.size) ?_ rfl ⟨?_,rfl,?_⟩
  ·exact setRow_heap _ _ _ _ 34 (0,0) ((Below.heap_alloc _ _ _ L2).trans Q0.out)
  ·exact F3.trans (qG _ _ _) (fun b hb=>Or.inr (by simp at hb; omega))
  ·exact (P2.out.keep (Bl.alloc _ _)).other (qG _ _ _) (by simp; omega) (by simp; omega)
 | false =>
  rw [hc] at HC;simp only [Bool.false_eq_true,if_false];clear hc
  by_cases hsu:tt=[115,117,112,101,114]
  ·have qs:((ba tt).toList == [115,117,112,101,114])=true:=by rw [tl_lst,qJ,hsu]; rfl
   rw [if_neg (by simpa using hsu)]
   clear hsu
   by_cases hr:R=0∨most < R
   ·rw [if_pos hr]
    have K:∃ b1:Bool,b1=((R:Int) == 0)∧(b1=true∨(b1=false∧(most:Int) < R)):=by
     refine ⟨_,rfl,?_⟩
     rcases hr with h | h
     ·left; rw [beq_iff_eq]; omega
     ·by_cases h0:R=0
      ·left; rw [beq_iff_eq]; omega
      ·right; exact ⟨by rw [beq_eq_false_iff_ne]; omega,by omega⟩
    clear hr;obtain ⟨b1,e1,K⟩:=K
    rcases K with K | ⟨K,hm⟩
    ·have qr:((R:Int) == 0)=true:=by rw [← e1,K]
     clear e1 K
     go_enter Tryz.func176,Tryz.ntmps176
     go_wp2_with (first
     | (
      go_at_call 80; refine (HT.out _ (Bl.alloc _ _)).mono ?_; rintro e w2 ⟨rfl,p2,f2⟩
      have q0:w2.heap[w.heap.size]?=some z7:=(f2.block _ (by simp) (by simp; omega)).trans (heap_alloc_new w _)
      have Q0:=qd q0;have P2:=qd p2;have F2:=qd (qu (za (Bl.alloc _ _)) f2);have L2:=qf q0;clear q0 p2 f2)
     | (go_at_call 127; refine (HC.out _).mono ?_; rintro e w3 ⟨rfl,h3⟩; have h4:=h3.symm; subst h4)
     | (go_at_call 54; refine (HA.out _ (P2.out.keep (Bl.alloc _ _))).mono ?_; rintro e w4 ⟨rfl,b4⟩; have B4:=qd ((Bl.alloc _ _).trans b4); have R4:=qd ((blk_in b4)); clear b4)
     | (go_at_call 79; refine (HR.out _).mono ?_; rintro e w5 ⟨rfl,b5⟩; have B5:=qd (B4.out.trans b5); have q5:=(b5.block _ (qf R4.out)).trans R4.out; have x0:w5.cell? ⟨w2.heap.size,0,none⟩=some (.int .i64 tk):=(qh q5).trans rfl; have x1:w5.cell? ⟨w2.heap.size,1,none⟩=some (.string (ba tt)):=(qh q5).trans rfl; have x2:w5.cell? ⟨w2.heap.size,2,none⟩=some (.int .i64 tn):=(qh q5).trans rfl; have x3:w5.cell? ⟨w2.heap.size,3,none⟩=some (.int .i64 tp):=(qh q5).trans rfl; clear b5 q5))
     exact ⟨rfl,qu F2.out (za B5.out),rfl⟩
    ·have qr:((R:Int) == 0)=false:=by rw [← e1,K]
     clear e1 K
     go_enter Tryz.func176,Tryz.ntmps176
     go_wp2_with (first
     | (
      go_at_call 80; refine (HT.out _ (Bl.alloc _ _)).mono ?_; rintro e w2 ⟨rfl,p2,f2⟩
      have q0:w2.heap[w.heap.size]?=some z7:=(f2.block _ (by simp) (by simp; omega)).trans (heap_alloc_new w _)
      have Q0:=qd q0;have P2:=qd p2;have F2:=qd (qu (za (Bl.alloc _ _)) f2);have L2:=qf q0;clear q0 p2 f2)
     | (go_at_call 127; refine (HC.out _).mono ?_; rintro e w3 ⟨rfl,h3⟩; have h4:=h3.symm; subst h4)
     | (go_at_call 54; refine (HA.out _ (P2.out.keep (Bl.alloc _ _))).mono ?_; rintro e w4 ⟨rfl,b4⟩; have B4:=qd ((Bl.alloc _ _).trans b4); have R4:=qd ((blk_in b4)); clear b4)
     | (go_at_call 79; refine (HR.out _).mono ?_; rintro e w5 ⟨rfl,b5⟩; have B5:=qd (B4.out.trans b5); have q5:=(b5.block _ (qf R4.out)).trans R4.out; have x0:w5.cell? ⟨w2.heap.size,0,none⟩=some (.int .i64 tk):=(qh q5).trans rfl; have x1:w5.cell? ⟨w2.heap.size,1,none⟩=some (.string (ba tt)):=(qh q5).trans rfl; have x2:w5.cell? ⟨w2.heap.size,2,none⟩=some (.int .i64 tn):=(qh q5).trans rfl; have x3:w5.cell? ⟨w2.heap.size,3,none⟩=some (.int .i64 tp):=(qh q5).trans rfl; clear b5 q5))
     exact ⟨rfl,qu F2.out (za B5.out),rfl⟩
   ·rw [if_neg hr]
    have qr:((R:Int) == 0)=false:=by rw [beq_eq_false_iff_ne]; omega
    have hm:¬ (most:Int) < R:=by omega
    clear hr
    go_enter Tryz.func176,Tryz.ntmps176
    go_wp2_with (first
    | (
     go_at_call 80; refine (HT.out _ (Bl.alloc _ _)).mono ?_; rintro e w2 ⟨rfl,p2,f2⟩
     have q0:w2.heap[w.heap.size]?=some z7:=(f2.block _ (by simp) (by simp; omega)).trans (heap_alloc_new w _)
     have Q0:=qd q0;have P2:=qd p2;have F2:=qd (qu (za (Bl.alloc _ _)) f2);have L2:=qf q0;clear q0 p2 f2)
    | (go_at_call 127; refine (HC.out _).mono ?_; rintro e w3 ⟨rfl,h3⟩; have h4:=h3.symm; subst h4)
    | (go_at_call 54; refine (HA.out _ (P2.out.keep (Bl.alloc _ _))).mono ?_; rintro e w4 ⟨rfl,b4⟩; have B4:=qd ((Bl.alloc _ _).trans b4); have R4:=qd ((blk_in b4)); clear b4)
    | (go_at_call 79; refine (HR.out _).mono ?_; rintro e w5 ⟨rfl,b5⟩; have B5:=qd (B4.out.trans b5); have q5:=(b5.block _ (qf R4.out)).trans R4.out; have x0:w5.cell? ⟨w2.heap.size,0,none⟩=some (.int .i64 tk):=(qh q5).trans rfl; have x1:w5.cell? ⟨w2.heap.size,1,none⟩=some (.string (ba tt)):=(qh q5).trans rfl; have x2:w5.cell? ⟨w2.heap.size,2,none⟩=some (.int .i64 tn):=(qh q5).trans rfl; have x3:w5.cell? ⟨w2.heap.size,3,none⟩=some (.int .i64 tp):=(qh q5).trans rfl; clear b5 q5)
    | (refine wpList_store_row rfl 34 _ _ rfl w.heap.size #[.int .i64 7,.string ⟨#[]⟩,.int .i64 0,.int .i64 tp,.slice none 0 0,.slice none 0 0,.slice none 0 0] rfl rfl 34 _ ((B5.out.block _ L2).trans Q0.out) (by kernel_rfl) rfl (by kernel_rfl) ?_))
    refine ret34g Tryz.results176 (B:=w.heap.size) ?_ rfl ⟨?_,rfl,?_⟩
    ·exact setRow_heap _ _ _ _ 34 (0,0) ((B5.out.block _ L2).trans Q0.out)
    ·exact (qu F2.out (za B5.out)).trans (qG _ _ _) (fun b hb=>Or.inr (by simp at hb; omega))
    ·exact (P2.out.keep B5.out).other (qG _ _ _) (by simp; omega) (by simp; omega)
  ·have qs:((ba tt).toList == [115,117,112,101,114])=false:=by rw [tl_lst,qJ,beq_eq_false_iff_ne]; exact hsu
   rw [if_pos (by simpa using hsu)]
   clear hsu HA HR
   go_enter Tryz.func176,Tryz.ntmps176
   go_wp2_with (first
   | (
    go_at_call 80; refine (HT.out _ (Bl.alloc _ _)).mono ?_; rintro e w2 ⟨rfl,p2,f2⟩
    have q0:w2.heap[w.heap.size]?=some z7:=(f2.block _ (by simp) (by simp; omega)).trans (heap_alloc_new w _)
    have Q0:=qd q0;have P2:=qd p2;have F2:=qd (qu (za (Bl.alloc _ _)) f2);have L2:=qf q0;clear q0 p2 f2)
   | (go_at_call 127; refine (HC.out _).mono ?_; rintro e w3 ⟨rfl,h3⟩; have h4:=h3.symm; subst h4)
   | (refine wpList_store_row rfl 34 _ _ rfl w.heap.size #[.int .i64 6,.string (ba tt),.int .i64 0,.int .i64 tp,.slice none 0 0,.slice none 0 0,.slice none 0 0] rfl rfl 34 _ ((Below.heap_alloc _ _ _ L2).trans Q0.out) (by kernel_rfl) rfl (by kernel_rfl) ?_))
   have F3:=(qu F2.out (za (Bl.alloc w2 (.cells #[.int .i64 tk,.string (ba tt),.int .i64 tn,.int .i64 tp] 54))));refine ret34g Tryz.results176 (B:=w.heap.size) ?_ rfl ⟨?_,rfl,?_⟩
   ·exact setRow_heap _ _ _ _ 34 (0,0) ((Below.heap_alloc _ _ _ L2).trans Q0.out)
   ·exact F3.trans (qG _ _ _) (fun b hb=>Or.inr (by simp at hb; omega))
   ·exact (P2.out.keep (Bl.alloc _ _)).other (qG _ _ _) (by simp; omega) (by simp; omega)
def RowM (w:World) (e:TypeId) (sz:Nat) (v:Value) (n:Nat) (xs:List Value) (ft:List Nat):Prop :=
 (n=0∧xs=[]∧ft=[]∧∃ p,v=.slice p 0 0)∨(0 < n∧w.ownsRow 0 e sz v n xs∧∃ g,v.ownBlock=some g∧ft=[g])
theorem RowM.keep {w w':World} {e:TypeId} {sz:Nat} {v:Value} {n:Nat} {xs:List Value} {ft:List Nat} (h:RowM w e sz v n xs ft) (hb:∀ b∈ft,w'.heap[b]?=w.heap[b]?):RowM w' e sz v n xs ft:=by
 rcases h with h | ⟨h0,ho,g,hg,rfl⟩
 ·exact Or.inl h
 ·exact Or.inr ⟨h0,qC ho (fun k hk=>by rw [hg] at hk; injection hk with hk; subst hk; exact hb _ (by simp)),g,hg,rfl⟩
theorem RowM.lt {w:World} {e:TypeId} {sz:Nat} {v:Value} {n:Nat} {xs:List Value} {ft:List Nat} (h:RowM w e sz v n xs ft):∀ b∈ft,b < w.heap.size:=by
 intro b hb
 rcases h with ⟨_,_,rfl,_⟩ | ⟨h0,ho,g,hg,rfl⟩
 ·simp at hb
 ·simp at hb; subst hb; exact (qB ho _ hg).2
theorem RowM.slice {w:World} {e:TypeId} {sz:Nat} {v:Value} {n:Nat} {xs:List Value} {ft:List Nat} (h:RowM w e sz v n xs ft):∃ p c,v=.slice p n c:=by
 rcases h with ⟨rfl,_,_,p,rfl⟩ | ⟨h0,ho,g,hg,rfl⟩
 ·exact ⟨p,0,rfl⟩
 ·exact qz ho
theorem RowM.nil (w:World) (e:TypeId) (sz:Nat):RowM w e sz (.slice none 0 0) 0 [] []:=Or.inl ⟨rfl,rfl,rfl,none,rfl⟩
theorem RowM.own {w:World} {e:TypeId} {sz base:Nat} {v:Value} {n:Nat} {xs:List Value} (h:w.ownsRow base e sz v n xs) (h0:0 < n):∃ g,v.ownBlock=some g∧RowM w e sz v n xs [g]:=by
 rcases h.2 with ⟨rfl,h2⟩ | ⟨g,cap,cur,rfl,h1,h2,h3,h4,h5,h6⟩
 ·omega
 ·exact ⟨g,rfl,Or.inr ⟨h0,⟨h.1,Or.inr ⟨g,cap,cur,rfl,Nat.zero_le _,h2,h3,h4,h5,h6⟩⟩,g,rfl,rfl⟩⟩
def RowZ (w:World) (e:TypeId) (sz base:Nat) (v:Value) (n:Nat) (xs:List Value):Prop:=w.ownsRow base e sz v n xs∧(n=0→v=.slice none 0 0)
theorem RowZ.row {w:World} {e:TypeId} {sz base:Nat} {v:Value} {n:Nat} {xs:List Value} (h:RowZ w e sz base v n xs):RowM w e sz v n xs v.ownBlock.toList:=by
 by_cases h0:n=0
 ·have:=h.2 h0
  subst this; subst h0;rw [List.length_eq_zero_iff.1 (show xs.length=0 by rw [h.1.1,Nat.zero_mul])]
  exact RowM.nil _ _ _
 ·obtain ⟨g,hg,hr⟩:=RowM.own h.1 (by omega)
  rw [hg]; exact hr
theorem RowZ.blk {w:World} {e:TypeId} {sz base:Nat} {v:Value} {n:Nat} {xs:List Value} (h:RowZ w e sz base v n xs):∀ b∈v.ownBlock.toList,base≤b∧b < w.heap.size:=by
 intro b hb
 have:v.ownBlock=some b:=by simpa using hb
 exact qB h.1 b this
mutual
inductive NdM (w:World):Nd→Value→List Nat→Prop
 | mk {k:Nat} {t:Bs} {n:Int} {a:Nat} {nms:List Bs} {pls:List Nat} {kids:List Nd} {sn sp sk:Value} {f1 f2 f3 f4:List Nat} {xs:List Value}
   (h1:RowM w 9 1 sn nms.length (nms.map fun b=>.string (ba b)) f1) (h2:RowM w 3 1 sp pls.length (pls.map fun p=>.int .i64 (p:Nat)) f2)
   (h3:RowM w 34 7 sk kids.length xs f3) (h4:NdsM w kids xs f4) :
   NdM w (.mk k t n a nms pls kids) (.agg #[.int .i64 k,.string (ba t),.int .i64 n,.int .i64 a,sn,sp,sk]) (f1++(f2++(f3++f4)))
inductive NdsM (w:World):List Nd→List Value→List Nat→Prop
 | nil:NdsM w [] [] []
 | cons {n:Nd} {ns:List Nd} {c0 c1 c2 c3 c4 c5 c6:Value} {xs:List Value} {f1 f2:List Nat}
   (h1:NdM w n (.agg #[c0,c1,c2,c3,c4,c5,c6]) f1) (h2:NdsM w ns xs f2):NdsM w (n :: ns) (c0 :: c1 :: c2 :: c3 :: c4 :: c5 :: c6 :: xs) (f1++f2)
end
mutual
theorem NdM.keep {w w':World} {n:Nd} {v:Value} {ft:List Nat} (h:NdM w n v ft) (hb:∀ b∈ft,w'.heap[b]?=w.heap[b]?):NdM w' n v ft:=by
 cases h with
 | mk h1 h2 h3 h4=>exact .mk (h1.keep fun b m=>hb b (by simp [m])) (h2.keep fun b m=>hb b (by simp [m])) (h3.keep fun b m=>hb b (by simp [m])) (NdsM.keep h4 fun b m=>hb b (by simp [m]))
theorem NdsM.keep {w w':World} {ns:List Nd} {xs:List Value} {ft:List Nat} (h:NdsM w ns xs ft) (hb:∀ b∈ft,w'.heap[b]?=w.heap[b]?):NdsM w' ns xs ft:=by
 cases h with
 | nil=>exact .nil
 | cons h1 h2=>exact .cons (NdM.keep h1 fun b m=>hb b (by simp [m])) (NdsM.keep h2 fun b m=>hb b (by simp [m]))
end
mutual
theorem NdM.lt {w:World} {n:Nd} {v:Value} {ft:List Nat} (h:NdM w n v ft):∀ b∈ft,b < w.heap.size:=by
 cases h with
 | mk h1 h2 h3 h4 =>
  intro b hb;simp only [List.mem_append] at hb
  rcases hb with hb | hb | hb | hb
  ·exact h1.lt b hb
  ·exact h2.lt b hb
  ·exact h3.lt b hb
  ·exact NdsM.lt h4 b hb
theorem NdsM.lt {w:World} {ns:List Nd} {xs:List Value} {ft:List Nat} (h:NdsM w ns xs ft):∀ b∈ft,b < w.heap.size:=by
 cases h with
 | nil=>intro b hb; simp at hb
 | cons h1 h2 =>
  intro b hb;rw [List.mem_append] at hb
  rcases hb with hb | hb
  ·exact NdM.lt h1 b hb
  ·exact NdsM.lt h2 b hb
end
theorem NdsM.snoc {w:World}:∀ {ns:List Nd} {xs:List Value} {f1 f2:List Nat} {n:Nd} {c0 c1 c2 c3 c4 c5 c6:Value},NdsM w ns xs f1→NdM w n (.agg #[c0,c1,c2,c3,c4,c5,c6]) f2→NdsM w (ns++[n]) (xs++[c0,c1,c2,c3,c4,c5,c6]) (f1++f2):=by
 intro ns
 induction ns with
 | nil =>
  intro xs f1 f2 n c0 c1 c2 c3 c4 c5 c6 h hn
  cases h
  simpa using NdsM.cons hn .nil
 | cons m ns ih =>
  intro xs f1 f2 n c0 c1 c2 c3 c4 c5 c6 h hn
  cases h with
  | cons h1 h2 =>
   have:=NdsM.cons h1 (ih h2 hn)
   simpa [List.append_assoc] using this
theorem NdsM.len {w:World}:∀ {ns:List Nd} {xs:List Value} {ft:List Nat},NdsM w ns xs ft→xs.length=ns.length * 7:=by
 intro ns
 induction ns with
 | nil=>intro xs ft h; cases h; rfl
 | cons m ns ih =>
  intro xs ft h
  cases h with
  | cons h1 h2=>have:=ih h2; simp [this]; omega
structure Apt (lo:Nat) (ft:List Nat):Prop where
 nd:ft.Nodup
 lo:∀ b∈ft,lo≤b
theorem Apt.nil (lo:Nat):Apt lo []:=⟨List.nodup_nil,by simp⟩
theorem Apt.app {lo mid:Nat} {f1 f2:List Nat} (h1:Apt lo f1) (h2:Apt mid f2) (hm:∀ b∈f1,b < mid) (hl:lo≤mid):Apt lo (f1++f2) :=
 ⟨List.nodup_append.2 ⟨h1.nd,h2.nd,fun a ha b hb e=>by have:=hm a ha; have:=h2.lo b hb; omega⟩,fun b hb=>by
  rcases List.mem_append.1 hb with h | h
  ·exact h1.lo b h
  ·exact Nat.le_trans hl (h2.lo b h)⟩
theorem Apt.mono {lo lo':Nat} {ft:List Nat} (h:Apt lo ft) (hl:lo'≤lo):Apt lo' ft:=⟨h.nd,fun b hb=>Nat.le_trans hl (h.lo b hb)⟩
theorem Apt.cons {lo b:Nat} {ft:List Nat} (h:Apt lo ft) (hb:lo≤b) (hn:b ∉ ft):Apt lo (b :: ft):=⟨List.nodup_cons.2 ⟨hn,h.nd⟩,fun c hc=>by
 rcases List.mem_cons.1 hc with rfl | hc
 ·exact hb
 ·exact h.lo c hc⟩
def Stp (ts:Ts):Prop:=∃ us:Ts,∃ x:Tok × Nat,ts=us++[x]∧x.1.kind=18∧∀ y∈us,y.1.kind≠18
structure Okq (ts:Ts) (s:Ps):Prop where
 ok:Okp ts s
 lt:s.pos < ts.length
 stp:Stp ts
theorem Okq.take {ts:Ts} {s:Ps} (h:Okq ts s) (hk:(hdT ts s).1.kind≠18):Okq ts (qj ts s):=by
 refine ⟨h.ok.take h.lt,?_,h.stp⟩
 obtain ⟨us,x,rfl,hx,hu⟩:=h.stp
 have hl:=h.lt
 rw [List.length_append,List.length_singleton] at hl
 show s.pos+1 < (us++[x]).length
 rw [List.length_append,List.length_singleton]
 by_cases he:s.pos=us.length
 ·exfalso
  apply hk
  unfold hdT;rw [List.getD_eq_getElem?_getD,he];simp [hx]
 ·omega
theorem Okq.txt {ts:Ts} {s:Ps} (h:Okq ts s):(hdT ts s).1.text.length≤4096∧(hdT ts s).2≤4096:=h.ok.txt _ (hdT_mem h.lt)
theorem Okq.len {ts:Ts} {s:Ps} (h:Okq ts s):ts.length≤4097:=h.ok.len
theorem Okq.pass {ts:Ts} {s:Ps} (h:Okq ts s) {c p:Nat} (hp:p≤4096):Okq ts (qR c p s):=by
 obtain ⟨h1,h2,h3⟩:=jD (c:=c) h.ok.place hp
 exact ⟨⟨h.ok.len,h.ok.txt,h1,by rw [h2,h3]; exact h.ok.lo,by rw [h2,h3]; exact h.ok.hi,by rw [h3]; exact h.ok.pos⟩,by rw [h3]; exact h.lt,h.stp⟩
theorem qk {ts:Ts} {s:Ps} {k:Nat} (h:qi ts k s=true):(hdT ts s).1.kind=k:=by simpa [qi] using h
theorem Okq.skip {ts:Ts} {s:Ps} (h:Okq ts s) {k:Nat} (hk:k≠18):Okq ts (qN ts k s).2:=by
 unfold qN
 by_cases e:qi ts k s=true
 ·rw [if_pos e]; exact h.take (by rw [qk e]; exact hk)
 ·rw [if_neg e]; exact h
def PostN (P g c:Nat) (ts:Ts) (w:World) (r:Rs Nd) (e:Ending) (w':World):Prop:=Fr [P] w w'∧match r with
 | .ok n s'=>∃ v ft,e=.returned v∧NdM w' n v ft∧Apt w.heap.size ft∧Pr w' P g c ts s'
 | .bad x=>e=.panicked [{ v:=jl x,recovered:=false }]
theorem NdM.fr {w w':World} {n:Nd} {v:Value} {ft S:List Nat} (h:NdM w n v ft) (f:Fr S w w') (hs:∀ b∈ft,b ∉ S):NdM w' n v ft:=h.keep fun b hb=>f.block b (h.lt b hb) (hs b hb)
theorem NdsM.fr {w w':World} {n:List Nd} {v:List Value} {ft S:List Nat} (h:NdsM w n v ft) (f:Fr S w w') (hs:∀ b∈ft,b ∉ S):NdsM w' n v ft:=h.keep fun b hb=>f.block b (h.lt b hb) (hs b hb)
theorem RowM.fr {w w':World} {e:TypeId} {sz:Nat} {v:Value} {n:Nat} {xs:List Value} {ft S:List Nat} (h:RowM w e sz v n xs ft) (f:Fr S w w') (hs:∀ b∈ft,b ∉ S):RowM w' e sz v n xs ft:=h.keep fun b hb=>f.block b (h.lt b hb) (hs b hb)
theorem NdM.leaf (w:World) (k:Nat) (t:Bs) (n:Int) (a:Nat):NdM w (.mk k t n a [] [] []) (nd0 k t n a) []:=by
 have:=NdM.mk (w:=w) (k:=k) (t:=t) (n:=n) (a:=a) (nms:=[]) (pls:=[]) (kids:=[]) (RowM.nil w 9 1) (RowM.nil w 3 1) (RowM.nil w 34 7) .nil
 simpa [nd0] using this
end Go.Proofs.YtfhkhmgodkheaaaGreatDoor
