import Derived.Test.YtfhkhmgodkheaaaGreatDoorQCG00LLex
import Derived.Test.YtfhkhmgodkheaaaGreatDoorChecked
import Derived.WalkKit
import Derived.BigCall
import Derived.Lib.OthersKept
import Derived.Laws.RangeAny
import Derived.Shelf.Small.Strs
import Derived.Shelf.LaysM
import Derived.Shelf.Strconv.Clone
import Derived.Shelf.Strings.Prefix
import Derived.Shelf.Strings.Replace
import Derived.Shelf.Strings.SplitShaped
import Derived.Lib.IndexBytes
set_option linter.unusedSimpArgs false
set_option linter.unusedVariables false
set_option maxRecDepth 1000000
set_option maxHeartbeats 16000000
namespace Go.Proofs.YtfhkhmgodkheaaaGreatDoor
open Go.RowKit
theorem qd {p:Prop} (h:p):Hid p:=h
def lst (s:ByteArray):Bs:=s.data.toList
theorem qo (s:ByteArray):(lst s).length=s.size:=rfl
theorem get_lst (s:ByteArray) (k:Nat) (h:k < s.size):hd ((lst s).drop k)=(s[k]'h).toNat:=by
 rw [hd_drop (by rw [qo]; exact h)]
 rfl
abbrev Bl (w w':World):Prop:=Below w.heap.size w w'
theorem Bl.refl (w:World):Bl w w:=Below.refl _ w
theorem Bl.trans {a b c:World} (h:Bl a b) (k:Bl b c):Bl a c:=Below.trans h (Below.mono k h.size)
theorem Bl.alloc (w:World) (o:Obj):Bl w (w.alloc o):=(Below.refl _ w).alloc (Nat.le_refl _) _
theorem rune_at (s:ByteArray) (pos:Nat) (h:pos < s.size):∃ r:Nat,Utf8.decode s pos=(r,(Utf8.decode s pos).2)∧1≤(Utf8.decode s pos).2∧r≤2147483647 ∧
  ((hd ((lst s).drop pos) < 128∧r=hd ((lst s).drop pos)∧(Utf8.decode s pos).2=1)∨(128≤hd ((lst s).drop pos)∧128≤r)):=by
 have h3:=decode_le s pos
 refine ⟨(Utf8.decode s pos).1,rfl,?_,h3,?_⟩
 ·by_cases ha:(s[pos]'h).toNat < 128
  ·rw [decode_ascii s pos h ha]; exact Nat.le_refl _
  ·exact (decode_high s pos h (by omega)).2
 ·rw [get_lst s pos h]
  by_cases ha:(s[pos]'h).toNat < 128
  ·left; rw [decode_ascii s pos h ha]; exact ⟨ha,rfl,rfl⟩
  ·right; exact ⟨by omega,(decode_high s pos h (by omega)).1⟩
theorem tw_eq (p:UInt8→Bool):∀ (l:Bs) (k:Nat),k≤l.length→(∀ j (h:j < l.length),j < k→p l[j]=true)→(∀ h:k < l.length,p l[k]=false)→(l.takeWhile p).length=k:=by
 intro l
 induction l with
 | nil=>intro k h _ _; simp at h; simp [h]
 | cons c r ih =>
  intro k hk h1 h2;rw [List.takeWhile_cons]
  cases k with
  | zero =>
   have:=h2 (by simp)
   simp at this
   simp [this]
  | succ k =>
   rw [if_pos (show p c=true from h1 0 (by simp) (by omega)),List.length_cons,ih k (by simpa using hk) (fun j hj hjk=>h1 (j+1) (by simpa using hj) (by omega)) (fun h=>h2 (by simpa using h))]
theorem hd_at {l:Bs} {k:Nat} (h:k < l.length):(l[k]).toNat=hd (l.drop k):=(hd_drop h).symm
theorem nameLen_at {l:Bs} {k:Nat} (hk:k≤l.length) (h0:0 < k→isL (hd l)=true) (h1:∀ j,j < k→isW (hd (l.drop j))=true)
  (h2:k < l.length→isL (hd (l.drop k))=false∧(k≠0→isD (hd (l.drop k))=false)):qw l=k:=by
 unfold qw
 by_cases hz:k=0
 ·subst hz
  by_cases hl:0 < l.length
  ·have:=(h2 hl).1
   rw [List.drop_zero] at this;rw [this]; simp
  ·have:l=[]:=List.length_eq_zero_iff.1 (by omega)
   subst this;simp [hd,isL]
 ·rw [if_pos (h0 (by omega))]
  refine tw_eq wN l k hk (fun j hj hjk=>?_) (fun h=>?_)
  ·unfold wN; rw [hd_at hj]; exact h1 j hjk
  ·unfold wN isW; rw [hd_at h,(h2 h).1,(h2 h).2 hz]; rfl
theorem jr (r:Nat) (w:World):Calls Tryz.prog 50 #[.int .i32 r] w fun e w'=>e=.returned (.bool (isL r))∧w'=w:=by
 go_enter Tryz.func50,Tryz.ntmps50
 go_wp2
 all_goals (go_ret; exact ⟨congrArg (fun b=>Ending.returned (Value.bool b)) (by rw [Bool.eq_iff_iff,isL_iff]; simp <;> omega),rfl⟩)
theorem jg (r:Nat) (w:World):Calls Tryz.prog 51 #[.int .i32 r] w fun e w'=>e=.returned (.bool (isD r))∧w'=w:=by
 go_enter Tryz.func51,Tryz.ntmps51
 go_wp2
 all_goals (go_ret; exact ⟨congrArg (fun b=>Ending.returned (Value.bool b)) (by rw [Bool.eq_iff_iff,isD_iff]; simp <;> omega),rfl⟩)
theorem jL (s:ByteArray) (w:World) (hs:s.size≤140737488355328) :
  Calls Tryz.prog 72 #[.string s] w fun e w'=>e=.returned (.int .i64 (qw (lst s)))∧Bl w w':=by
 go_enter Tryz.func72,Tryz.ntmps72
 go_wp2
 go_loopw [] (fun wr=>∃ pos:Nat,wr.heap[w.heap.size]?=some (.stringIter s pos)∧Below w.heap.size w wr∧pos≤s.size∧(0 < pos→isL (hd (lst s))=true)∧∀ j,j < pos→isW (hd ((lst s).drop j))=true) (fun wr=>s.size - wr.iterPos w.heap.size)
 case atStart =>
  refine ⟨0,?_,(Below.refl _ w).alloc (Nat.le_refl _) _,Nat.zero_le _,fun h=>by omega,fun j h=>by omega⟩
  have:=World.iter_heap w s 0
  simpa using this
 case round =>
  obtain ⟨pos,hit,hb,hps,h0,h1⟩:=hrel
  by_cases hp:pos < s.size
  ·have hnx:∀ ty,(Instr.next (.pointer (some ⟨w.heap.size,0,none⟩)) true ty).run Tryz.prog wr=_:=fun ty=>Lib.run_next_any_at wr w.heap.size s pos ty hit hp
   have hit2:=Lib.iterAt_heap wr w.heap.size s pos (pos+(Utf8.decode s pos).2) hit;have hbw2:=Lib.below_iterAt hb (k:=w.heap.size) (Nat.le_refl _) s (pos+(Utf8.decode s pos).2);obtain ⟨r,hr,hw1,hr2,hcase⟩:=rune_at s pos hp;generalize hW:wr.iterAt w.heap.size s (pos+(Utf8.decode s pos).2)=W at *;rw [hr] at hnx;simp only at hnx;clear hr hW;have hg:hd ((lst s).drop pos)=r∨(128≤hd ((lst s).drop pos)∧128≤r):=by omega
   have hLr:isL (hd ((lst s).drop pos))=isL r:=by
    rcases hg with h | h
    ·rw [h]
    ·have:∀ n,128≤n→isL n=false:=fun n hn=>by rw [Bool.eq_false_iff]; intro hc; rw [isL_iff] at hc; omega
     rw [this _ h.1,this _ h.2]
   have hDr:isD (hd ((lst s).drop pos))=isD r:=by
    rcases hg with h | h
    ·rw [h]
    ·have:∀ n,128≤n→isD n=false:=fun n hn=>by rw [Bool.eq_false_iff]; intro hc; rw [isD_iff] at hc; omega
     rw [this _ h.1,this _ h.2]
   have hgo:(isL r=true∨isD r=true)→(Utf8.decode s pos).2=1:=fun h=>by
    rcases hcase with h2 | h2
    ·exact h2.2.2
    ·exfalso; rcases h with h | h
     ·rw [isL_iff] at h; omega
     ·rw [isD_iff] at h; omega
   clear hcase hg;have hfin:(isL r=false∧(pos≠0→isD r=false))→qw (lst s)=pos:=fun h=>nameLen_at (by rw [qo]; omega) h0 h1 (fun _=>by rw [hLr,hDr]; exact h)
   by_cases cL:isL r=true
   ·have hw:=hgo (Or.inl cL)
    go_wp2_with (first | (go_at_call 50; refine (jr r _).mono ?_; rintro e w' ⟨rfl,rfl⟩) | (go_at_call 51; refine (jg r _).mono ?_; rintro e w' ⟨rfl,rfl⟩))
    go_roundw
    case rel =>
     refine ⟨pos+1,by rw [hit2,hw],hbw2,by omega,fun _=>?_,fun j hj=>?_⟩
     ·by_cases hz:pos=0
      ·subst hz; rw [← List.drop_zero (l:=lst s),hLr]; exact cL
      ·exact h0 (by omega)
     ·by_cases hj2:j < pos
      ·exact h1 j hj2
      ·have:j=pos:=by omega
       subst this;unfold isW; rw [hLr,hDr]; simp [cL]
    case measure =>
     simp only [World.iterPos,hit2,hit]
     omega
   ·have cL':isL r=false:=by simpa using cL
    clear cL
    by_cases c0:pos=0
    ·have hf:=hfin ⟨cL',fun h=>absurd c0 h⟩
     subst c0
     go_wp2_with (first | (go_at_call 50; refine (jr r _).mono ?_; rintro e w' ⟨rfl,rfl⟩) | (go_at_call 51; refine (jg r _).mono ?_; rintro e w' ⟨rfl,rfl⟩))
     go_ret
     exact ⟨by rw [hf]; rfl,hbw2⟩
    ·by_cases cD:isD r=true
     ·have hw:=hgo (Or.inr cD)
      go_wp2_with (first | (go_at_call 50; refine (jr r _).mono ?_; rintro e w' ⟨rfl,rfl⟩) | (go_at_call 51; refine (jg r _).mono ?_; rintro e w' ⟨rfl,rfl⟩))
      go_roundw
      case rel =>
       refine ⟨pos+1,by rw [hit2,hw],hbw2,by omega,fun _=>?_,fun j hj=>?_⟩
       ·by_cases hz:pos=0
        ·subst hz; rw [← List.drop_zero (l:=lst s),hLr]; exact (absurd rfl c0)
        ·exact h0 (by omega)
       ·by_cases hj2:j < pos
        ·exact h1 j hj2
        ·have:j=pos:=by omega
         subst this;unfold isW; rw [hLr,hDr]; simp [cD]
      case measure =>
       simp only [World.iterPos,hit2,hit]
       omega
     ·have cD':isD r=false:=by simpa using cD
      have hf:=hfin ⟨cL',fun _=>cD'⟩
      clear cD
      go_wp2_with (first | (go_at_call 50; refine (jr r _).mono ?_; rintro e w' ⟨rfl,rfl⟩) | (go_at_call 51; refine (jg r _).mono ?_; rintro e w' ⟨rfl,rfl⟩))
      go_ret
      exact ⟨by rw [hf]; rfl,hbw2⟩
  ·have hnx:∀ ty,(Instr.next (.pointer (some ⟨w.heap.size,0,none⟩)) true ty).run Tryz.prog wr=_:=fun ty=>Lib.run_next_end_at wr w.heap.size s pos ty hit hp
   go_wp2
   go_wp2
   go_ret
   refine ⟨?_,hb⟩;rw [nameLen_at (k:=pos) (by rw [qo]; omega) h0 h1 (fun h=>by rw [qo] at h; omega)]
   have:pos=s.size:=by omega
   rw [this];rfl
theorem qq {α:Type _}:(∀ (xs:List α) (i:Nat) (h:i < xs.toArray.size),xs.toArray[i]=xs[i]'(by simpa using h))∧(∀ (a:α) (l:List α) (h:0 < (a :: l).length),(a :: l)[0]=a)∧(∀ (a:α) (l:List α) (i:Nat) (h:i+1 < (a :: l).length),(a :: l)[i+1]=l[i]'(Nat.lt_of_succ_lt_succ h))∧(∀ (l:List α) (i:Nat) (a:α),l.toArray.setIfInBounds i a=(l.set i a).toArray)∧(∀ (a x:α) (l:List α),(a :: l).set 0 x=x :: l)∧∀ (a x:α) (l:List α) (n:Nat),(a :: l).set (n+1) x=a :: l.set n x:=⟨fun _ _ _=>rfl,fun _ _ _=>rfl,fun _ _ _ _=>rfl,List.setIfInBounds_toArray,fun _ _ _=>rfl,fun _ _ _ _=>rfl⟩
end Go.Proofs.YtfhkhmgodkheaaaGreatDoor
namespace Go.Proofs.YtfhkhmgodkheaaaGreatDoor
open Go Go.Shelf
def Tryz.lays137_ren:Go.Shelf.Ren:=⟨fun | 137=>71 | 217=>110 | 266=>136 | n=>n,fun | 9=>9 | 5=>5 | 3=>3 | n=>n,fun | n=>n⟩
theorem Tryz.lays137:Go.Proofs.Lays.n137 Tryz.prog Tryz.lays137_ren:={
 mixed:=by kernel_rfl
 f137:=Tryz.func71.trans (congrArg some (by kernel_rfl))
 f217:=Tryz.func110.trans (congrArg some (by kernel_rfl))
 f266:=Tryz.func136.trans (congrArg some (by kernel_rfl))
 t3:=Tryz.underlying3
 a3:=Tryz.isAgg3
 z3:=Tryz.sizeOf3
 v3:=Tryz.zeroValue3
 t5:=Tryz.underlying5
 a5:=Tryz.isAgg5
 z5:=Tryz.sizeOf5
 v5:=Tryz.zeroValue5
 t9:=Tryz.underlying9
 a9:=Tryz.isAgg9
 z9:=Tryz.sizeOf9
 v9:=Tryz.zeroValue9 }
open Go.RowKit in
theorem Tryz.strings_IndexByte (s:ByteArray) (c:Int) (w:World) :
  Calls Tryz.prog 71 #[.string s,.int .u8 c] w fun e w'=>e=.returned (.int .i64 (Lib.indexByte s.data.toList c.toNat.toUInt8))∧w'=w:=Any.strings_IndexByte Tryz.lays137 s c w
def Tryz.laysM316_ren:Go.Shelf.Ren:=⟨fun | 316=>53 | n=>n,fun | 9=>9 | 3=>3 | 4=>4 | 37=>73 | 0=>0 | 127=>114 | 5=>5 | n=>n,fun | n=>n⟩
theorem Tryz.laysM316:Go.Proofs.LaysM.n316 Tryz.prog Tryz.laysM316_ren:={
 mixed:=by kernel_rfl
 f316:=Tryz.func53.trans (congrArg some (by kernel_rfl))
 t0:=Tryz.underlying0
 a0:=Tryz.isAgg0
 z0:=Tryz.sizeOf0
 v0:=Tryz.zeroValue0
 t3:=Tryz.underlying3
 a3:=Tryz.isAgg3
 z3:=Tryz.sizeOf3
 v3:=Tryz.zeroValue3
 t4:=Tryz.underlying4
 a4:=Tryz.isAgg4
 z4:=Tryz.sizeOf4
 v4:=Tryz.zeroValue4
 t9:=Tryz.underlying9
 a9:=Tryz.isAgg9
 z9:=Tryz.sizeOf9
 v9:=Tryz.zeroValue9
 t37:=Tryz.underlying73
 a37:=Tryz.isAgg73
 z37:=Tryz.sizeOf73
 v37:=Tryz.zeroValue73
 t127:=Tryz.underlying114
 a127:=Tryz.isAgg114
 z127:=Tryz.sizeOf114
 v127:=Tryz.zeroValue114
 t5:=Tryz.underlying5
 a5:=Tryz.isAgg5
 z5:=Tryz.sizeOf5
 v5:=Tryz.zeroValue5
 i0:=by kernel_rfl
 i3:=by kernel_rfl
 i4:=by kernel_rfl
 i5:=by kernel_rfl
 i9:=by kernel_rfl
 i37:=by kernel_rfl
 i127:=by kernel_rfl }
open Go.RowKit in
theorem Tryz.stringslite_Clone (s:ByteArray) (w:World) (hlim:s.size≤281474976710656) :
  Calls Tryz.prog 53 #[.string s] w fun e w'=>e=.returned (.string s)∧Below w.heap.size w w':=Any.stringslite_Clone Tryz.laysM316 s w hlim
def Tryz.lays99_ren:Go.Shelf.Ren:=⟨fun | 99=>78 | 206=>112 | n=>n,fun | 9=>9 | 4=>4 | 3=>3 | n=>n,fun | n=>n⟩
theorem Tryz.lays99:Go.Proofs.Lays.n99 Tryz.prog Tryz.lays99_ren:={
 mixed:=by kernel_rfl
 f99:=Tryz.func78.trans (congrArg some (by kernel_rfl))
 f206:=Tryz.func112.trans (congrArg some (by kernel_rfl))
 t3:=Tryz.underlying3
 a3:=Tryz.isAgg3
 z3:=Tryz.sizeOf3
 v3:=Tryz.zeroValue3
 t4:=Tryz.underlying4
 a4:=Tryz.isAgg4
 z4:=Tryz.sizeOf4
 v4:=Tryz.zeroValue4
 t9:=Tryz.underlying9
 a9:=Tryz.isAgg9
 z9:=Tryz.sizeOf9
 v9:=Tryz.zeroValue9 }
open Go.RowKit Go.Lib in
theorem Tryz.strings_HasPrefix (s p:ByteArray) (w:World) :
  Calls Tryz.prog 78 #[.string s,.string p] w fun e w'=>e=.returned (.bool (Lib.hasPrefix s.data.toList p.data.toList))∧w'=w:=Any.strings_HasPrefix Tryz.lays99 s p w
def Tryz.lays155_ren:Go.Shelf.Ren:=⟨fun | 155=>77 | 154=>111 | 138=>137 | 165=>138 | 143=>121 | 166=>108 | 197=>120 | 169=>40 | 195=>150 | 218=>151 | 240=>130 | 241=>152 | 219=>142 | 260=>141 | 276=>146 | 277=>162 | 217=>110 | 225=>157 | 224=>158 | 267=>159 | 266=>136 | 314=>168 | n=>n,fun | 9=>9 | 3=>3 | 4=>4 | 72=>86 | 0=>0 | 76=>140 | 105=>148 | 21=>21 | 5=>5 | 70=>84 | 20=>20 | 37=>73 | 75=>139 | 127=>114 | 164=>158 | 46=>166 | 119=>165 | 139=>169 | 138=>168 | 146=>179 | 51=>178 | 80=>91 | n=>n,fun | 1=>2 | 3=>3 | 4=>4 | n=>n⟩
theorem Tryz.lays155:Go.Proofs.Lays.n155 Tryz.prog Tryz.lays155_ren:={
 mixed:=by kernel_rfl
 f138:=Tryz.func137.trans (congrArg some (by kernel_rfl))
 f143:=Tryz.func121.trans (congrArg some (by kernel_rfl))
 f154:=Tryz.func111.trans (congrArg some (by kernel_rfl))
 f155:=Tryz.func77.trans (congrArg some (by kernel_rfl))
 f165:=Tryz.func138.trans (congrArg some (by kernel_rfl))
 f166:=Tryz.func108.trans (congrArg some (by kernel_rfl))
 f169:=Tryz.func40.trans (congrArg some (by kernel_rfl))
 f195:=Tryz.func150.trans (congrArg some (by kernel_rfl))
 f197:=Tryz.func120.trans (congrArg some (by kernel_rfl))
 f217:=Tryz.func110.trans (congrArg some (by kernel_rfl))
 f218:=Tryz.func151.trans (congrArg some (by kernel_rfl))
 f219:=Tryz.func142.trans (congrArg some (by kernel_rfl))
 f224:=Tryz.func158.trans (congrArg some (by kernel_rfl))
 f225:=Tryz.func157.trans (congrArg some (by kernel_rfl))
 f240:=Tryz.func130.trans (congrArg some (by kernel_rfl))
 f241:=Tryz.func152.trans (congrArg some (by kernel_rfl))
 f260:=Tryz.func141.trans (congrArg some (by kernel_rfl))
 f266:=Tryz.func136.trans (congrArg some (by kernel_rfl))
 f267:=Tryz.func159.trans (congrArg some (by kernel_rfl))
 f276:=Tryz.func146.trans (congrArg some (by kernel_rfl))
 f277:=Tryz.func162.trans (congrArg some (by kernel_rfl))
 f314:=Tryz.func168.trans (congrArg some (by kernel_rfl))
 t0:=Tryz.underlying0
 a0:=Tryz.isAgg0
 z0:=Tryz.sizeOf0
 v0:=Tryz.zeroValue0
 t3:=Tryz.underlying3
 a3:=Tryz.isAgg3
 z3:=Tryz.sizeOf3
 v3:=Tryz.zeroValue3
 t4:=Tryz.underlying4
 a4:=Tryz.isAgg4
 z4:=Tryz.sizeOf4
 v4:=Tryz.zeroValue4
 t5:=Tryz.underlying5
 a5:=Tryz.isAgg5
 z5:=Tryz.sizeOf5
 v5:=Tryz.zeroValue5
 t9:=Tryz.underlying9
 a9:=Tryz.isAgg9
 z9:=Tryz.sizeOf9
 v9:=Tryz.zeroValue9
 t20:=Tryz.underlying20
 a20:=Tryz.isAgg20
 z20:=Tryz.sizeOf20
 v20:=Tryz.zeroValue20
 t21:=Tryz.underlying21
 a21:=Tryz.isAgg21
 z21:=Tryz.sizeOf21
 v21:=Tryz.zeroValue21
 t37:=Tryz.underlying73
 a37:=Tryz.isAgg73
 z37:=Tryz.sizeOf73
 v37:=Tryz.zeroValue73
 t46:=Tryz.underlying166
 a46:=Tryz.isAgg166
 z46:=Tryz.sizeOf166
 v46:=Tryz.zeroValue166
 t51:=Tryz.underlying178
 a51:=Tryz.isAgg178
 z51:=Tryz.sizeOf178
 v51:=Tryz.zeroValue178
 t70:=Tryz.underlying84
 a70:=Tryz.isAgg84
 z70:=Tryz.sizeOf84
 v70:=Tryz.zeroValue84
 t72:=Tryz.underlying86
 a72:=Tryz.isAgg86
 z72:=Tryz.sizeOf86
 v72:=Tryz.zeroValue86
 t75:=Tryz.underlying139
 a75:=Tryz.isAgg139
 z75:=Tryz.sizeOf139
 v75:=Tryz.zeroValue139
 t76:=Tryz.underlying140
 a76:=Tryz.isAgg140
 z76:=Tryz.sizeOf140
 v76:=Tryz.zeroValue140
 t105:=Tryz.underlying148
 a105:=Tryz.isAgg148
 z105:=Tryz.sizeOf148
 v105:=Tryz.zeroValue148
 t119:=Tryz.underlying165
 a119:=Tryz.isAgg165
 z119:=Tryz.sizeOf165
 t127:=Tryz.underlying114
 a127:=Tryz.isAgg114
 z127:=Tryz.sizeOf114
 v127:=Tryz.zeroValue114
 t138:=Tryz.underlying168
 a138:=Tryz.isAgg168
 z138:=Tryz.sizeOf168
 v138:=Tryz.zeroValue168
 t139:=Tryz.underlying169
 a139:=Tryz.isAgg169
 z139:=Tryz.sizeOf169
 v139:=Tryz.zeroValue169
 t146:=Tryz.underlying179
 a146:=Tryz.isAgg179
 z146:=Tryz.sizeOf179
 v146:=Tryz.zeroValue179
 t164:=Tryz.underlying158
 a164:=Tryz.isAgg158
 z164:=Tryz.sizeOf158
 v164:=Tryz.zeroValue158
 g1:=by kernel_rfl
 g3:=by kernel_rfl
 g4:=by kernel_rfl }
theorem Tryz.Builder_Extra_155:Builder.Extra Tryz.prog Tryz.lays155_ren:={
 sizeBuilder:=by kernel_rfl
 liesBuilder:=by kernel_rfl
 t5:=Tryz.underlying5
 a5:=Tryz.isAgg5
 z5:=Tryz.sizeOf5
 v5:=Tryz.zeroValue5
 infoByte:=by kernel_rfl
 cellsByte:=by kernel_rfl
 sizeByte:=by kernel_rfl
 neB5:=by decide }
open Go.RowKit Go.Lib in
theorem Tryz.strings_ReplaceAll (s old new:ByteArray) (m:Int) (w:World) (hs:s.size < 4294967281) (hm:w.cell? ⟨2,0,none⟩=some (.int .i64 m)) (h1:1≤old.size) (hlen:s.size+Lib.countB s old * new.size≤140737488355328) :
  Calls Tryz.prog 77 #[.string s,.string old,.string new] w fun e w' =>
   e=.returned (.string ⟨(Lib.replaceAll s.data.toList old.data.toList new.data.toList).toArray⟩)∧Below w.heap.size w w':=Any.strings_ReplaceAll Tryz.lays155 Tryz.Builder_Extra_155 s old new m w hs hm h1 hlen
def Tryz.laysM155_ren:Go.Shelf.Ren:=⟨fun | 155=>77 | 154=>111 | 138=>137 | 165=>138 | 143=>121 | 166=>108 | 197=>120 | 169=>40 | 195=>150 | 218=>151 | 240=>130 | 241=>152 | 219=>142 | 260=>141 | 276=>146 | 277=>162 | 217=>110 | 225=>157 | 224=>158 | 267=>159 | 266=>136 | 314=>168 | n=>n,fun | 9=>9 | 3=>3 | 4=>4 | 72=>86 | 0=>0 | 76=>140 | 105=>148 | 21=>21 | 5=>5 | 70=>84 | 20=>20 | 37=>73 | 75=>139 | 127=>114 | 164=>158 | 46=>166 | 119=>165 | 139=>169 | 138=>168 | 146=>179 | 51=>178 | 80=>91 | n=>n,fun | 1=>2 | 3=>3 | 4=>4 | n=>n⟩
theorem Tryz.laysM155:Go.Proofs.LaysM.n155 Tryz.prog Tryz.laysM155_ren:={
 mixed:=by kernel_rfl
 f138:=Tryz.func137.trans (congrArg some (by kernel_rfl))
 f143:=Tryz.func121.trans (congrArg some (by kernel_rfl))
 f154:=Tryz.func111.trans (congrArg some (by kernel_rfl))
 f155:=Tryz.func77.trans (congrArg some (by kernel_rfl))
 f165:=Tryz.func138.trans (congrArg some (by kernel_rfl))
 f166:=Tryz.func108.trans (congrArg some (by kernel_rfl))
 f169:=Tryz.func40.trans (congrArg some (by kernel_rfl))
 f195:=Tryz.func150.trans (congrArg some (by kernel_rfl))
 f197:=Tryz.func120.trans (congrArg some (by kernel_rfl))
 f217:=Tryz.func110.trans (congrArg some (by kernel_rfl))
 f218:=Tryz.func151.trans (congrArg some (by kernel_rfl))
 f219:=Tryz.func142.trans (congrArg some (by kernel_rfl))
 f224:=Tryz.func158.trans (congrArg some (by kernel_rfl))
 f225:=Tryz.func157.trans (congrArg some (by kernel_rfl))
 f240:=Tryz.func130.trans (congrArg some (by kernel_rfl))
 f241:=Tryz.func152.trans (congrArg some (by kernel_rfl))
 f260:=Tryz.func141.trans (congrArg some (by kernel_rfl))
 f266:=Tryz.func136.trans (congrArg some (by kernel_rfl))
 f267:=Tryz.func159.trans (congrArg some (by kernel_rfl))
 f276:=Tryz.func146.trans (congrArg some (by kernel_rfl))
 f277:=Tryz.func162.trans (congrArg some (by kernel_rfl))
 f314:=Tryz.func168.trans (congrArg some (by kernel_rfl))
 t0:=Tryz.underlying0
 a0:=Tryz.isAgg0
 z0:=Tryz.sizeOf0
 v0:=Tryz.zeroValue0
 t3:=Tryz.underlying3
 a3:=Tryz.isAgg3
 z3:=Tryz.sizeOf3
 v3:=Tryz.zeroValue3
 t4:=Tryz.underlying4
 a4:=Tryz.isAgg4
 z4:=Tryz.sizeOf4
 v4:=Tryz.zeroValue4
 t5:=Tryz.underlying5
 a5:=Tryz.isAgg5
 z5:=Tryz.sizeOf5
 v5:=Tryz.zeroValue5
 t9:=Tryz.underlying9
 a9:=Tryz.isAgg9
 z9:=Tryz.sizeOf9
 v9:=Tryz.zeroValue9
 t20:=Tryz.underlying20
 a20:=Tryz.isAgg20
 z20:=Tryz.sizeOf20
 v20:=Tryz.zeroValue20
 t21:=Tryz.underlying21
 a21:=Tryz.isAgg21
 z21:=Tryz.sizeOf21
 v21:=Tryz.zeroValue21
 t37:=Tryz.underlying73
 a37:=Tryz.isAgg73
 z37:=Tryz.sizeOf73
 v37:=Tryz.zeroValue73
 t46:=Tryz.underlying166
 a46:=Tryz.isAgg166
 z46:=Tryz.sizeOf166
 v46:=Tryz.zeroValue166
 t51:=Tryz.underlying178
 a51:=Tryz.isAgg178
 z51:=Tryz.sizeOf178
 v51:=Tryz.zeroValue178
 t70:=Tryz.underlying84
 a70:=Tryz.isAgg84
 z70:=Tryz.sizeOf84
 v70:=Tryz.zeroValue84
 t72:=Tryz.underlying86
 a72:=Tryz.isAgg86
 z72:=Tryz.sizeOf86
 v72:=Tryz.zeroValue86
 t75:=Tryz.underlying139
 a75:=Tryz.isAgg139
 z75:=Tryz.sizeOf139
 v75:=Tryz.zeroValue139
 t76:=Tryz.underlying140
 a76:=Tryz.isAgg140
 z76:=Tryz.sizeOf140
 v76:=Tryz.zeroValue140
 t105:=Tryz.underlying148
 a105:=Tryz.isAgg148
 z105:=Tryz.sizeOf148
 v105:=Tryz.zeroValue148
 t119:=Tryz.underlying165
 a119:=Tryz.isAgg165
 z119:=Tryz.sizeOf165
 t127:=Tryz.underlying114
 a127:=Tryz.isAgg114
 z127:=Tryz.sizeOf114
 v127:=Tryz.zeroValue114
 t138:=Tryz.underlying168
 a138:=Tryz.isAgg168
 z138:=Tryz.sizeOf168
 v138:=Tryz.zeroValue168
 t139:=Tryz.underlying169
 a139:=Tryz.isAgg169
 z139:=Tryz.sizeOf169
 v139:=Tryz.zeroValue169
 t146:=Tryz.underlying179
 a146:=Tryz.isAgg179
 z146:=Tryz.sizeOf179
 v146:=Tryz.zeroValue179
 t164:=Tryz.underlying158
 a164:=Tryz.isAgg158
 z164:=Tryz.sizeOf158
 v164:=Tryz.zeroValue158
 g1:=by kernel_rfl
 g3:=by kernel_rfl
 g4:=by kernel_rfl
 t80:=Tryz.underlying91
 a80:=Tryz.isAgg91
 z80:=Tryz.sizeOf91
 v80:=Tryz.zeroValue91
 i0:=by kernel_rfl
 i3:=by kernel_rfl
 i4:=by kernel_rfl
 i5:=by kernel_rfl
 i9:=by kernel_rfl
 i20:=by kernel_rfl
 i21:=by kernel_rfl
 i37:=by kernel_rfl
 i46:=by kernel_rfl
 i51:=by kernel_rfl
 i70:=by kernel_rfl
 i72:=by kernel_rfl
 i75:=by kernel_rfl
 i76:=by kernel_rfl
 i80:=by kernel_rfl
 i105:=by kernel_rfl
 i127:=by kernel_rfl
 i138:=by kernel_rfl
 i139:=by kernel_rfl
 i146:=by kernel_rfl
 i164:=by kernel_rfl
 m1:=by kernel_rfl
 s1_3:=fun w h=>Go.Proofs.cell_of_shapedOpen_int (zero:=#[.int .i64 0]) (t:=3) h (of_decide_eq_true (by kernel_rfl)) (by kernel_rfl) rfl (by kernel_rfl) (by kernel_rfl) Tryz.underlying3
 m3:=by kernel_rfl
 m4:=by kernel_rfl }
end Go.Proofs.YtfhkhmgodkheaaaGreatDoor
namespace Go.Proofs.YtfhkhmgodkheaaaGreatDoor
open Go.RowKit
theorem jE {s:ByteArray} (h:s.size=0):s.toList.isEmpty=true:=by
 have e:s.toList=s.data.toList:=ByteArray.toList_eq s
 rw [e,List.isEmpty_iff]
 exact List.length_eq_zero_iff.1 h
theorem ja {s:ByteArray} (h:¬ s.size=0):s.toList.isEmpty=false:=by
 have e:s.toList=s.data.toList:=ByteArray.toList_eq s
 rw [e,Bool.eq_false_iff]
 intro h2
 rw [List.isEmpty_iff] at h2
 exact h (List.length_eq_zero_iff.2 h2)
theorem isOb_ok (c:UInt8) (w:World):Calls Tryz.prog 52 #[.int .u8 c.toNat] w fun e w'=>e=.returned (.bool (isO c.toNat))∧w'=w:=by
 have key0:∀ n,n < 256→decide ((0:Int)≤Lib.indexByte [43,45,42,47,92,60,62,61,126,44,37,38,63,64] (UInt8.ofNat n))=isO n:=by decide +kernel
 have key:decide ((0:Int)≤Lib.indexByte [43,45,42,47,92,60,62,61,126,44,37,38,63,64] c)=isO c.toNat:=by
  have:=key0 c.toNat c.toNat_lt
  rwa [UInt8.ofNat_toNat] at this
 clear key0
 go_enter Tryz.func52,Tryz.ntmps52
 go_wp2_with (go_at_call 71; refine (Tryz.strings_IndexByte _ _ _).mono ?_; rintro e w' ⟨rfl,rfl⟩)
 go_ret
 exact ⟨congrArg (fun b=>Ending.returned (Value.bool b)) rfl,rfl⟩
theorem opLength_ok (s:ByteArray) (w:World) (hs:s.size≤140737488355328):Calls Tryz.prog 76 #[.string s] w fun e w'=>e=.returned (.int .i64 (zE (lst s)))∧w'=w:=by
 by_cases h0:s.size=0
 ·have hE:s.toList.isEmpty=true:=jE h0
  have e:zE (lst s)=0:=by
   have:lst s=[]:=List.length_eq_zero_iff.1 (by rw [qo]; exact h0)
   rw [this]; rfl
  go_enter Tryz.func76,Tryz.ntmps76
  go_wp2_with (go_at_call 52; refine (isOb_ok _ _).mono ?_; rintro e w' ⟨rfl,rfl⟩)
  go_ret
  exact ⟨by rw [e]; rfl,rfl⟩
 ·have hE:s.toList.isEmpty=false:=ja h0
  have hp:0 < s.size:=by omega
  have b0:hd (lst s)=(s[0]'hp).toNat:=get_lst s 0 hp
  by_cases cO:isO (s[0]'hp).toNat=true
  ·by_cases h1:s.size=1
   ·have e:zE (lst s)=1:=by
     unfold zE;rw [b0,if_pos cO,hd_drop_end (by rw [qo]; omega),if_neg (by rintro ⟨h,_⟩; exact absurd h (by decide))]
    go_enter Tryz.func76,Tryz.ntmps76
    go_wp2_with (go_at_call 52; refine (isOb_ok _ _).mono ?_; rintro e w' ⟨rfl,rfl⟩)
    go_ret
    exact ⟨by rw [e]; rfl,rfl⟩
   ·have hp1:1 < s.size:=by omega
    have b1:hd ((lst s).drop 1)=(s[1]'hp1).toNat:=get_lst s 1 hp1
    by_cases cP:isO (s[1]'hp1).toNat=true
    ·have e1:Hid ((s[0]'hp).toNat=45→zE (lst s)=1):=qd fun c2=>by
      unfold zE;rw [b0,if_pos cO,if_neg (by rintro ⟨_,h,_⟩; exact h c2)]
     have e2:Hid ((s[1]'hp1).toNat=45→zE (lst s)=1):=qd fun c3=>by
      unfold zE;rw [b0,if_pos cO,if_neg (by rintro ⟨_,_,h⟩; exact h (b1.trans c3))]
     have e3:Hid ((s[0]'hp).toNat≠45→(s[1]'hp1).toNat≠45→zE (lst s)=2):=qd fun c2 c3=>by
      unfold zE;rw [b0,if_pos cO,b1,if_pos ⟨cP,c2,c3⟩]
     go_enter Tryz.func76,Tryz.ntmps76
     go_wp2_with (go_at_call 52; refine (isOb_ok _ _).mono ?_; rintro e w' ⟨rfl,rfl⟩)
     all_goals (go_ret; refine ⟨?_,rfl⟩)
     all_goals try simp only [beq_iff_eq,Bool.or_eq_true,Bool.or_eq_false_iff,beq_eq_false_iff_ne,not_or,ne_eq] at *
     all_goals first
      | (rw [e1.out (by omega)]; rfl)
      | (rw [e2.out (by omega)]; rfl)
      | (rw [e3.out (by omega) (by omega)]; rfl)
    ·have cP':isO (s[1]'hp1).toNat=false:=by simpa using cP
     have e:zE (lst s)=1:=by
      unfold zE;rw [b0,if_pos cO,b1,if_neg (by rintro ⟨h,_⟩; exact cP h)]
     clear cP
     go_enter Tryz.func76,Tryz.ntmps76
     go_wp2_with (go_at_call 52; refine (isOb_ok _ _).mono ?_; rintro e w' ⟨rfl,rfl⟩)
     all_goals (go_ret; exact ⟨by rw [e]; rfl,rfl⟩)
  ·have cO':isO (s[0]'hp).toNat=false:=by simpa using cO
   have e:zE (lst s)=0:=by
    unfold zE;rw [b0,if_neg cO]
   clear cO
   go_enter Tryz.func76,Tryz.ntmps76
   go_wp2_with (go_at_call 52; refine (isOb_ok _ _).mono ?_; rintro e w' ⟨rfl,rfl⟩)
   all_goals (go_ret; exact ⟨by rw [e]; rfl,rfl⟩)
theorem lst_from (s:ByteArray) (k:Nat):lst (s.extract k s.size)=(lst s).drop k:=Lib.extract_to_end s k
theorem size_from (s:ByteArray) (k:Nat):(s.extract k s.size).size=s.size - k:=by
 rw [← qo,lst_from,List.length_drop,qo]
theorem pre1 (l:Bs) (c:UInt8):Lib.hasPrefix l [c]=decide (hd l=c.toNat):=by
 cases l with
 | nil=>rw [decide_eq_false (fun h=>by have:=c.toNat_lt; rw [show hd []=256 from rfl] at h; omega)]; rfl
 | cons d r =>
  have e:hd (d :: r)=d.toNat:=rfl;rw [e];simp [Lib.hasPrefix,List.isPrefixOf];rw [Bool.eq_iff_iff];simp;rw [eq_comm,UInt8.toNat_inj]
theorem pre2 (l:Bs) (c d:UInt8):Lib.hasPrefix l [c,d]=decide (hd l=c.toNat∧hd (l.drop 1)=d.toNat):=by
 cases l with
 | nil=>rw [decide_eq_false (fun h=>by have:=c.toNat_lt; have h:=h.1; rw [show hd []=256 from rfl] at h; omega)]; rfl
 | cons x r =>
  have h:=pre1 r d;have e:hd (x :: r)=x.toNat:=rfl;have e2:(x :: r).drop 1=r:=rfl;rw [e,e2];unfold Lib.hasPrefix at h ⊢;rw [List.isPrefixOf_cons_cons,h,Bool.eq_iff_iff];simp;intro _;rw [eq_comm,UInt8.toNat_inj]
theorem prefix_b (s p:ByteArray) (b:Bool) (h:Lib.hasPrefix s.data.toList p.data.toList=b) (w:World):Calls Tryz.prog 78 #[.string s,.string p] w fun e w'=>e=.returned (.bool b)∧w'=w:=by
 subst h; exact Tryz.strings_HasPrefix s p w
theorem kwLength_ok (s:ByteArray) (w:World) (hs:s.size≤140737488355328):Calls Tryz.prog 73 #[.string s] w fun e w'=>e=.returned (.int .i64 (qT (lst s)))∧Bl w w':=by
 have hn:=jL s w hs
 have hle:=jP (lst s)
 rw [qo] at hle
 have e0:Hid (qw (lst s)=0→qT (lst s)=0):=qd fun h=>by unfold qT; rw [if_neg (by rintro ⟨h1,_⟩; exact h1 h)]
 have p1:=pre1 ((lst s).drop (qw (lst s))) 58
 have p2:=pre2 ((lst s).drop (qw (lst s))) 58 61
 have e1:Hid (hd ((lst s).drop (qw (lst s)))≠58→qT (lst s)=0):=qd fun h=>by
  unfold qT; rw [if_neg]; rintro ⟨_,h2⟩; unfold zL at h2; exact h (of_decide_eq_true h2).1
 have e2:Hid (hd (((lst s).drop (qw (lst s))).drop 1)=61→qT (lst s)=0):=qd fun h=>by
  unfold qT; rw [if_neg]; rintro ⟨_,h2⟩; unfold zL at h2; exact (of_decide_eq_true h2).2 h
 have e3:Hid (qw (lst s)≠0→hd ((lst s).drop (qw (lst s)))=58→hd (((lst s).drop (qw (lst s))).drop 1)≠61→qT (lst s)=qw (lst s)+1):=qd fun h1 h2 h3=>by
  unfold qT; rw [if_pos ⟨h1,by unfold zL; exact decide_eq_true ⟨h2,h3⟩⟩]
 rw [← lst_from] at p1 p2 e1 e2 e3
 generalize qw (lst s)=k at *
 unfold lst at p1 p2
 have kz:(k:Int)≤s.size:=by omega
 have hf:∀ {n:Nat},qT (lst s)=n→∀ {v:Value},v=.int .i64 n→Ending.returned v=Ending.returned (.int .i64 (qT (lst s))):=by rintro n h v rfl; rw [h]
 by_cases k0:k=0
 ·have e:=e0.out k0
  subst k0
  go_enter Tryz.func73,Tryz.ntmps73
  go_wp2_with (go_at_call 72; refine hn.mono ?_; rintro e w1 ⟨rfl,b1⟩)
  go_ret
  exact ⟨hf e rfl,b1⟩
 ·by_cases c1:hd (lst (s.extract k s.size))=58
  ·have q1:Lib.hasPrefix (s.extract k s.size).data.toList [58]=true:=by rw [p1]; exact decide_eq_true c1
   by_cases c2:hd ((lst (s.extract k s.size)).drop 1)=61
   ·have q2:Lib.hasPrefix (s.extract k s.size).data.toList [58,61]=true:=by rw [p2]; exact decide_eq_true ⟨c1,c2⟩
    have e:=e2.out c2;clear p1 p2 c1 c2
    go_enter Tryz.func73,Tryz.ntmps73
    go_wp2_with (first | (go_at_call 72; refine hn.mono ?_; rintro e w1 ⟨rfl,b1⟩) | (go_at_call 78; refine (prefix_b _ ⟨#[58]⟩ _ q1 _).mono ?_; rintro e w' ⟨rfl,rfl⟩) | (go_at_call 78; refine (prefix_b _ ⟨#[58,61]⟩ _ q2 _).mono ?_; rintro e w' ⟨rfl,rfl⟩))
    go_ret
    exact ⟨hf e rfl,b1⟩
   ·have q2:Lib.hasPrefix (s.extract k s.size).data.toList [58,61]=false:=by rw [p2]; exact decide_eq_false (fun h=>c2 h.2)
    have e:=e3.out k0 c1 c2;clear p1 p2 c1 c2
    go_enter Tryz.func73,Tryz.ntmps73
    go_wp2_with (first | (go_at_call 72; refine hn.mono ?_; rintro e w1 ⟨rfl,b1⟩) | (go_at_call 78; refine (prefix_b _ ⟨#[58]⟩ _ q1 _).mono ?_; rintro e w' ⟨rfl,rfl⟩) | (go_at_call 78; refine (prefix_b _ ⟨#[58,61]⟩ _ q2 _).mono ?_; rintro e w' ⟨rfl,rfl⟩))
    go_ret
    exact ⟨hf e rfl,b1⟩
  ·have q1:Lib.hasPrefix (s.extract k s.size).data.toList [58]=false:=by rw [p1]; exact decide_eq_false c1
   have e:=e1.out c1;clear p1 p2 c1
   go_enter Tryz.func73,Tryz.ntmps73
   go_wp2_with (first | (go_at_call 72; refine hn.mono ?_; rintro e w1 ⟨rfl,b1⟩) | (go_at_call 78; refine (prefix_b _ ⟨#[58]⟩ _ q1 _).mono ?_; rintro e w' ⟨rfl,rfl⟩) | (go_at_call 78; refine (prefix_b _ ⟨#[58,61]⟩ _ q2 _).mono ?_; rintro e w' ⟨rfl,rfl⟩))
   go_ret
   exact ⟨hf e rfl,b1⟩
def strN:Value→Nat | .string s=>s.size | _=>0
theorem kwsF_any {l:Bs} {f g:Nat} (hf:l.length≤f) (hg:l.length≤g):kwsF f l=kwsF g l:=by
 have:=kwsF_ext (R:=[]) (Or.inl rfl) f g l [] hf hg (fun _=>by simp [hd]) (by rw [List.append_nil]; exact kwsF_le _ _)
 rwa [List.append_nil] at this
theorem kwsLen_step (l:Bs):jv l=if qT l=0 then 0 else qT l+jv (l.drop (qT l)):=by
 unfold jv
 cases h:l.length with
 | zero =>
  have:l=[]:=List.length_eq_zero_iff.1 h;subst this;rfl
 | succ n =>
  show (if qT l=0 then 0 else qT l+kwsF n (l.drop (qT l)))=_
  by_cases hk:qT l=0
  ·rw [if_pos hk,if_pos hk]
  ·rw [if_neg hk,if_neg hk,kwsF_any (l:=l.drop (qT l)) (by simp; omega) (Nat.le_refl _)]
theorem digLength_ok (s:ByteArray) (w:World) (hs:s.size≤140737488355328) :
  Calls Tryz.prog 74 #[.string s] w fun e w'=>e=.returned (.int .i64 (zT (lst s)))∧Bl w w':=by
 go_enter Tryz.func74,Tryz.ntmps74
 go_wp2
 go_loopw [] (fun wr=>∃ pos:Nat,wr.heap[w.heap.size]?=some (.stringIter s pos)∧Below w.heap.size w wr∧pos≤s.size∧∀ j,j < pos→isD (hd ((lst s).drop j))=true) (fun wr=>s.size - wr.iterPos w.heap.size)
 case atStart =>
  refine ⟨0,?_,(Below.refl _ w).alloc (Nat.le_refl _) _,Nat.zero_le _,fun j h=>by omega⟩
  have:=World.iter_heap w s 0
  simpa using this
 case round =>
  obtain ⟨pos,hit,hb,hps,h1⟩:=hrel;have hfin:(∀ h:pos < s.size,isD (hd ((lst s).drop pos))=false)→zT (lst s)=pos:=fun h=>by
   unfold zT;refine tw_eq dN (lst s) pos (by rw [qo]; omega) (fun j hj hjk=>?_) (fun h'=>?_)
   ·unfold dN; rw [hd_at hj]; exact h1 j hjk
   ·unfold dN; rw [hd_at h']; exact h (by rw [qo] at h'; exact h')
  by_cases hp:pos < s.size
  ·have hnx:∀ ty,(Instr.next (.pointer (some ⟨w.heap.size,0,none⟩)) true ty).run Tryz.prog wr=_:=fun ty=>Lib.run_next_any_at wr w.heap.size s pos ty hit hp
   have hit2:=Lib.iterAt_heap wr w.heap.size s pos (pos+(Utf8.decode s pos).2) hit;have hbw2:=Lib.below_iterAt hb (k:=w.heap.size) (Nat.le_refl _) s (pos+(Utf8.decode s pos).2);obtain ⟨r,hr,hw1,hr2,hcase⟩:=rune_at s pos hp;generalize hW:wr.iterAt w.heap.size s (pos+(Utf8.decode s pos).2)=W at *;rw [hr] at hnx;simp only at hnx;clear hr hW;have hDr:isD (hd ((lst s).drop pos))=isD r:=by
    rcases hcase with h | h
    ·rw [h.2.1]
    ·have:∀ n,128≤n→isD n=false:=fun n hn=>by rw [Bool.eq_false_iff]; intro hc; rw [isD_iff] at hc; omega
     rw [this _ h.1,this _ h.2]
   have hgo:isD r=true→(Utf8.decode s pos).2=1:=fun h=>by
    rcases hcase with h2 | h2
    ·exact h2.2.2
    ·exfalso; rw [isD_iff] at h; omega
   clear hcase
   by_cases cD:isD r=true
   ·have hw:=hgo cD
    go_wp2_with (go_at_call 51; refine (jg r _).mono ?_; rintro e w' ⟨rfl,rfl⟩)
    go_roundw
    case rel =>
     refine ⟨pos+1,by rw [hit2,hw],hbw2,by omega,fun j hj=>?_⟩
     by_cases hj2:j < pos
     ·exact h1 j hj2
     ·have:j=pos:=by omega
      subst this;rw [hDr]; exact cD
    case measure =>
     simp only [World.iterPos,hit2,hit]
     omega
   ·have cD':isD r=false:=by simpa using cD
    have hf:=hfin (fun _=>by rw [hDr]; exact cD')
    clear cD
    go_wp2_with (go_at_call 51; refine (jg r _).mono ?_; rintro e w' ⟨rfl,rfl⟩)
    go_ret
    exact ⟨by rw [hf]; rfl,hbw2⟩
  ·have hnx:∀ ty,(Instr.next (.pointer (some ⟨w.heap.size,0,none⟩)) true ty).run Tryz.prog wr=_:=fun ty=>Lib.run_next_end_at wr w.heap.size s pos ty hit hp
   have hf:=hfin (fun h=>absurd h hp)
   go_wp2
   go_wp2
   go_ret
   refine ⟨?_,hb⟩;rw [hf];have:pos=s.size:=by omega
   rw [this];rfl
theorem symLength_ok (s:ByteArray) (w:World) (hs:s.size≤140737488355328) :
  Calls Tryz.prog 75 #[.string s] w fun e w'=>e=.returned (.int .i64 (zr (lst s)))∧Bl w w':=by
 have hk0:=kwLength_ok s w hs
 go_enter Tryz.func75,Tryz.ntmps75
 go_wp2_with (go_at_call 73; refine hk0.mono ?_; rintro e w1 ⟨rfl,b1⟩)
 go_loopw [3,4] (fun a c wr=>∃ n:Nat,n≤s.size∧a=.int .i64 n∧c=.int .i64 (qT ((lst s).drop n))∧jv (lst s)=n+jv ((lst s).drop n)∧Hid (Bl w wr)) (fun a _ _=>s.size - (intOf a).toNat)
 case atStart=>exact ⟨0,Nat.zero_le _,rfl,rfl,by simp,b1⟩
 case round =>
  obtain ⟨n,hn,rfl,rfl,hkw,hB⟩:=hrel;have hst:=kwsLen_step ((lst s).drop n);have hle:=kwLen_le ((lst s).drop n);rw [List.length_drop,qo] at hle;rw [List.drop_drop] at hst
  by_cases hz:qT ((lst s).drop n)=0
  ·rw [if_pos hz] at hst
   have e:jv (lst s)=n:=by omega
   rw [hz]
   by_cases n0:n=0
   ·have es:zr (lst s)=max (qw (lst s)) (zE (lst s)):=by unfold zr; rw [if_pos (by omega)]
    have hnm:=jL s wr hs;have hl1:=jP (lst s);have hl2:=opLen_le (lst s);rw [qo] at hl1 hl2;subst n0;clear hkw hst hz hle e
    go_wp2_with (go_at_call 72; fail)
    go_wp2_with (first | (go_at_call 72; refine hnm.mono ?_; rintro e w2 ⟨rfl,b2⟩) | (go_at_call 76; refine (opLength_ok s _ hs).mono ?_; rintro e w3 ⟨rfl,rfl⟩))
    go_ret
    refine ⟨?_,hB.out.trans b2⟩;rw [es];exact congrArg (fun n=>Ending.returned (Value.int .i64 n)) (by omega)
   ·have es:zr (lst s)=n:=by unfold zr; rw [if_neg (by omega),e]
    clear hkw hst hz hle e
    go_wp2
    go_wp2
    go_ret
    exact ⟨by rw [es]; rfl,hB.out⟩
  ·rw [if_neg hz] at hst
   have hk:=kwLength_ok (s.extract (n+qT ((lst s).drop n)) s.size) wr (by rw [size_from]; omega)
   rw [lst_from] at hk;have hm:n+qT ((lst s).drop n)≤s.size:=by omega
   have hm0:0 < qT ((lst s).drop n):=by omega
   have hK:Hid (jv (lst s)=(n+qT ((lst s).drop n))+jv ((lst s).drop (n+qT ((lst s).drop n)))):=by unfold Hid; omega
   clear hst hkw hz hle;generalize qT ((lst s).drop n)=d at *;have hi:(n:Int)+d≤s.size:=by omega
   go_wp2_with (go_at_call 73; refine hk.mono ?_; rintro e w2 ⟨rfl,b2⟩)
   go_roundw
   case rel=>exact ⟨n+d,hm,by simp,rfl,hK.out,hB.out.trans b2⟩
   case measure=>simp [intOf]; omega
end Go.Proofs.YtfhkhmgodkheaaaGreatDoor
