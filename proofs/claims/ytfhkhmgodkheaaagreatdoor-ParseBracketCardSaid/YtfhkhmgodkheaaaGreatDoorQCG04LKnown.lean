import Derived.Test.YtfhkhmgodkheaaaGreatDoorQCG03LOpen
import Derived.Laws.Tables
import Derived.Maps.OwnOps
import Derived.Maps.OwnSet
import Derived.Maps.Views
import Derived.Maps.AppendAt
import Derived.Deep.AppendLies
import Derived.Deep.RegionHeld3
import Derived.Deep.RegionHeldLaw
import Derived.Deep.DeepCutAuto
import Derived.BigQuiet
import Derived.Test.YtfhkhmgodkheaaaGreatDoorQCG02LRes
set_option linter.unusedSimpArgs false
set_option linter.unusedVariables false
set_option maxRecDepth 1000000
set_option maxHeartbeats 16000000
namespace Go.Proofs.YtfhkhmgodkheaaaGreatDoor
open Go.RowKit Go.Maps
def tc (x:Tok × Nat):List Value:=[.int .i64 x.1.kind,.string (ba x.1.text),.int .i64 x.1.num,.int .i64 x.2]
def tcs (ts:List (Tok × Nat)):List Value:=ts.flatMap tc
theorem tcs_app (ts us:List (Tok × Nat)):tcs (ts++us)=tcs ts++tcs us:=by simp [tcs]
def zx:Tok:=⟨18,[],0⟩
def LexR (l:Bs) (ts:List (Tok × Nat)) (c a:Nat):Prop :=
 (4096 < l.length∧ts=[]∧c=73∧a=4096)∨(l.length≤4096∧∃ us er,Lx 0 l us er∧((er=none∧ts=us++[(zx,l.length)]∧c=0∧a=0)∨(∃ p,er=some p∧ts=[]∧c=70∧a=p)))
theorem LexR.unique {l:Bs} {ts ts':List (Tok × Nat)} {c a c' a':Nat} (h:LexR l ts c a) (h':LexR l ts' c' a'):ts'=ts∧c'=c∧a'=a:=by
 rcases h with ⟨h1,rfl,rfl,rfl⟩ | ⟨h1,us,er,hx,hr⟩
 ·rcases h' with ⟨_,rfl,rfl,rfl⟩ | ⟨h2,_⟩
  ·exact ⟨rfl,rfl,rfl⟩
  ·omega
 ·rcases h' with ⟨h2,_⟩ | ⟨h2,us',er',hx',hr'⟩
  ·omega
  ·obtain ⟨rfl,rfl⟩:=hx.unique hx'
   rcases hr with ⟨rfl,rfl,rfl,rfl⟩ | ⟨p,rfl,rfl,rfl,rfl⟩
   ·rcases hr' with ⟨_,rfl,rfl,rfl⟩ | ⟨p,h,_⟩
    ·exact ⟨rfl,rfl,rfl⟩
    ·cases h
   ·rcases hr' with ⟨h,_⟩ | ⟨p',h,rfl,rfl,rfl⟩
    ·cases h
    ·cases h; exact ⟨rfl,rfl,rfl⟩
structure TL (w:World) (s:ByteArray) (acc:List (Tok × Nat)) (at':Nat) (v:Value) (W:World):Prop where
 res:W.heap[w.heap.size]?=some (.cells #[.int .i64 0,.int .i64 0] 30 (0,0))
 tab:W.heap[w.heap.size+2]?=some (.cells openA 68 (0,0))
 own:W.ownsRow (w.heap.size+3) 54 4 v acc.length (tcs acc)
 bl:Bl w W
 lx:∀ ts e,Lx at' ((lst s).drop at') ts e→Lx 0 (lst s) (acc++ts) e
 le:at'≤s.size
 al:acc.length≤at'
theorem cutQ_none {l:Bs} (h:(zG l).2.2.2=0):cut l=none:=by
 unfold zG at h
 split at h
 ·assumption
 ·rename_i n hc; have:=(cut_n hc).1; simp at h; omega
 ·rename_i t n hc; have:=(cut_n hc).1; simp at h; omega
theorem cutQ_some {l:Bs} (h:(zG l).2.2.2≠0):(∃ n,cut l=some (none,n)∧zG l=(0,[],0,n))∨∃ t n,cut l=some (some t,n)∧zG l=(t.kind,t.text,t.num,n):=by
 unfold zG at *
 split at h
 ·exact absurd rfl h
 ·rename_i n hc; left; exact ⟨n,hc,rfl⟩
 ·rename_i t n hc; right; exact ⟨t,n,hc,rfl⟩
theorem cut_passed {l:Bs} {x:Option Tok} {n:Nat} (h:cut l=some (x,n)):(isB (hd l)=true∨hd l=34) ↔ x=none:=by
 unfold cut at h
 split at h
 ·cases h
 ·rename_i c r
  show isB c.toNat=true∨c.toNat=34 ↔ _
  split at h
  ·rename_i hb; simp at h; simp [← h.1,hb]
  rename_i hb
  split at h
  ·rename_i hq
   obtain ⟨y,hy,e⟩:=Option.map_eq_some_iff.1 h;simp at e;simp [← e.1,hq]
  rename_i hq
  have hno:¬ (isB c.toNat=true∨c.toNat=34):=by rintro (h1 | h1); exact hb h1; exact hq h1
  have:x≠none:=by
   rintro rfl
   repeat' split at h
   all_goals (simp [mk] at h; done)
  exact ⟨fun h=>absurd h hno,fun h=>absurd h this⟩
theorem txt_len:∀ (k:Nat) (l:Bs) (x:Bs × Nat),l.length≤k→txt l=some x→x.1.length≤l.length:=by
 intro k
 induction k with
 | zero=>intro l x hk h; have:l=[]:=List.length_eq_zero_iff.1 (by omega); subst this; simp [txt] at h
 | succ k ih =>
  intro l x hk h
  cases l with
  | nil=>simp [txt] at h
  | cons c l =>
   by_cases hc:c.toNat=39
   ·cases l with
    | nil=>rw [txt_end hc (by simp [hd])] at h; cases h; simp
    | cons d r =>
     by_cases hd':d.toNat=39
     ·rw [txt_two c d r hc hd'] at h
      obtain ⟨y,hy,rfl⟩:=Option.map_eq_some_iff.1 h;have:=ih r y (by simp at hk; omega) hy
      simp; omega
     ·rw [txt_end hc (by exact hd')] at h; cases h; simp
   ·rw [txt_one hc] at h
    obtain ⟨y,hy,rfl⟩:=Option.map_eq_some_iff.1 h;have:=ih l y (by simp at hk; omega) hy
    simp; omega
theorem cutQ_bound (l:Bs):(zG l).2.1.length≤l.length∧(zG l).2.2.2≤l.length:=by
 unfold zG
 split
 ·simp
 ·rename_i n hc; have:=(cut_n hc).2; simp; omega
 ·rename_i t n hc
  refine ⟨?_,(cut_n hc).2⟩
  show t.text.length≤l.length
  unfold cut at hc
  split at hc
  ·cases hc
  ·rename_i c r
   repeat' split at hc
   all_goals first
    | (simp [mk] at hc; done)
    | (simp only [mk,Option.some.injEq,Prod.mk.injEq] at hc; obtain ⟨rfl,_⟩:=hc; simp [List.length_take]; omega)
    | (simp only [mk,Option.some.injEq,Prod.mk.injEq] at hc; obtain ⟨rfl,_⟩:=hc; simp)
    | (obtain ⟨y,hy,e⟩:=Option.map_eq_some_iff.1 hc; simp at e; done)
    | (obtain ⟨y,hy,e⟩:=Option.map_eq_some_iff.1 hc; simp only [Prod.mk.injEq,Option.some.injEq] at e; obtain ⟨rfl,_⟩:=e; have:=txt_len _ _ _ (Nat.le_refl _) hy; simp; omega)
theorem resD {X W:World} (h:Bl ((X.alloc (.cells #[.int .i64 0,.string ⟨#[]⟩,.int .i64 0,.int .i64 0] 54)).drew) W):W.heap[X.heap.size]?=some z4:=by
 have:=h.block X.heap.size (by show X.heap.size < (X.heap.push _).size; simp)
 rw [this]
 exact heap_alloc_new X _
theorem info30:(Tryz.prog.info? 54).map (fun i=>(i.zero,i.size,i.bytes))=some (some (.agg #[.int .i64 0,.string ⟨#[]⟩,.int .i64 0,.int .i64 0]),4,40):=by kernel_rfl
theorem heap3 (w:World) (A B C:Obj):(((w.alloc A).alloc B).alloc C).heap[w.heap.size+1+1]?=some C:=by
 have h:=heap_alloc_new ((w.alloc A).alloc B) C
 have e:((w.alloc A).alloc B).heap.size=w.heap.size+1+1:=by
  show ((w.heap.push A).push B).size=_
  simp
 rw [e] at h
 exact h
theorem TL.keep {w W V:World} {s:ByteArray} {acc:List (Tok × Nat)} {a:Nat} {v:Value} (h:TL w s acc a v W) (b:Bl W V):TL w s acc a v V where
 res:=(b.block _ (qf h.res)).trans h.res
 tab:=(b.block _ (qf h.tab)).trans h.tab
 own:=by
  refine ⟨h.own.1,?_⟩
  rcases h.own.2 with h2 | ⟨g,cap,cur,h1,h2,h3,h4⟩
  ·exact Or.inl h2
  ·exact Or.inr ⟨g,cap,cur,h1,h2,(b.block _ (qf h3)).trans h3,h4⟩
 bl:=h.bl.trans b
 lx:=h.lx
 le:=h.le
 al:=h.al
theorem Clone_ok (s:ByteArray) (w:World) (h:s.size≤140737488355328):Calls Tryz.prog 31 #[.string s] w fun e w'=>e=.returned (.string s)∧Bl w w':=by
 go_enter Tryz.func31,Tryz.ntmps31
 go_wp2_with (go_at_call 53; refine (Tryz.stringslite_Clone s _ (by omega)).mono ?_; rintro e w1 ⟨rfl,b1⟩)
 go_ret
 exact ⟨rfl,b1⟩
theorem resD2 {X W:World} {o:Obj} (h:Bl (((X.alloc o).alloc (.cells #[.int .i64 0,.string ⟨#[]⟩,.int .i64 0,.int .i64 0] 54)).drew) W):W.heap[X.heap.size+1]?=some z4:=by
 have:=resD h
 rwa [show (X.alloc o).heap.size=X.heap.size+1 from by show (X.heap.push o).size=_; simp] at this
theorem own_block {w:World} {base:Nat} {v:Value} {n:Nat} {xs:List Value} (h:w.ownsRow base 54 4 v n xs) {g:Nat} (hg:v.ownBlock=some g):base≤g∧g < w.heap.size:=by
 rcases h.2 with ⟨rfl,_⟩ | ⟨g',cap,cur,rfl,h1,h2,_⟩
 ·cases hg
 ·have e:g'=g:=by simpa [Value.ownBlock] using hg
  subst e;exact ⟨h1,qf h2⟩
theorem TL.append {w X w5:World} {s:ByteArray} {acc:List (Tok × Nat)} {a a':Nat} {v v':Value} {x:Tok × Nat} (h:TL w s acc a v X) (hg:X.grownBy w5 v.ownBlock)
  (ho:w5.ownsRow (w.heap.size+3) 54 4 v' (acc.length+1) (tcs acc++tc x)) (hlx:∀ ts e,Lx a' ((lst s).drop a') ts e→Lx 0 (lst s) ((acc++[x])++ts) e) (hle:a'≤s.size) (hal:a < a'):TL w s (acc++[x]) a' v' w5 where
 res:=(hg.block _ (qf h.res) (fun e=>by have:=(own_block h.own e.symm).1; omega)).trans h.res
 tab:=(hg.block _ (qf h.tab) (fun e=>by have:=(own_block h.own e.symm).1; omega)).trans h.tab
 own:=by
  rw [tcs_app];have e:tcs [x]=tc x:=by simp [tcs]
  rw [e,List.length_append];exact ho
 bl:=⟨hg.os.trans h.bl.os,hg.tape.trans h.bl.tape,hg.output.trans h.bl.output,Nat.le_trans h.bl.size hg.size,fun k hk=>by
  rw [hg.block k (Nat.lt_of_lt_of_le hk h.bl.size) (fun e=>by have:=(own_block h.own e.symm).1; omega)]
  exact h.bl.block k hk⟩
 lx:=hlx
 le:=hle
 al:=by have:=h.al; simp; omega
structure TE (w:World) (acc:List (Tok × Nat)) (v:Value) (W:World):Prop where
 res:W.heap[w.heap.size]?=some (.cells #[.int .i64 0,.int .i64 0] 30 (0,0))
 own:W.ownsRow (w.heap.size+3) 54 4 v acc.length (tcs acc)
 bl:Bl w W
theorem TE.append {w X w5:World} {s:ByteArray} {acc:List (Tok × Nat)} {a:Nat} {v v':Value} {x:Tok × Nat} (h:TL w s acc a v X) (hg:X.grownBy w5 v.ownBlock)
  (ho:w5.ownsRow (w.heap.size+3) 54 4 v' (acc.length+1) (tcs acc++tc x)):TE w (acc++[x]) v' w5 where
 res:=(hg.block _ (qf h.res) (fun e=>by have:=(own_block h.own e.symm).1; omega)).trans h.res
 own:=by
  rw [tcs_app];have e:tcs [x]=tc x:=by simp [tcs]
  rw [e,List.length_append];exact ho
 bl:=⟨hg.os.trans h.bl.os,hg.tape.trans h.bl.tape,hg.output.trans h.bl.output,Nat.le_trans h.bl.size hg.size,fun k hk=>by
  rw [hg.block k (Nat.lt_of_lt_of_le hk h.bl.size) (fun e=>by have:=(own_block h.own e.symm).1; omega)]
  exact h.bl.block k hk⟩
theorem TL.next {w W V:World} {s:ByteArray} {acc:List (Tok × Nat)} {a a':Nat} {v:Value} (h:TL w s acc a v W) (b:Bl W V) (hlx:∀ ts e,Lx a' ((lst s).drop a') ts e→Lx 0 (lst s) (acc++ts) e) (hle:a'≤s.size) (hal:a≤a'):TL w s acc a' v V :=
 {h.keep b with lx:=hlx,le:=hle,al:=by have:=h.al; omega }
theorem TL.start (w:World) (s:ByteArray) (A B:Obj) (hA:A=.cells #[.int .i64 0,.int .i64 0] 30 (0,0)) (C:Array Value):TL w s [] 0 (.slice none 0 0) ((((w.alloc A).alloc B).alloc (.cells C 68)).setRow (w.heap.size+1+1) openA) where
 res:=by
  rw [setRow_other _ _ _ _ (by omega),Below.heap_alloc _ _ _ (by show w.heap.size < ((w.heap.push A).push B).size; simp; omega),Below.heap_alloc _ _ _ (by show w.heap.size < (w.heap.push A).size; simp),heap_alloc_new,hA]
 tab:=setRow_heap _ _ C _ 68 (0,0) (heap3 w A B _)
 own:=⟨rfl,Or.inl ⟨rfl,rfl⟩⟩
 bl:=Below.trans ((Bl.alloc2 w A B).trans (Bl.alloc _ _)) ⟨rfl,rfl,rfl,by simp,fun k hk=>setRow_other _ _ _ _ (by omega)⟩
 lx:=fun ts e h=>by simpa using h
 le:=Nat.zero_le _
 al:=Nat.le_refl _
theorem size_set (w:World) (a:Addr) (v:Value):(w.setCell a v).heap.size=w.heap.size:=by simp
theorem ownR_congr {w w':World} {base b2:Nat} {v:Value} {n:Nat} {xs:List Value} (h:w.ownsRow base 54 4 v n xs) (hb:∀ g,v.ownBlock=some g→w'.heap[g]?=w.heap[g]?) (hle:b2≤base):w'.ownsRow b2 54 4 v n xs:=by
 refine ⟨h.1,?_⟩
 rcases h.2 with h2 | ⟨g,cap,cur,rfl,h1,h2,h3⟩
 ·exact Or.inl h2
 ·exact Or.inr ⟨g,cap,cur,rfl,by omega,(hb g rfl).trans h2,h3⟩
theorem ret26 {w V:World} {tm:Array Value} {ts:List (Tok × Nat)} {l:Bs} {v:Value} {c a:Nat} (hr:V.heap[w.heap.size]?=some (.cells #[.int .i64 c,.int .i64 a] 30 (0,0)))
  (h2:tm.getD 2 undef=v) (h3:tm.getD 3 undef=.pointer (some ⟨w.heap.size,0,none⟩)) (hl:LexR l ts c a) (ho:V.ownsRow w.heap.size 54 4 v ts.length (tcs ts)) (hb:Bl w V) :
  bodyPost Tryz.prog Tryz.f19 (fun e w'=>∃ v ts c a,e=.returned (.tuple #[v,.agg #[.int .i64 (c:Nat),.int .i64 (a:Nat)]])∧LexR l ts c a∧w'.ownsRow w.heap.size 54 4 v ts.length (tcs ts)∧Bl w w') .ret ⟨tm,[]⟩ V:=by
 have x0:V.cell? ⟨w.heap.size,0,none⟩=some (.int .i64 c):=by rw [qh hr]; rfl
 have x1:V.cell? ⟨w.heap.size,1,none⟩=some (.int .i64 a):=by rw [qh hr]; rfl
 have h2':tm[2]?.getD undef=v:=by simpa using h2
 have h3':tm[3]?.getD undef=.pointer (some ⟨w.heap.size,0,none⟩):=by simpa using h3
 refine bodyPost_ret (v:=.tuple #[v,.agg #[.int .i64 (c:Nat),.int .i64 (a:Nat)]]) (by simp [results,Tryz.results19,go_sem,h2,h3,h2',h3',x0,x1]) rfl ⟨v,ts,c,a,rfl,hl,ho,hb⟩
def openT (x:Q4):Value:=.tuple #[.agg #[.int .i64 x.1,.string (ba x.2.1),.int .i64 x.2.2.1,.int .i64 0],.int .i64 x.2.2.2]
structure Pick (l:Bs) (K F:Nat) (P:Bool):Prop where
 kind:jb (hd l)=K
 lt:K < 9
 fn:openA[2 * K]?=some (.func (.func F) #[] #[])
 ps:openA[2 * K+1]?=some (.bool P)
 ent:∀ args w,(callFunc F args).run Tryz.prog w=.ok (.enter F args) w
 call:∀ (s:ByteArray) V,s.size≤4096→Tab V→lst s=l→Calls Tryz.prog F #[.string s] V fun e w'=>e=.returned (openT (zG l))∧Bl V w'
 pass:P=true ↔ (isB (hd l)=true∨hd l=34)
theorem pick (l:Bs) (h:hd l < 256):∃ K F P,Pick l K F P:=by
 have hk:∀ n,n < 256→(jb n=1 ↔ isB n=true)∧(jb n=2 ↔ n=34)∧(jb n=3→isL n=true)∧(jb n=4→isD n=true)∧(jb n=5→n=35)∧(jb n=6→isO n=true)∧(jb n=7→n=39)∧jb n < 9:=by decide +kernel
 obtain ⟨k1,k2,k3,k4,k5,k6,k7,k8⟩:=hk _ h
 have np:jb (hd l)≠1→jb (hd l)≠2→(false=true ↔ (isB (hd l)=true∨hd l=34)):=fun h1 h2=>⟨fun h=>(by cases h),fun h=>by rcases h with h | h; exact absurd (k1.2 h) h1; exact absurd (k2.2 h) h2⟩
 have hcase:jb (hd l)=0∨jb (hd l)=1∨jb (hd l)=2∨jb (hd l)=3∨jb (hd l)=4∨jb (hd l)=5∨jb (hd l)=6∨jb (hd l)=7∨jb (hd l)=8:=by omega
 rcases hcase with c | c | c | c | c | c | c | c | c
 ·exact ⟨0,41,false,c,by omega,rfl,rfl,enters_of Tryz.func41 (by kernel_rfl) rfl,fun s V hs hT hl=>(by rw [cutQ_other c]; exact cutNothing_ok s V),np (by omega) (by omega)⟩
 ·exact ⟨1,42,true,c,by omega,rfl,rfl,enters_of Tryz.func42 (by kernel_rfl) rfl,fun s V hs hT hl=>(by rw [cutQ_blank (k1.1 c)]; exact cutBlank_ok s V),⟨fun _=>Or.inl (k1.1 c),fun _=>rfl⟩⟩
 ·exact ⟨2,43,true,c,by omega,rfl,rfl,enters_of Tryz.func43 (by kernel_rfl) rfl,fun s V hs hT hl=>(by subst hl; exact cutComment_ok s V (by omega) (k2.1 c)),⟨fun _=>Or.inr (k2.1 c),fun _=>rfl⟩⟩
 ·exact ⟨3,44,false,c,by omega,rfl,rfl,enters_of Tryz.func44 (by kernel_rfl) rfl,fun s V hs hT hl=>(by subst hl; exact cutWord_ok s V (by omega) (k3 c)),np (by omega) (by omega)⟩
 ·exact ⟨4,45,false,c,by omega,rfl,rfl,enters_of Tryz.func45 (by kernel_rfl) rfl,fun s V hs hT hl=>(by subst hl; exact cutInt_ok s V (by omega) (k4 c)),np (by omega) (by omega)⟩
 ·exact ⟨5,46,false,c,by omega,rfl,rfl,enters_of Tryz.func46 (by kernel_rfl) rfl,fun s V hs hT hl=>(by subst hl; exact cutHash_ok s V hT (by omega) (k5 c)),np (by omega) (by omega)⟩
 ·exact ⟨6,47,false,c,by omega,rfl,rfl,enters_of Tryz.func47 (by kernel_rfl) rfl,fun s V hs hT hl=>(by subst hl; exact cutBinary_ok s V (by omega) (k6 c)),np (by omega) (by omega)⟩
 ·exact ⟨7,48,false,c,by omega,rfl,rfl,enters_of Tryz.func48 (by kernel_rfl) rfl,fun s V hs hT hl=>(by subst hl; exact cutText_ok s V hT hs (k7 c)),np (by omega) (by omega)⟩
 ·refine ⟨8,49,false,c,by omega,rfl,rfl,enters_of Tryz.func49 (by kernel_rfl) rfl,fun s V hs hT hl=>?_,np (by omega) (by omega)⟩
  have e:zG l=markF marksL l:=by
   have K:∀ n,n < 256→jb n=8→n≠35∧markK n≠0:=by decide +kernel
   obtain ⟨g1,g2⟩:=K _ h c;rw [cutQ_mark c,markF_is,if_neg (show ¬ (hd l=35∧hd (l.drop 1)=40) from fun h=>g1 h.1),if_neg g2]
  rw [e];subst hl;exact cutMark_ok s V hT
theorem tokens_small (s:ByteArray) (w:World) (hT:Tab w) (hs:s.size≤4096):Calls Tryz.prog 19 #[.string s] w fun e w' =>
  ∃ v ts c a,e=.returned (.tuple #[v,.agg #[.int .i64 (c:Nat),.int .i64 (a:Nat)]])∧LexR (lst s) ts c a∧w'.ownsRow w.heap.size 54 4 v ts.length (tcs ts)∧Bl w w':=by
 have hsi:¬ (4096:Int) < s.size:=by omega
 have hop:=openings_ok
 go_enter Tryz.func19,Tryz.ntmps19
 go_wp2_with (first | (go_at_call 29; refine (hop _).mono ?_; rintro e w1 ⟨rfl,rfl⟩) | (refine wpList_store_row rfl 68 _ _ rfl _ openA rfl rfl 68 _ (heap3 _ _ _ _) (by kernel_rfl) rfl (by kernel_rfl) ?_))
 go_loopw [4,6] (fun v q wr=>∃ (acc:List (Tok × Nat)) (at':Nat),q=.int .i64 at'∧Hid (TL w s acc at' v wr)) (fun _ q _=>s.size - (intOf q).toNat)
 case atStart=>exact ⟨[],0,rfl,TL.start w s _ _ rfl _⟩
 case round =>
  obtain ⟨acc,at',rfl,hH⟩:=hrel;have hale:=hH.out.le
  by_cases hlt:at' < s.size
  ·have hli:(at':Int) < s.size:=by omega
   have hb:=get_lst s at' hlt;have tb:=hH.out.tab;have hW:Hid (∀ V,Bl wr V→Tab V):=fun V b=>hT.mono (hH.out.bl.trans b)
   have hkd:=kindOf_ok (s[at']'hlt).toNat (s[at']'hlt).toNat_lt;have hsz:=size_from s at';rw [← hb] at hkd;obtain ⟨K,F,P,hP⟩:=pick ((lst s).drop at') (by rw [hb]; exact (s[at']'hlt).toNat_lt)
   rw [hP.kind,hb] at hkd;have t0:wr.cell? ⟨w.heap.size+1+1,K * 2,none⟩=some (.func (.func F) #[] #[]):=by rw [qh tb,Nat.mul_comm]; exact hP.fn
   have t1:wr.cell? ⟨w.heap.size+1+1,K * 2+1,none⟩=some (.bool P):=by rw [qh tb,Nat.mul_comm]; exact hP.ps
   have hcall:∀ V,Bl wr V→Calls Tryz.prog F #[.string (s.extract at' s.size)] V fun e w'=>e=.returned (openT (zG ((lst s).drop at')))∧Bl V w':=fun V hV=>hP.call _ V (by omega) (hW.out V hV) (lst_from s at')
   have hent:=hP.ent;have hK9:(K:Int) < 9:=by have:=hP.lt; omega
   have ltT:=qf tb;have HP:=qd hP;have HL:=qd hH.out.lx;have HN:Hid ((zG ((lst s).drop at')).2.2.2=0→∃ ts c a,LexR (lst s) ts c a∧ts=[]∧c=70∧a=at'):=qd fun h0=>by
    have hcn:=cutQ_none h0;have hx:=hH.out.lx [] (some at') (.bad at' _ (by intro e; have:=congrArg List.length e; simp [qo] at this; omega) hcn)
    exact ⟨[],70,at',Or.inr ⟨by rw [qo]; exact hs,_,_,hx,Or.inr ⟨at',rfl,rfl,rfl,rfl⟩⟩,rfl,rfl,rfl⟩
   have HC:Hid (P=true→(zG ((lst s).drop at')).2.2.2≠0→(at'+(zG ((lst s).drop at')).2.2.2≤s.size∧∀ ts e,Lx (at'+(zG ((lst s).drop at')).2.2.2) ((lst s).drop (at'+(zG ((lst s).drop at')).2.2.2)) ts e→Lx 0 (lst s) (acc++ts) e)):=qd fun hp h0=>by
    rcases cutQ_some h0 with ⟨n,h1,h2⟩ | ⟨t,n,h1,h2⟩
    ·rw [h2]
     have hn:=cut_n h1;rw [List.length_drop,qo] at hn;exact ⟨by simp; omega,fun ts e h=>hH.out.lx _ _ (.pass _ _ n _ _ h1 (by rw [List.drop_drop]; exact h))⟩
    ·exact absurd ((cut_passed h1).1 (hP.pass.1 hp)) (by simp)
   have HD:Hid (P=false→(zG ((lst s).drop at')).2.2.2≠0→(at'+(zG ((lst s).drop at')).2.2.2≤s.size∧∃ t:Tok,zG ((lst s).drop at')=(t.kind,t.text,t.num,(zG ((lst s).drop at')).2.2.2)∧∀ ts e,Lx (at'+(zG ((lst s).drop at')).2.2.2) ((lst s).drop (at'+(zG ((lst s).drop at')).2.2.2)) ts e→Lx 0 (lst s) ((acc++[(t,at')])++ts) e)):=qd fun hp h0=>by
    rcases cutQ_some h0 with ⟨n,h1,h2⟩ | ⟨t,n,h1,h2⟩
    ·exfalso
     have:=hP.pass.2 ((cut_passed h1).2 rfl);rw [hp] at this
     cases this
    ·rw [h2]
     have hn:=cut_n h1;rw [List.length_drop,qo] at hn;refine ⟨by simp; omega,t,rfl,fun ts e h=>?_⟩
     have:=hH.out.lx _ _ (.tok _ _ t n _ _ h1 (by rw [List.drop_drop]; exact h))
     rw [List.append_assoc];exact this
   obtain ⟨x,hx⟩:∃ x,x=zG ((lst s).drop at'):=⟨_,rfl⟩;have hbd:=cutQ_bound ((lst s).drop at');rw [← hx] at hcall HN HC HD hbd;obtain ⟨q1,q2,q3,q4⟩:=x;dsimp only [openT] at hcall HN HC HD;have HA:=qd (show q2.length≤s.size∧q4≤4097 from by simp [List.length_drop,qo] at hbd; omega)
   clear tb hop hP hW HP HL hx hb hbd
   go_wp2_with (go_at_call 30; refine (hkd _).mono ?_; rintro e w1 ⟨rfl,h1⟩; have h2:=h1.symm; subst h2)
   go_cut [8,9] (fun p q V=>∃ B,p=.pointer (some ⟨B,0,none⟩)∧q=.int .i64 q4∧Hid (V.heap[B]?=some (.cells #[.int .i64 q1,.string (ba q2),.int .i64 q3,.int .i64 0] 54 (0,0))∧wr.heap.size < B∧Bl (wr.alloc (.cells #[.func (.func F) #[] #[],.bool P] 67)) V))
   case first =>
    go_region_with (first
     | (go_at_fn F; refine (hcall _ ((Bl.alloc2 wr _ _).trans (Bl.drew _))).mono ?_; rintro e w3 ⟨rfl,b3⟩; have hr3:=resD2 b3; obtain ⟨r0,r1,r2,r3,y0,y1,y2,y3⟩:=resF hr3)
     | (go_at_fn F; refine (hcall _ ((Bl.alloc wr _).trans (Bl.drew _))).mono ?_; rintro e w3 ⟨rfl,b3⟩))
    all_goals go_wp2_with fail
    all_goals
     go_meet
     case rel =>
      first
       | exact ⟨wr.heap.size+1,rfl,rfl,set4_heap hr3 _ _ _ _,by omega,set4_bl ((Bl.alloc _ _).trans ((Bl.drew _).trans b3)) (by show (wr.heap.push _).size≤_; simp) _ _ _ _⟩
       | exact ⟨w3.heap.size,rfl,rfl,heap_alloc_new _ _,(by have h7:=b3.size; have h8:(wr.heap.push (.cells #[.func (.func F) #[] #[],.bool P] 67)).size≤w3.heap.size:=h7; simp at h8; omega),((Bl.drew _).trans b3).trans (Bl.alloc _ _)⟩
   case rest =>
    obtain ⟨B,rfl,rfl,hq⟩:=hcut;obtain ⟨V,hV⟩:∃ V,V=wc:=⟨_,rfl⟩;subst hV;have hop2:V.heap[wr.heap.size]?=some (.cells #[.func (.func F) #[] #[],.bool P] 67 (0,0)):=(hq.out.2.2.block _ (by show wr.heap.size < (wr.heap.push _).size; simp)).trans (heap_alloc_new wr _)
    have p1:V.cell? ⟨wr.heap.size,1,none⟩=some (.bool P):=by rw [qh hop2]; rfl
    have HO:Hid (∀ W,Bl wr W→TL w s acc at' u4 W):=qd fun W b=>hH.out.keep b
    have bV:Hid (Bl wr V):=(Bl.alloc _ _).trans hq.out.2.2;have hTL:=HO.out V bV.out;have e0:V.cell? ⟨w.heap.size,0,none⟩=some (.int .i64 0):=by rw [qh hTL.res]; rfl
    have e1:V.cell? ⟨w.heap.size,1,none⟩=some (.int .i64 0):=by rw [qh hTL.res]; rfl
    have f0:=qK hTL.res 0;have f1:=qK hTL.res 1;have k1:V.cell? ⟨B,1,none⟩=some (.string (ba q2)):=by rw [qh hq.out.1]; rfl
    have k3:V.cell? ⟨B,3,none⟩=some (.int .i64 0):=by rw [qh hq.out.1]; rfl
    have j1:=qK hq.out.1 1;have j3:=qK hq.out.1 3;have HTL:=qd hTL;have hwr:=qd hH.out.bl.size;clear hTL hop2 hH t0 t1 hcall hent ltT
    by_cases h0:q4=0
    ·obtain ⟨ts,c,a,hL,h5,h6,h7⟩:=HN.out h0
     rw [h5,h6,h7] at hL;clear h5 h6 h7 ts c a;subst h0
     go_wp2_with fail
     refine ret26 (ts:=[]) (c:=70) (a:=at') ?_ rfl rfl hL ⟨rfl,Or.inl ⟨rfl,rfl⟩⟩ ?_
     ·rw [zc (zc HTL.out.res 0 _) 1 _]
      rfl
     ·exact jy (jy HTL.out.bl (Nat.le_refl _) 0 _) (Nat.le_refl _) 1 _
    ·have h0i:¬ (q4:Int)=0:=by omega
     have hq97:=HA.out.2
     cases P with
     | true =>
      obtain ⟨hle,hlx⟩:=HC.out rfl h0;have HX:=qd hlx;clear hlx
      go_wp2_with fail
      go_roundw
      case rel=>exact ⟨acc,at'+q4,by simp,HTL.out.next (Bl.refl _) HX.out hle (by omega)⟩
      case measure=>simp [intOf]; omega
     | false =>
      obtain ⟨hle,t,ht,hlx⟩:=HD.out rfl h0;have HX:=qd hlx;have ht1:q1=t.kind∧q2=t.text∧q3=t.num:=by simp at ht; exact ht
      obtain ⟨rfl,rfl,rfl⟩:=ht1;have hql:=HA.out.1;have hal:=HTL.out.al;have hcl:(ba t.text).size≤140737488355328:=by rw [← qo,qJ]; omega
      have hBlt:=qf hq.out.1;have hwB:wr.heap.size < B:=hq.out.2.1;obtain ⟨i0,hi,hz0,hz1,hz2⟩:=info_parts info30;clear hlx ht;have hH3:Hid ((V.setCell ⟨B,3,none⟩ (.int .i64 (at':Int))).heap[B]?=some (.cells #[.int .i64 t.kind,.string (ba t.text),.int .i64 t.num,.int .i64 at'] 54 (0,0))):=by
       unfold Hid;rw [zc hq.out.1 3 _];rfl
      go_wp2_with (first
       | (
        go_at_call 31; refine (Clone_ok (ba t.text) _ hcl).mono ?_; rintro e w4 ⟨rfl,b4⟩
        have hB4:=qd ((b4.block B (by rw [size_set]; exact hBlt)).trans hH3.out)
        have z0:w4.cell? ⟨B,0,none⟩=some (.int .i64 t.kind):=by rw [qh hB4.out]; rfl
        have z1:w4.cell? ⟨B,1,none⟩=some (.string (ba t.text)):=by rw [qh hB4.out]; rfl
        have z2:w4.cell? ⟨B,2,none⟩=some (.int .i64 t.num):=by rw [qh hB4.out]; rfl
        have z3:w4.cell? ⟨B,3,none⟩=some (.int .i64 at'):=by rw [qh hB4.out]; rfl
        have zf:=qK hB4.out 1;have b5:=qd (jy ((jy bV.out (Nat.le_of_lt hwB) 3 (.int .i64 (at':Int))).trans b4) (Nat.le_of_lt hwB) 1 (.string (ba t.text)));have hTL5:=qd (HO.out _ b5.out);have hown5:=hTL5.out.own)
       | (at_builtin; refine wpList_append_lies _ rfl (.tmp 47) (.tmp 49) 50 rfl (w.heap.size+3) 54 i0 (.agg #[.int .i64 0,.string ⟨#[]⟩,.int .i64 0,.int .i64 0]) 4 40 Tryz.underlying50 hi hz0 hz1 hz2 rfl (by decide) _ _ _ rfl (hown5.alloc _) ⟨w4.heap.size,0,none⟩ 1 1 [.int .i64 t.kind,.string (ba t.text),.int .i64 t.num,.int .i64 at'] rfl rfl ?c1 ?c2 (by omega) ?c3 ?c4 ?c5 (w4.heap.size+1) (by simp) ?_))
      case c1 =>
       have h9:=heap_alloc_new (w4.setCell ⟨B,1,none⟩ (.string (ba t.text))) (.cells #[.int .i64 t.kind,.string (ba t.text),.int .i64 t.num,.int .i64 at'] 54);rw [size_set] at h9;exact World.news_of_block h9
      case c2=>intro u hu; simp at hu; rcases hu with rfl | rfl | rfl | rfl <;> rfl
      case c3=>unfold maxLen; omega
      case c4=>omega
      case c5=>have h1:=qf hTL5.out.tab; simp at h1 ⊢; omega
      intro g3 cap w5 hown' hgrow hat hlt5;have HT5:=qd (TL.append (x:=(t,at')) (a':=at'+q4) (hTL5.out.keep (Bl.alloc _ _)) hgrow hown' HX.out hle (by omega))
      clear hown' hgrow hown5 hat
      go_wp2_with fail
      go_roundw
      case rel=>exact ⟨acc++[(t,at')],at'+q4,by simp,HT5.out⟩
      case measure=>simp [intOf]; omega
  ·have hae:at'=s.size:=by omega
   subst hae;have hal:=hH.out.al;have hown0:=hH.out.own;have hwr:=qd hH.out.bl.size;obtain ⟨i0,hi,hz0,hz1,hz2⟩:=info_parts info30;have HLR:Hid (LexR (lst s) (acc++[(zx,s.size)]) 0 0):=by
    have h1:=hH.out.lx [] none (by rw [List.drop_eq_nil_of_le (by rw [qo]; exact Nat.le_refl _)]; exact .stop _)
    rw [List.append_nil] at h1;exact Or.inr ⟨by rw [qo]; exact hs,acc,none,h1,Or.inl ⟨rfl,by rw [qo],rfl,rfl⟩⟩
   clear hop
   go_wp2_with (first
    | (at_builtin; refine wpList_append_lies _ rfl (.tmp 54) (.tmp 58) 50 rfl (w.heap.size+3) 54 i0 (.agg #[.int .i64 0,.string ⟨#[]⟩,.int .i64 0,.int .i64 0]) 4 40 Tryz.underlying50 hi hz0 hz1 hz2 rfl (by decide) _ _ _ rfl (hown0.alloc _) ⟨wr.heap.size,0,none⟩ 1 1 [.int .i64 18,.string ⟨#[]⟩,.int .i64 0,.int .i64 s.size] rfl rfl ?c1 ?c2 (by omega) ?c3 ?c4 ?c5 (wr.heap.size+1) (by simp) ?_))
   case c1=>exact World.news_of_block (heap_alloc_new wr _)
   case c2=>intro u hu; simp at hu; rcases hu with rfl | rfl | rfl | rfl <;> rfl
   case c3=>unfold maxLen; omega
   case c4=>omega
   case c5=>have h1:=qf hH.out.tab; simp at h1 ⊢; omega
   intro g3 cap w5 hown' hgrow hat hlt5;have HT5:=qd (TE.append (x:=(zx,s.size)) (hH.out.keep (Bl.alloc _ _)) hgrow hown');clear hown' hgrow hown0 hat;have e0:w5.cell? ⟨w.heap.size,0,none⟩=some (.int .i64 0):=by rw [qh HT5.out.res]; rfl
   have e1:w5.cell? ⟨w.heap.size,1,none⟩=some (.int .i64 0):=by rw [qh HT5.out.res]; rfl
   have f0:=qK HT5.out.res 0;have f1:=qK HT5.out.res 1
   go_wp2_with fail
   refine ret26 (ts:=acc++[(zx,s.size)]) (c:=0) (a:=0) ?_ rfl rfl HLR.out ?_ ?_
   ·rw [zc (zc HT5.out.res 0 _) 1 _]
    rfl
   ·refine ownR_congr HT5.out.own (fun g hg=>?_) (by omega)
    have h1:=own_block HT5.out.own hg;rw [Below.heap_setCell _ _ _ _ (by show g≠w.heap.size; omega),Below.heap_setCell _ _ _ _ (by show g≠w.heap.size; omega)]
   ·exact jy (jy HT5.out.bl (Nat.le_refl _) 0 _) (Nat.le_refl _) 1 _
def noT:Tok × Nat:=(⟨0,[],0⟩,0)
structure RdT (w:World) (v:Value) (ts:List (Tok × Nat)):Prop where
 at_:∃ p c,v=.slice p ts.length c∧(0 < ts.length→∃ b off,p=some ⟨b,off,none⟩∧b < w.heap.size∧∀ j,j < ts.length →
  w.cell? ⟨b,off+j * 4,none⟩=some (.int .i64 (ts.getD j noT).1.kind)∧w.cell? ⟨b,off+j * 4+1,none⟩=some (.string (ba (ts.getD j noT).1.text)) ∧
  w.cell? ⟨b,off+j * 4+2,none⟩=some (.int .i64 (ts.getD j noT).1.num)∧w.cell? ⟨b,off+j * 4+3,none⟩=some (.int .i64 (ts.getD j noT).2))
theorem RdT.keep {w w':World} {v:Value} {ts:List (Tok × Nat)} (h:RdT w v ts) (b:Bl w w'):RdT w' v ts:=by
 obtain ⟨p,c,rfl,hp⟩:=h.at_
 refine ⟨p,c,rfl,fun h0=>?_⟩
 obtain ⟨g,off,rfl,hg,hc⟩:=hp h0
 have e:∀ i,w'.cell? ⟨g,i,none⟩=w.cell? ⟨g,i,none⟩:=fun i=>World.cell?_of_block (w:=w) (b.block g hg)
 exact ⟨g,off,rfl,Nat.lt_of_lt_of_le hg b.size,fun j hj=>by rw [e,e,e,e]; exact hc j hj⟩
theorem tcs_get:∀ (ts:List (Tok × Nat)) (j i:Nat),j < ts.length→i < 4→(tcs ts)[j * 4+i]?=(tc (ts.getD j noT))[i]?:=by
 intro ts
 induction ts with
 | nil=>intro j i h; simp at h
 | cons x ts ih =>
  intro j i hj hi;have e:tcs (x :: ts)=tc x++tcs ts:=by simp [tcs]
  rw [e];have l4:(tc x).length=4:=rfl
  cases j with
  | zero=>rw [List.getElem?_append_left (by omega)]; simp
  | succ j =>
   rw [List.getElem?_append_right (by omega),l4,show (j+1) * 4+i - 4=j * 4+i by omega,ih j i (by simpa using hj) hi]
   rfl
theorem RdT.own {w:World} {base:Nat} {v:Value} {ts:List (Tok × Nat)} (h:w.ownsRow base 54 4 v ts.length (tcs ts)):RdT w v ts:=by
 rcases h.2 with ⟨rfl,h2⟩ | ⟨g,cap,cur,rfl,h1,h2,h3,h4,h5,h6⟩
 ·exact ⟨none,0,by rw [h2],fun h=>by omega⟩
 ·refine ⟨_,cap,rfl,fun h0=>⟨g,0,rfl,qf h2,fun j hj=>?_⟩⟩
  have key:∀ i,i < 4→w.cell? ⟨g,0+j * 4+i,none⟩=(tc (ts.getD j noT))[i]?:=fun i hi=>by
   rw [qh h2,← tcs_get ts j i hj hi,← h6,List.getElem?_take,if_pos (by omega),Array.getElem?_toList,Nat.zero_add]
  exact ⟨key 0 (by omega),key 1 (by omega),key 2 (by omega),key 3 (by omega)⟩
theorem Bl.drewN (w:World) (n:Nat):Bl w (w.drewN n):=⟨rfl,rfl,rfl,Nat.le_refl _,fun _ _=>rfl⟩
end Go.Proofs.YtfhkhmgodkheaaaGreatDoor
namespace Go.Proofs.YtfhkhmgodkheaaaGreatDoor
open Go.RowKit
theorem kwAns_zero {o:Option Nat} (h:o=none∨o=some 0):kwAns o=(0,1):=by rcases h with rfl | rfl <;> rfl
theorem kwAns_pos {n:Nat} (h:n≠0):kwAns (some n)=(n,0):=by obtain ⟨m,rfl⟩:∃ m,n=m+1:=⟨n - 1,by omega⟩; rfl
theorem keywords_ok (s:ByteArray) (w:World) (hs:s.size≤140737488355328) :
  Calls Tryz.prog 96 #[.string s] w fun e w'=>e=.returned (.tuple #[.int .i64 (kwAns (kwsN (lst s))).1,.int .i64 (kwAns (kwsN (lst s))).2])∧Bl w w':=by
 go_enter Tryz.func96,Tryz.ntmps96
 go_wp2
 go_loopw [0,4] (fun a c wr=>∃ (t:ByteArray) (n:Nat),a=.string t∧c=.int .i64 n∧t.size+n≤s.size∧Hid (kwsN (lst s)=(kwsN (lst t)).map (·+n)∧Bl w wr)) (fun a _ _=>strN a)
 case atStart=>exact ⟨s,0,rfl,rfl,by omega,by simp,Bl.refl w⟩
 case round =>
  obtain ⟨t,n,rfl,rfl,hz,hH⟩:=hrel;have hst:=kwsN_step (lst t);have hts:t.size≤140737488355328:=by omega
  by_cases h0:t.size=0
  ·have hE:t.toList.isEmpty=true:=jE h0
   rw [if_pos (lst_nil.2 h0)] at hst;have hv:kwsN (lst s)=some n:=by rw [hH.out.1,hst]; simp
   clear hst
   by_cases n0:n=0
   ·have hf:=kwAns_zero (o:=kwsN (lst s)) (Or.inr (by rw [hv,n0]))
    clear hv;subst n0
    go_wp2
    go_wp2
    go_ret2
    exact ⟨by rw [hf]; rfl,hH.out.2⟩
   ·have hf:kwAns (kwsN (lst s))=(n,0):=by rw [hv]; exact kwAns_pos n0
    clear hv
    go_wp2
    go_wp2
    go_ret2
    exact ⟨by rw [hf]; rfl,hH.out.2⟩
  ·have hE:t.toList.isEmpty=false:=ja h0
   rw [if_neg (fun h=>h0 (lst_nil.1 h))] at hst
   have hk:=kwLength_ok t wr hts;have hle:=kwLen_le (lst t);rw [qo] at hle
   by_cases k0:qT (lst t)=0
   ·have hf:=kwAns_zero (o:=kwsN (lst s)) (Or.inl (by rw [hH.out.1,hst,if_pos (Or.inl k0)]; rfl))
    rw [k0] at hk;clear hst hle k0
    go_wp2_with (first | (go_at_call 73; refine hk.mono ?_; rintro e w1 ⟨rfl,b1⟩) | (go_at_call 93; refine (isSmall_ok t _).mono ?_; rintro e w2 ⟨rfl,rfl⟩))
    go_ret2
    exact ⟨by rw [hf]; rfl,hH.out.2.trans b1⟩
   ·by_cases cS:smallB (lst t)=true
    ·rw [if_neg (by rintro (h | h); exact k0 h; unfold smallB at cS; rw [cS] at h; cases h),← lst_from] at hst
     have hsz:=size_from t (qT (lst t));have hx:Hid (kwsN (lst s)=(kwsN (lst (t.extract (qT (lst t)) t.size))).map (·+(n+1))):=by
      unfold Hid;rw [hH.out.1,hst,Option.map_map]
      congr 1
      funext x
      simp
      omega
     clear hst;generalize qT (lst t)=d at *;have hi:(d:Int)≤t.size:=by omega
     have hi0:(0:Int) < d:=by omega
     go_wp2_with (first | (go_at_call 73; refine hk.mono ?_; rintro e w1 ⟨rfl,b1⟩) | (go_at_call 93; refine (isSmall_ok t _).mono ?_; rintro e w2 ⟨rfl,rfl⟩))
     go_roundw
     case rel=>exact ⟨t.extract d t.size,n+1,rfl,by simp,by rw [hsz]; omega,hx.out,hH.out.2.trans b1⟩
     case measure=>simp only [strN]; rw [hsz]; omega
    ·have cS':smallB (lst t)=false:=by simpa using cS
     have hf:=kwAns_zero (o:=kwsN (lst s)) (Or.inl (by rw [hH.out.1,hst,if_pos (Or.inr (show isS (hd (lst t))=false from cS'))]; rfl))
     clear hst cS;generalize qT (lst t)=d at *
     go_wp2_with (first | (go_at_call 73; refine hk.mono ?_; rintro e w1 ⟨rfl,b1⟩) | (go_at_call 93; refine (isSmall_ok t _).mono ?_; rintro e w2 ⟨rfl,rfl⟩))
     go_ret2
     exact ⟨by rw [hf]; rfl,hH.out.2.trans b1⟩
theorem sel_ok (s:ByteArray) (w:World) (hs:s.size≤140737488355328) :
  Calls Tryz.prog 61 #[.string s] w fun e w'=>e=.returned (.tuple #[.int .i64 (sel (lst s)).1,.int .i64 (sel (lst s)).2])∧Bl w w':=by
 have hn:=isName_ok s w hs
 have e:Hid (sel (lst s)=if nameB (lst s)=true∧smallB (lst s)=true∧resB (lst s)=false then (0,0) else if opB (lst s)=true then (1,0) else kwAns (kwsN (lst s))):=qd rfl
 have hsm:=isSmall_ok s
 have hre:=isRes_ok s
 have hop:=fun w=>isOp_ok s w hs
 have hkw:=fun w=>keywords_ok s w hs
 generalize sel (lst s)=v at *
 generalize kwAns (kwsN (lst s))=k at *
 generalize nameB (lst s)=b1 at *
 generalize smallB (lst s)=b2 at *
 generalize resB (lst s)=b3 at *
 generalize opB (lst s)=b4 at *
 obtain ⟨k1,k2⟩:=k
 cases b1 <;> cases b2 <;> cases b3 <;> cases b4
 all_goals go_enter Tryz.func61,Tryz.ntmps61
 all_goals go_wp2_with (first | (go_at_call 92; refine hn.mono ?_; rintro e w1 ⟨rfl,q1⟩) | (go_at_call 93; refine (hsm _).mono ?_; rintro e w2 ⟨rfl,rfl⟩) | (go_at_call 94; refine (hre _).mono ?_; rintro e w2 ⟨rfl,rfl⟩) | (go_at_call 95; refine (hop _).mono ?_; rintro e w2 ⟨rfl,rfl⟩) | (go_at_call 96; refine (hkw _).mono ?_; rintro e w3 ⟨rfl,q2⟩))
 all_goals go_ret2
 all_goals first | exact ⟨by rw [e.out]; rfl,q1⟩ | exact ⟨by rw [e.out]; rfl,q1.trans q2⟩
end Go.Proofs.YtfhkhmgodkheaaaGreatDoor
namespace Go.Proofs.YtfhkhmgodkheaaaGreatDoor
open Go.RowKit Go.Maps
theorem tokens_ok (s:ByteArray) (w:World) (hT:Tab w) (hs:s.size≤140737488355328):Calls Tryz.prog 19 #[.string s] w fun e w' =>
  ∃ v ts c a,e=.returned (.tuple #[v,.agg #[.int .i64 (c:Nat),.int .i64 (a:Nat)]])∧LexR (lst s) ts c a∧w'.ownsRow w.heap.size 54 4 v ts.length (tcs ts)∧Bl w w':=by
 by_cases h:s.size≤4096
 ·exact tokens_small s w hT h
 ·have hsi:(4096:Int) < s.size:=by omega
  go_enter Tryz.func19,Tryz.ntmps19
  go_wp2_with fail
  have hb:Bl w (w.alloc (.cells #[.int .i64 73,.int .i64 4096] 30)):=Bl.alloc _ _;exact ret26 (ts:=[]) (c:=73) (a:=4096) (heap_alloc_new w _) rfl rfl (Or.inl ⟨by rw [qo]; omega,rfl,rfl,rfl⟩) ⟨rfl,Or.inl ⟨rfl,rfl⟩⟩ hb
def lexF:Nat→Nat→Bs→Option (List (Tok × Nat) × Option Nat)
 | 0,_,_=>none
 | f+1,p,l=>if l=[] then some ([],none) else match cut l with
  | none=>some ([],some p)
  | some (none,n)=>lexF f (p+n) (l.drop n)
  | some (some t,n)=>(lexF f (p+n) (l.drop n)).map (fun x=>((t,p) :: x.1,x.2))
theorem lx_of (f:Nat):∀ (p:Nat) (l:Bs) (ts:List (Tok × Nat)) (e:Option Nat),lexF f p l=some (ts,e)→Lx p l ts e:=by
 induction f with
 | zero=>intro p l ts e h; cases h
 | succ f ih =>
  intro p l ts e h;unfold lexF at h
  by_cases hl:l=[]
  ·rw [if_pos hl] at h; cases h; subst hl; exact .stop p
  ·rw [if_neg hl] at h
   cases hc:cut l with
   | none=>rw [hc] at h; cases h; exact .bad p l hl hc
   | some x =>
    obtain ⟨x,n⟩:=x;rw [hc] at h
    cases x with
    | none=>exact .pass p l n ts e hc (ih _ _ _ _ h)
    | some t =>
     simp only at h
     obtain ⟨⟨us,e'⟩,h1,h2⟩:=Option.map_eq_some_iff.1 h;simp at h2;obtain ⟨rfl,rfl⟩:=h2;exact .tok p l t n us _ hc (ih _ _ _ _ h1)
theorem tokens_is {s:ByteArray} {ts:List (Tok × Nat)} {c a:Nat} (hl:LexR (lst s) ts c a) (hs:s.size≤140737488355328) (w:World) (hT:Tab w):Calls Tryz.prog 19 #[.string s] w fun e w' =>
  ∃ v,e=.returned (.tuple #[v,.agg #[.int .i64 c,.int .i64 a]])∧w'.ownsRow w.heap.size 54 4 v ts.length (tcs ts)∧Bl w w':=by
 refine (tokens_ok s w hT hs).mono ?_
 rintro e w' ⟨v,ts',c',a',rfl,h1,h2,h3⟩
 obtain ⟨rfl,rfl,rfl⟩:=hl.unique h1
 exact ⟨v,rfl,h2,h3⟩
theorem blk_in {X W:World} {o:Obj} (b:Bl (X.alloc o) W):W.heap[X.heap.size]?=some o:=(b.block _ (by show X.heap.size < (X.heap.push o).size; simp)).trans (heap_alloc_new X o)
end Go.Proofs.YtfhkhmgodkheaaaGreatDoor
