import Derived.Test.YtfhkhmgodkheaaaGreatDoorQAG05PAhead
import Derived.Test.YtfhkhmgodkheaaaGreatDoorQAUMv
import Derived.Laws.IdiomStrings
import Derived.Laws.BytesArg
import Derived.Deep.AppendLies
import Derived.Test.YtfhkhmgodkheaaaGreatDoorQAG38URd
import Derived.Deep.DeepCutAuto
import Derived.Test.YtfhkhmgodkheaaaGreatDoorQAG11PReg
import Derived.Test.YtfhkhmgodkheaaaGreatDoorQAG18TBd
import Derived.Test.YtfhkhmgodkheaaaGreatDoorQAG15PBdy
import Derived.Test.YtfhkhmgodkheaaaGreatDoorQAG37UNv
import Derived.BigQuiet
import Derived.Deep.QuietTactic
set_option linter.unusedSimpArgs false
set_option linter.unusedVariables false
set_option maxRecDepth 1000000
set_option maxHeartbeats 16000000
namespace Go.Proofs.YtfhkhmgodkheaaaGreatDoor
open Go.RowKit Go.Maps
theorem info5:(Tryz.prog.info? 5).map (fun i=>(i.zero,i.size,i.bytes))=some (some (.int .u8 0),1,1):=by kernel_rfl
def bcs (b:Bs):List Value:=b.map fun c=>.int .u8 (c.toNat:Int)
structure BO (w:World) (b:Bs) (v:Value) (W:World):Prop where
 own:W.ownsRow w.heap.size 5 1 v b.length (bcs b)
 bl:Bl w W
theorem own_blockB {w:World} {base:Nat} {v:Value} {n:Nat} {xs:List Value} (h:w.ownsRow base 5 1 v n xs) {g:Nat} (hg:v.ownBlock=some g):base≤g∧g < w.heap.size:=by
 rcases h.2 with ⟨rfl,_⟩ | ⟨g',cap,cur,rfl,h1,h2,_⟩
 ·cases hg
 ·have e:g'=g:=by simpa [Value.ownBlock] using hg
  subst e
  exact ⟨h1,lt_of_heap h2⟩
theorem BO.append {w X w5:World} {b:Bs} {v v':Value} {c:UInt8} (h:BO w b v X) (hg:(X.alloc (.cells #[.int .u8 (c.toNat:Int)] 5)).grownBy w5 v.ownBlock) (ho:w5.ownsRow w.heap.size 5 1 v' (b.length+1) (bcs b++[.int .u8 (c.toNat:Int)])):BO w (b++[c]) v' w5 where
 own:=by
  have e:bcs (b++[c])=bcs b++[.int .u8 (c.toNat:Int)]:=by simp [bcs]
  rw [e,List.length_append]
  exact ho
 bl:=by
  have hb:=h.bl.trans (Bl.alloc X (.cells #[.int .u8 (c.toNat:Int)] 5))
  exact ⟨hg.os.trans hb.os,hg.tape.trans hb.tape,hg.output.trans hb.output,Nat.le_trans hb.size hg.size,fun k hk=>by
   rw [hg.block k (Nat.lt_of_lt_of_le hk hb.size) (fun e=>by have:=(own_blockB h.own e.symm).1; omega)]
   exact hb.block k hk⟩
theorem BO.conv {w W:World} {b:Bs} {v:Value} (h:BO w b v W):(convert 73 9 v).run Tryz.prog W=.ok (.string (ba b)) W:=by
 rcases h.own.2 with ⟨rfl,h0⟩ | ⟨g,cap,cur,rfl,h1,h2,h3,h4,h5,h6⟩
 ·have hb:b=[]:=List.length_eq_zero_iff.1 h0
  subst hb
  exact run_convert_bytes_nil W 73 5 Tryz.underlying73 Tryz.underlying5 0 0 9 Tryz.underlying9
 ·refine run_convert_bytes_back W 73 9 5 ⟨g,0,none⟩ cap b Tryz.underlying73 Tryz.underlying5 Tryz.underlying9 (fun j hj=>?_)
  have hp:(⟨g,0,none⟩:Addr).add j=⟨g,j,none⟩:=by unfold Addr.add; simp; exact fun h=>h.symm
  rw [hp,cell_in h2,← Array.getElem?_toList]
  have h7:(cur.toList.take (b.length * 1))[j]?=cur.toList[j]?:=by rw [List.getElem?_take,if_pos (by omega)]
  rw [← h7,h6]
  simp [bcs,List.getElem?_eq_getElem hj]
theorem gap_ok (s:ByteArray) (bl:Bool) (w:World) (hs:s.size≤140737488355328):Calls Tryz.prog 20 #[.string s,.bool bl] w fun e w' =>
  ∃ g,e=.returned (.string g)∧Gap (lst g)∧g.size≤140737488355400∧Bl w w':=by
 cases bl with
 | true =>
  go_enter Tryz.func20,Tryz.ntmps20
  go_wp2
  go_ret
  exact ⟨_,rfl,Or.inl rfl,by decide,Bl.refl _⟩
 | false =>
  obtain ⟨i0,hi,hz0,hz1,hz2⟩:=info_parts info5
  go_enter Tryz.func20,Tryz.ntmps20
  go_wp2
  go_loopw [5,6] (fun v q wr=>∃ (b:Bs) (i:Nat),q=.int .i64 i∧i≤s.size∧b.length≤i∧Hid (∀ c∈b,c.toNat≠34)∧Hid (BO w b v wr)) (fun _ q _=>s.size - (intOf q).toNat)
  case atStart=>exact ⟨[],0,rfl,Nat.zero_le _,Nat.le_refl _,(by unfold Hid; simp),⟨World.ownsRow_nil _ _ _ _,Bl.refl _⟩⟩
  case round =>
   obtain ⟨b,i,rfl,hi1,hbl,hne,hH⟩:=hrel
   by_cases hlt:i < s.size
   ·have hli:(i:Int) < s.size:=by omega
    have hown:=hH.out.own
    have hwr:=hH.out.bl.size
    obtain ⟨c,hc⟩:∃ c,c=s[i]'hlt:=⟨_,rfl⟩
    by_cases h34:(s[i]'hlt).toNat=34
    ·have h34i:((s[i]'hlt).toNat:Int)=34:=by omega
     go_wp2_with fail
     go_roundw
     case rel=>exact ⟨b,i+1,by simp,by omega,by omega,hne,hH⟩
     case measure=>simp [intOf]; omega
    ·have h34i:¬ ((s[i]'hlt).toNat:Int)=34:=by omega
     go_wp2_with (at_builtin; refine wpList_append_lies _ rfl (.tmp 18) (.tmp 22) 73 rfl w.heap.size 5 i0 (.int .u8 0) 1 1 Tryz.underlying73 hi hz0 hz1 hz2 rfl (by decide) _ _ _ rfl (hown.alloc _) ⟨wr.heap.size,0,none⟩ 1 1 [.int .u8 ((s[i]'hlt).toNat:Int)] rfl rfl ?c1 ?c2 (by omega) ?c3 ?c4 ?c5 (wr.heap.size+1) (by simp) ?_)
     case c1=>exact World.news_of_block (heap_alloc_new wr _)
     case c2=>intro u hu; simp at hu; rcases hu with rfl; rfl
     case c3=>unfold maxLen; omega
     case c4=>omega
     case c5=>simp; omega
     intro g3 cap w5 hown' hgrow hat hlt5
     have HT5:=mkHid (BO.append hH.out hgrow hown')
     clear hown' hgrow hown hat
     go_wp2_with fail
     go_roundw
     case rel=>exact ⟨b++[s[i]'hlt],i+1,by simp,by omega,by simp; omega,(by
      intro x hx
      rcases List.mem_append.1 hx with h | h
      ·exact hne.out x h
      ·rw [List.mem_singleton.1 h]; exact h34),HT5.out⟩
     case measure=>simp [intOf]; omega
   ·have hie:i=s.size:=by omega
    have hli:¬ (i:Int) < s.size:=by omega
    have hcv:=hH.out.conv
    have hbs:(ba b).size=b.length:=by rw [← lst_len,lst_ba]
    clear hie
    go_wp2_with fail
    go_ret
    refine ⟨_,rfl,Or.inr ⟨b,hne.out,?_⟩,?_,hH.out.bl⟩
    ·rw [append_lst,append_lst,lst_ba]; rfl
    ·rw [← lst_len,append_lst,append_lst,lst_ba]; simp [lst]; omega
theorem rem_place (z:Int) (n:Nat) (hn:n≤4097) (h0:0 < n):∃ r:Int,IntKind.i64.wrap (z.tmod (n:Int))=r∧z.tmod (n:Int)=r∧∃ k:Nat,k < n∧((r < 0∧IntKind.i64.wrap (r+(n:Int))=k)∨(¬ r < 0∧r=k)):=by
 have h1:=Int.tmod_lt_of_pos z (show (0:Int) < (n:Int) by omega)
 have h2:-(n:Int) < z.tmod (n:Int):=by
  have:=Int.tmod_lt_of_pos (-z) (show (0:Int) < (n:Int) by omega)
  rw [Int.neg_tmod] at this
  omega
 refine ⟨z.tmod (n:Int),wrap_id _ (by omega) (by omega),rfl,?_⟩
 by_cases hr:z.tmod (n:Int) < 0
 ·exact ⟨(z.tmod (n:Int)+(n:Int)).toNat,by omega,Or.inl ⟨hr,by rw [wrap_id _ (by omega) (by omega)]; omega⟩⟩
 ·exact ⟨(z.tmod (n:Int)).toNat,by omega,Or.inr ⟨hr,by omega⟩⟩
theorem gaps_bad (s:ByteArray) (m:Bool) (z:Int) (ws:ByteArray) (bk:Bool) (c a:Nat) (hc:c≠0) (hl:LexR (lst s) [] c a) (w:World) (hE:Env w) (h1:s.size≤140737488355328) :
  Calls Tryz.prog 7 #[.string s,.bool m,.int .i64 z,.string ws,.bool bk] w fun e w'=>e=.returned (.bool true)∧Bl w w':=by
 have HK:=mkHid (pknown_ok w hE)
 have HA:=mkHid (fun W (b:Bl w W)=>tokens_v hl h1 W (hE.mono b).tab)
 have HR:=mkHid (fun W (b:Bl w W)=>lread_ok m s none c a W (hE.mono b) h1 ⟨[],c,a,hl,Or.inl ⟨hc,rfl,rfl,rfl⟩⟩)
 have hcz:((c:Int) != 0)=true:=by simp; omega
 clear hl hE
 go_enter Tryz.func7,Tryz.ntmps7
 go_wp2_with (first
  | (go_at_call 9; refine HK.out.mono ?_; rintro e w1 ⟨rfl,b1⟩)
  | (
   go_at_call 19; refine (HA.out _ b1).mono ?_; rintro e w2 ⟨pa,ka,rfl,ra,qa,na,ma,b2⟩
   have HW:Hid (∀ o,Bl w (w2.alloc o)):=mkHid (fun o=>(b1.trans b2).trans (Bl.alloc _ _))
   obtain ⟨WL,hWL⟩:∃ X,w2.alloc (.cells #[.int .i64 c,.int .i64 a] 30)=X:=⟨_,rfl⟩
   have HWL:Hid (Bl w WL):=mkHid (hWL▸HW.out _)
   have gL:Hid (WL.heap[w2.heap.size]?=some (.cells #[.int .i64 c,.int .i64 a] 30 (0,0))):=mkHid (hWL▸heap_alloc_new _ _)
   have v0:WL.cell? ⟨w2.heap.size,0,none⟩=some (.int .i64 c):=by (rw [cell_in gL.out]; rfl))
  | (
   go_at_call 13; refine (HR.out _ HWL.out).mono ?_; rintro e wR ⟨bR,t0R,t1R,t2R,t3R,t4R,t5R,rfl,hallR,hTR⟩
   have HAllR:=mkHid hallR
   have HTR:=mkHid hTR
   have HBR:=mkHid bR
   obtain ⟨X7R,hX7R⟩:∃ X,(wR.alloc (.cells #[.string ⟨#[]⟩,.int .i64 0,.int .i64 0,.slice none 0 0,.slice none 0 0,.slice none 0 0] 27)).alloc (.cells #[.int .i64 0,.int .i64 0] 30)=X:=⟨_,rfl⟩
   obtain ⟨b7,s7,h0,h1⟩:=two_boxes hX7R
   have H0R:Hid (X7R.heap[wR.heap.size]?=some (.cells #[.string ⟨#[]⟩,.int .i64 0,.int .i64 0,.slice none 0 0,.slice none 0 0,.slice none 0 0] 27 (0,0))):=mkHid h0
   obtain ⟨X8R,hX8R⟩:∃ X,X7R.setRow wR.heap.size #[t0R,t1R,t2R,t3R,t4R,t5R]=X:=⟨_,rfl⟩
   have f8:Fr [wR.heap.size] X7R X8R:=hX8R▸row_fr _ _ _
   have H1R:Hid (X8R.heap[wR.heap.size+1]?=some (.cells #[.int .i64 0,.int .i64 0] 30 (0,0))):=mkHid ((f8.block _ (lt_of_heap h1) (by simp)).trans h1)
   have k8:X8R.heap[wR.heap.size]?=some (.cells #[t0R,t1R,t2R,t3R,t4R,t5R] 27 (0,0)):=hX8R▸setRow_heap _ _ _ _ 27 (0,0) H0R.out
   obtain ⟨X9R,hX9R⟩:∃ X,X8R.setRow (wR.heap.size+1) #[.int .i64 c,.int .i64 a]=X:=⟨_,rfl⟩
   have f9:Fr [wR.heap.size+1] X8R X9R:=hX9R▸row_fr _ _ _
   have m1R:Hid (X9R.heap[wR.heap.size+1]?=some (.cells #[.int .i64 c,.int .i64 a] 30 (0,0))):=mkHid (hX9R▸setRow_heap _ _ _ _ 30 (0,0) H1R.out)
   have m0R:=mkHid ((f9.block _ (lt_of_heap k8) (by simp)).trans k8)
   have B9R:Hid (Bl wR X9R):=mkHid ((((Fr.ofBl b7 []).trans f8 (by simp)).trans f9 (by simp)).bl (by simp))
   have y0R:X9R.cell? ⟨wR.heap.size+1,0,none⟩=some (.int .i64 c):=by (rw [cell_in m1R.out]; rfl)
   have y1R:X9R.cell? ⟨wR.heap.size+1,1,none⟩=some (.int .i64 a):=by (rw [cell_in m1R.out]; rfl)
   have gM:=mkHid ((B9R.out.block _ (Nat.lt_of_lt_of_le (lt_of_heap gL.out) HBR.out.size)).trans ((HBR.out.block _ (lt_of_heap gL.out)).trans gL.out))
   have z0R:X9R.cell? ⟨w2.heap.size,0,none⟩=some (.int .i64 c):=by (rw [cell_in gM.out]; rfl)
   have z1R:X9R.cell? ⟨w2.heap.size,1,none⟩=some (.int .i64 a):=by (rw [cell_in gM.out]; rfl)
   clear b7 s7 h0 h1 f8 f9 k8 hallR hTR bR)
  | (refine wpList_store_row rfl 27 _ _ rfl wR.heap.size #[t0R,t1R,t2R,t3R,t4R,t5R] rfl rfl 27 _ H0R.out (by kernel_rfl) rfl HAllR.out ?_; rw [hX8R])
  | (refine wpList_store_row rfl 30 _ _ rfl (wR.heap.size+1) #[.int .i64 c,.int .i64 a] rfl rfl 30 _ H1R.out (by kernel_rfl) rfl (by kernel_rfl) ?_; rw [hX9R]))
 go_ret
 exact ⟨by simp,HWL.out.trans (HBR.out.trans B9R.out)⟩
theorem threeH {P:Program} {md:Region.Mode} {ops:Array Oper} {Q:Exit→Act→World→Prop} {S:World→Prop} {i j k:Nat} {oi oj ok:Oper} {fuel:Nat} {listed:Array Bool} {a:Act} {w:World} (hr:Region.ready md ops listed=[i,j,k]) (hi:ops[i]?=some oi) (hj:ops[j]?=some oj) (hk:ops[k]?=some ok)
  (h1:∀ K':Act→World→Prop,Hid (∀ a w,S w→(S w→wpAnyH P md ops Q S fuel (listed.setIfInBounds i true) a w)→K' a w)→if Region.wanted oi (yielded ops a.tmps)=true then Oper.wp P oi a w K' Q else K' (a.put oi.dst undef) w)
  (h2:∀ K':Act→World→Prop,Hid (∀ a w,S w→(S w→wpAnyH P md ops Q S fuel (listed.setIfInBounds j true) a w)→K' a w)→if Region.wanted oj (yielded ops a.tmps)=true then Oper.wp P oj a w K' Q else K' (a.put oj.dst undef) w)
  (h3:∀ K':Act→World→Prop,Hid (∀ a w,S w→(S w→wpAnyH P md ops Q S fuel (listed.setIfInBounds k true) a w)→K' a w)→if Region.wanted ok (yielded ops a.tmps)=true then Oper.wp P ok a w K' Q else K' (a.put ok.dst undef) w):wpAnyH P md ops Q S (fuel+1) listed a w:=by
 refine ⟨fun h0=>(by rw [hr] at h0; cases h0),fun l hl=>?_⟩
 rw [hr] at hl
 have e:l=i∨l=j∨l=k:=by simpa using hl
 rcases e with e | e | e
 ·subst e
  exact wpOp_step hi (fun K' hK=>h1 K' (fun a w hS hW=>hK a w ⟨hS,hW hS⟩))
 ·subst e
  exact wpOp_step hj (fun K' hK=>h2 K' (fun a w hS hW=>hK a w ⟨hS,hW hS⟩))
 ·subst e
  exact wpOp_step hk (fun K' hK=>h3 K' (fun a w hS hW=>hK a w ⟨hS,hW hS⟩))
abbrev zA:Obj:=.cells #[.string ⟨#[]⟩,.int .i64 0,.int .i64 0,.slice none 0 0,.slice none 0 0,.slice none 0 0] 27 (0,0)
abbrev zB:Obj:=.cells #[.int .i64 0,.int .i64 0] 30 (0,0)
structure R18 (X V:World) (A B:Option Nat) (U:Option (Array Value)) (r:Option Src):Prop where
 bl:Bl X V
 a:∀ x,A=some x→X.heap.size≤x∧V.heap[x]?=some zA
 b:∀ x,B=some x→X.heap.size≤x∧V.heap[x]?=some zB
 u:∀ u,U=some u→u.all (·.oneCell')=true∧∀ t,r=some t→∃ ft,SrM V t (.agg u) ft∧(∀ x,A=some x→x ∉ ft)∧(∀ x,B=some x→x ∉ ft)
theorem R18.mk0 {X V:World} (b:Bl X V) (r:Option Src):R18 X V none none none r:=⟨b,fun x h=>(by cases h),fun x h=>(by cases h),fun u h=>(by cases h)⟩
theorem R18.allocA {X V:World} {B:Option Nat} {U:Option (Array Value)} {r:Option Src} (h:R18 X V none B U r):R18 X (V.alloc (.cells #[.string ⟨#[]⟩,.int .i64 0,.int .i64 0,.slice none 0 0,.slice none 0 0,.slice none 0 0] 27)) (some V.heap.size) B U r:=by
 have b:=Bl.alloc V (.cells #[.string ⟨#[]⟩,.int .i64 0,.int .i64 0,.slice none 0 0,.slice none 0 0,.slice none 0 0] 27)
 refine ⟨h.bl.trans b,fun x e=>?_,fun x e=>?_,fun u e=>?_⟩
 ·injection e with e; subst e; exact ⟨h.bl.size,heap_alloc_new _ _⟩
 ·obtain ⟨h1,h2⟩:=h.b x e
  exact ⟨h1,(b.block _ (lt_of_heap h2)).trans h2⟩
 ·obtain ⟨h1,h2⟩:=h.u u e
  refine ⟨h1,fun t ht=>?_⟩
  obtain ⟨ft,hs,_,h4⟩:=h2 t ht
  exact ⟨ft,hs.fr (Fr.ofBl b []) (by simp),fun x e hx=>by injection e with e; subst e; exact absurd (hs.lt _ hx) (by omega),h4⟩
theorem R18.allocB {X V:World} {A:Option Nat} {U:Option (Array Value)} {r:Option Src} (h:R18 X V A none U r):R18 X (V.alloc (.cells #[.int .i64 0,.int .i64 0] 30)) A (some V.heap.size) U r:=by
 have b:=Bl.alloc V (.cells #[.int .i64 0,.int .i64 0] 30)
 refine ⟨h.bl.trans b,fun x e=>?_,fun x e=>?_,fun u e=>?_⟩
 ·obtain ⟨h1,h2⟩:=h.a x e
  exact ⟨h1,(b.block _ (lt_of_heap h2)).trans h2⟩
 ·injection e with e; subst e; exact ⟨h.bl.size,heap_alloc_new _ _⟩
 ·obtain ⟨h1,h2⟩:=h.u u e
  refine ⟨h1,fun t ht=>?_⟩
  obtain ⟨ft,hs,h4,_⟩:=h2 t ht
  exact ⟨ft,hs.fr (Fr.ofBl b []) (by simp),h4,fun x e hx=>by injection e with e; subst e; exact absurd (hs.lt _ hx) (by omega)⟩
theorem R18.call {X V w:World} {A B:Option Nat} {r:Option Src} {u:Array Value} (h:R18 X V A B none r) (b:Bl V w) (hall:u.all (·.oneCell')=true) (hT:∀ t,r=some t→∃ ft,SrM w t (.agg u) ft∧Apt V.heap.size ft):R18 X w A B (some u) r:=by
 refine ⟨h.bl.trans b,fun x e=>?_,fun x e=>?_,fun u' e=>?_⟩
 ·obtain ⟨h1,h2⟩:=h.a x e
  exact ⟨h1,(b.block _ (lt_of_heap h2)).trans h2⟩
 ·obtain ⟨h1,h2⟩:=h.b x e
  exact ⟨h1,(b.block _ (lt_of_heap h2)).trans h2⟩
 ·injection e with e
  subst e
  refine ⟨hall,fun t ht=>?_⟩
  obtain ⟨ft,hs,ha⟩:=hT t ht
  refine ⟨ft,hs,fun x e hx=>?_,fun x e hx=>?_⟩
  ·have:=lt_of_heap (h.a x e).2
   have:=ha.lo x hx
   omega
  ·have:=lt_of_heap (h.b x e).2
   have:=ha.lo x hx
   omega
theorem R18.fin {X V:World} {x y:Nat} {r:Option Src} {u v:Array Value} (h:R18 X V (some x) (some y) (some u) r) :
  x≠y∧((V.setRow x u).setRow y v).heap[x]?=some (.cells u 27 (0,0))∧((V.setRow x u).setRow y v).heap[y]?=some (.cells v 30 (0,0))∧(V.setRow x u).heap[y]?=some zB∧Bl X ((V.setRow x u).setRow y v)∧∀ t,r=some t→∃ ft,SrM ((V.setRow x u).setRow y v) t (.agg u) ft:=by
 obtain ⟨a1,a2⟩:=h.a x rfl
 obtain ⟨b1,b2⟩:=h.b y rfl
 have hne:x≠y:=by
  intro e
  subst e
  rw [a2] at b2
  injection b2 with b2
  injection b2 with b2 b3
  cases b3
 have f1:Fr [x] V (V.setRow x u):=row_fr _ _ _
 have k1:(V.setRow x u).heap[x]?=some (.cells u 27 (0,0)):=setRow_heap _ _ _ _ 27 (0,0) a2
 have k2:(V.setRow x u).heap[y]?=some zB:=(f1.block _ (lt_of_heap b2) (by simp; exact fun e=>hne e.symm)).trans b2
 have f2:Fr [y] (V.setRow x u) ((V.setRow x u).setRow y v):=row_fr _ _ _
 refine ⟨hne,(f2.block _ (lt_of_heap k1) (by simpa using hne)).trans k1,setRow_heap _ _ _ _ 30 (0,0) k2,k2,?_,fun t ht=>?_⟩
 ·have hf:=(((Fr.ofBl h.bl []).trans f1 (fun b hb=>Or.inr (by have:=List.mem_singleton.1 hb; omega))).trans f2 (fun b hb=>Or.inr (by have:=List.mem_singleton.1 hb; omega)))
  exact hf.bl (by simp)
 ·obtain ⟨ft,hs,h3,h4⟩:=(h.u u rfl).2 t ht
  exact ⟨ft,(hs.fr f1 (fun b hb hm=>h3 x rfl (List.mem_singleton.1 hm▸hb))).fr f2 (fun b hb hm=>h4 y rfl (List.mem_singleton.1 hm▸hb))⟩
mutual
theorem trN_mv1 (f:Nat→Nat):∀ n:Nd,trN (mvN f n)=trN n
 | .mk k t v p ns ps ks=>by rw [mvN,trN,trN,trL_mv1 f ks]
theorem trL_mv1 (f:Nat→Nat):∀ l:List Nd,trL (mvL f l)=trL l
 | []=>by rw [mvL]
 | n :: r=>by rw [mvL,trL,trL,trN_mv1 f n,trL_mv1 f r]
end
theorem trS_mv (f:Nat→Nat) (m:Bool) (t:Src):trS (mvS f m t)=trS t:=by
 unfold trS mvS
 dsimp only
 rw [← mvL_map,trL_mv1]
def Bd {α:Type} (r:Option (Rs α)):Prop:=∀ x,r=some (.bad x)→x.2≤4096
theorem Bd.bind {α β:Type} {r:Option (Rs α)} {k:α→Ps→Option (Rs β)} (h:Bd r) (hk:∀ a s1,r=some (.ok a s1)→Bd (k a s1)):Bd (bindP r k):=by
 intro x e
 cases hr:r with
 | none=>rw [hr] at e; cases e
 | some y =>
  rw [hr] at e
  cases y with
  | bad z=>injection e with e; injection e with e; subst e; exact h _ hr
  | ok a s1=>exact hk a s1 hr x e
theorem Bd.ok {α:Type} {a:α} {s:Ps}:Bd (some (.ok a s)):=by intro x e; injection e with e; cases e
theorem Bd.bad {α:Type} {ts:Ts} {s:Ps} (h:Okq ts s):Bd (some (.bad (hdT ts s)):Option (Rs α)):=by intro x e; injection e with e; injection e with e; subst e; exact h.txt.2
theorem Bd.no {α:Type}:Bd (none:Option (Rs α)):=by intro x e; cases e
theorem Bd.need {α:Type} {ts:Ts} {s:Ps} (h:Okq ts s) {k:Nat} {p:Ps→Option (Rs α)} (hp:standsP ts k s=true→Bd (p (takeP ts s))):Bd (match needP ts k s with | .bad x=>some (.bad x) | .ok _ s2=>p s2:Option (Rs α)):=by
 unfold needP
 by_cases e:standsP ts k s=true
 ·rw [if_pos e]; exact hp e
 ·rw [if_neg e]; exact Bd.bad h
theorem Bd.need1 {ts:Ts} {s:Ps} (h:Okq ts s) {k:Nat}:Bd (some (needP ts k s)):=by
 unfold needP
 by_cases e:standsP ts k s=true
 ·rw [if_pos e]; exact Bd.ok
 ·rw [if_neg e]; exact Bd.bad h
theorem listA_bd {α:Type} {ts:Ts} {btw:Nat} {there:Ps→Bool × Ps} {one:List α→Ps→Option (Rs α)} (hb:btw≠18) (ht:∀ s,Okq ts s→s.pos≤(there s).2.pos∧Okq ts (there s).2)
  (ho:∀ acc s,Okq ts s→(there s).1=true→Pg ts s (one acc (there s).2)) (hd:∀ acc s,Okq ts s→(there s).1=true→Bd (one acc (there s).2)):∀ (f:Nat) (acc:List α) (s:Ps),Okq ts s→Bd (listA ts btw there one f acc s):=by
 intro f
 induction f with
 | zero=>intro acc s h; exact Bd.no
 | succ f ih =>
  intro acc s h
  unfold listA
  rw [show there s=((there s).1,(there s).2) from rfl]
  cases hth:(there s).1 with
  | false=>exact Bd.ok
  | true =>
   dsimp only
   cases e:one acc (there s).2 with
   | none=>exact Bd.no
   | some r =>
    cases r with
    | bad x =>
     intro y ey
     injection ey with ey; injection ey with ey
     subst ey
     exact hd acc s h hth _ e
    | ok a s2 =>
     obtain ⟨p1,p2⟩:=ho acc s h hth a s2 e
     dsimp only
     by_cases hz:btw=0
     ·rw [if_pos hz]; exact ih _ _ p2
     ·rw [if_neg hz]
      have hs:=p2.skip (k:=btw) hb
      cases e2:skipP ts btw s2 with
      | mk b s3 =>
       rw [e2] at hs
       cases b with
       | false=>exact Bd.ok
       | true=>exact ih _ _ hs
theorem keywords_bd {α:Type} {ts:Ts} {one:Ps→Option (Rs α)} (ho:∀ s,Okq ts s→Pq ts s (one s)) (hd:∀ s,Okq ts s→Bd (one s)) (f:Nat) (s:Ps) (h:Okq ts s):Bd (keywordsP ts one f s):=by
 unfold keywordsP
 refine Bd.bind (listA_bd (btw:=0) (there:=fun s=>(decide (rankT (hdT ts s)=3),s)) (one:=fun (_:List ((Tok × Nat) × α)) s=>bindP (one (takeP ts s)) (fun a s2=>some (.ok (hdT ts s,a) s2))) (by decide) (fun s hs=>⟨Nat.le_refl _,hs⟩) (fun acc s hs hth=>?_) (fun acc s hs hth=>?_) f [] s h) (fun l s2 _=>Bd.ok)
 ·have hk:rankT (hdT ts s)=3:=by simpa using hth
  have ht:=hs.take (rank_kind (by rw [hk]; decide))
  exact Pg.tk (Pq.bind (ho _ ht) (fun a s1 _ h1=>Pq.ok h1))
 ·have hk:rankT (hdT ts s)=3:=by simpa using hth
  exact Bd.bind (hd _ (hs.take (rank_kind (by rw [hk]; decide)))) (fun a s1 _=>Bd.ok)
theorem worded_bd {α:Type} {ts:Ts} {one:Nat→Ps→Option (Rs α)} (ho:∀ k s,k≤3→Okq ts s→Pq ts s (one k s)) (hd:∀ k s,k≤3→Okq ts s→Bd (one k s)) (f:Nat) (s:Ps) (h:Okq ts s):Bd (wordedP ts one f s):=by
 unfold wordedP
 split
 ·exact Bd.ok
 split
 ·rename_i hr; exact Bd.bind (hd 2 _ (by decide) (h.take (rank_kind (by rw [hr]; decide)))) (fun a s1 _=>Bd.ok)
 split
 ·exact keywords_bd (ho 3 · (by decide)) (hd 3 · (by decide)) f s h
 ·exact Bd.bad h
theorem integer_bd {ts:Ts} {s:Ps} (h:Okq ts s):Bd (some (integerP ts s)):=by
 unfold integerP
 dsimp only
 split
 ·exact Bd.ok
 split
 ·exact Bd.ok
 ·exact Bd.bad h
theorem named_bd {ts:Ts} {s:Ps} {most:Nat} (h:Okq ts s):Bd (some (namedP ts most s)):=by
 unfold namedP
 dsimp only
 split
 ·exact Bd.ok
 split
 ·exact Bd.ok
 split
 ·exact Bd.bad h
 ·exact Bd.ok
theorem temporaries_bd {ts:Ts} (f:Nat) {s:Ps} (h:Okq ts s):Bd (temporariesP ts f s):=by
 unfold temporariesP
 have hs:=h.skip (k:=12) (by decide)
 cases e:skipP ts 12 s with
 | mk b s1 =>
  rw [e] at hs
  cases b with
  | false=>exact Bd.ok
  | true =>
   have hp:∀ (acc:Ts) (s:Ps),Okq ts s→((fun s=>(standsP ts 1 s,s)) s:Bool × Ps).1=true→Pg ts s ((fun (_:Ts) s=>some (.ok (hdT ts s) (takeP ts s))) acc s):=fun acc s hs hth=>Pg.tk (Pq.ok (hs.take (by rw [stands_kind hth]; decide)))
   have hq:=(listA_pg (α:=Tok × Nat) (btw:=0) (there:=fun s=>(standsP ts 1 s,s)) (one:=fun _ s=>some (.ok (hdT ts s) (takeP ts s))) (by decide) (fun s hs=>⟨Nat.le_refl _,hs⟩) hp f [] s1 hs).1
   exact Bd.bind (listA_bd (α:=Tok × Nat) (btw:=0) (there:=fun s=>(standsP ts 1 s,s)) (one:=fun _ s=>some (.ok (hdT ts s) (takeP ts s))) (by decide) (fun s hs=>⟨Nat.le_refl _,hs⟩) hp (fun acc s hs hth=>Bd.ok) f [] s1 hs) (fun l s2 e2=>Bd.need (hq l s2 e2).2 (fun _=>Bd.ok))
structure BdAll (ts:Ts) (f:Nat):Prop where
 expr:∀ s,Okq ts s→Bd (expressionP ts f s)
 casc:∀ s,Okq ts s→Bd (cascadeP ts f s)
 sends:∀ most s,Okq ts s→Bd (sendsP ts f most s)
 ranks:∀ most rank n sent s,Okq ts s→Bd (ranksP ts f most rank n sent s)
 msg:∀ s,Okq ts s→Bd (messageP ts f s)
 prim:∀ most s,Okq ts s→Bd (primaryP ts f most s)
 lit:∀ s,Okq ts s→Bd (literalP ts f s)
 elem:∀ s,Okq ts s→Bd (elementP ts f s)
 blk:∀ s,Okq ts s→(hdT ts s).1.kind=10→Bd (blockP ts f s)
 stmt:∀ s,Okq ts s→Bd (statementP ts f s)
 body:∀ fin s,Okq ts s→Bd (bodyP ts f fin s)
theorem bd_all (ts:Ts):∀ f,BdAll ts f:=by
 intro f
 induction f with
 | zero =>
  refine ⟨fun s _=>?_,fun s _=>?_,fun _ s _=>?_,fun _ _ _ _ s _=>?_,fun s _=>?_,fun _ s _=>?_,fun s _=>?_,fun s _=>?_,fun s _ _=>?_,fun s _=>?_,fun _ s _=>?_⟩ <;> first | (unfold expressionP; exact Bd.no) | (unfold cascadeP; exact Bd.no) | (unfold sendsP; exact Bd.no) | (unfold ranksP; exact Bd.no) | (unfold messageP; exact Bd.no) | (unfold primaryP; exact Bd.no) | (unfold literalP; exact Bd.no) | (unfold elementP; exact Bd.no) | (unfold blockP; exact Bd.no) | (unfold statementP; exact Bd.no) | (unfold bodyP; exact Bd.no)
 | succ f ih =>
  have pg:=pg_all ts f
  refine ⟨?_,?_,?_,?_,?_,?_,?_,?_,?_,?_,?_⟩
  ·intro s h
   unfold expressionP
   split
   ·rename_i hs
    have h1:=h.take (by rw [stands_kind hs.1]; decide)
    have hk:hdT ts (takeP ts s)=ts.getD (s.pos+1) noTk:=rfl
    exact Bd.bind (ih.expr _ (h1.take (by rw [hk,hs.2]; decide))) (fun n s1 _=>Bd.ok)
   ·exact ih.casc s h
  ·intro s h
   unfold cascadeP
   refine Bd.bind (ih.sends 3 s h) (fun x s1 e1=>?_)
   have h1:=(pg.sends 3 s h x s1 e1).2
   split
   ·exact Bd.ok
   rename_i hst
   split
   ·exact Bd.bad h1
   have h2:=h1.take (by rw [stands_kind (by simpa using hst)]; decide)
   refine Bd.bind (listA_bd (btw:=17) (by decide) (fun s hs=>⟨Nat.le_refl _,hs⟩) (fun acc s hs _=>pg.msg s hs) (fun acc s hs _=>ih.msg s hs) f [] _ h2) (fun l s3 _=>?_)
   cases x.1.kids with
   | nil=>exact Bd.no
   | cons r ks=>exact Bd.ok
  ·intro most s h
   unfold sendsP
   exact Bd.bind (ih.prim most s h) (fun n s1 e1=>ih.ranks most 1 n false s1 (pg.prim most s h n s1 e1).2)
  ·intro most rank n sent s h
   unfold ranksP
   split
   ·exact Bd.ok
   split
   ·exact Bd.bind (ih.msg s h) (fun m s1 e1=>ih.ranks most rank _ true s1 (pg.msg s h m s1 e1).2)
   ·exact ih.ranks most (rank+1) n sent s h
  ·intro s h
   unfold messageP
   refine Bd.bind (worded_bd (fun k s _ hs=>?_) (fun k s _ hs=>?_) f s h) (fun x s1 _=>Bd.ok)
   ·exact (Pg.bind (pg.sends (k - 1) s hs) (fun x s1 _ h1=>Pq.ok h1)).q
   ·exact Bd.bind (ih.sends (k - 1) s hs) (fun x s1 _=>Bd.ok)
  ·intro most s h
   unfold primaryP
   split
   ·exact named_bd h
   split
   ·rename_i hk
    have h1:=h.take (by rw [hk]; decide)
    exact Bd.bind (ih.expr _ h1) (fun n s1 e1=>Bd.need (pg.expr _ h1 n s1 e1).2 (fun _=>Bd.ok))
   split
   ·rename_i hk; exact ih.blk s h hk
   ·exact ih.lit s h
  ·intro s h
   unfold literalP
   split
   ·exact integer_bd h
   split
   ·exact Bd.ok
   split
   ·exact Bd.ok
   split
   ·rename_i hk
    have h1:=h.take (by rw [hk]; decide)
    refine Bd.bind (listA_bd (btw:=0) (by decide) (fun s hs=>⟨Nat.le_refl _,hs⟩) (fun acc s hs _=>pg.elem s hs) (fun acc s hs _=>ih.elem s hs) f [] _ h1) (fun l s1 e1=>?_)
    have hs1:=((listA_pg (btw:=0) (by decide) (fun s hs=>⟨Nat.le_refl _,hs⟩) (fun acc s hs _=>pg.elem s hs) f [] _ h1).1 l s1 e1).2
    have hp:=places_getD (elems_place pg.elem h1 e1) 32
    refine Bd.need ?_ (fun _=>Bd.ok)
    split
    ·exact hs1.pass hp
    ·exact hs1
   ·exact Bd.bad h
  ·intro s h
   unfold elementP
   split
   ·exact named_bd h
   ·exact ih.lit s h
  ·intro s h hk
   unfold blockP
   have h1:=h.take (by rw [hk]; decide)
   obtain ⟨p1,p2⟩:=params_pg f h1
   have hp1:∀ (acc:Ts) (s:Ps),Okq ts s→(skipP ts 13 s).1=true→Pg ts s ((fun (_:Ts) s=>some (needP ts 1 s)) acc (skipP ts 13 s).2):=fun acc s hs _ a s' e=>by
    obtain ⟨q1,q2⟩:=Pg.need (hs.skip (k:=13) (by decide)) (k:=1) (by decide) a s' e
    exact ⟨Nat.lt_of_le_of_lt (skip_pos ts 13 s) q1,q2⟩
   refine Bd.bind (listA_bd (btw:=0) (by decide) (fun s hs=>⟨skip_pos ts 13 s,hs.skip (by decide)⟩) hp1 (fun acc s hs _=>Bd.need1 (hs.skip (by decide))) f [] _ h1) (fun ps s1 e1=>?_)
   have hs1:=(p1 ps s1 e1).2
   have hp:=toks_getD (p2 ps s1 e1) 8
   have hq:Okq ts (if 8 < ps.length then passP 73 (ps.getD 8 noTk).2 s1 else s1):=by
    split
    ·exact hs1.pass hp
    ·exact hs1
   dsimp only
   generalize (if 8 < ps.length then passP 73 (ps.getD 8 noTk).2 s1 else s1)=s2 at *
   have rest:∀ s3,Okq ts s3→Bd (bindP (temporariesP ts f s3) fun tm s4=>bindP (bodyP ts f 11 s4) fun l s5 =>
    some (.ok (Nd.mk 12 [] ps.length (hdT ts s).2 ((ps++tm).map (·.1.text)) ((ps++tm).map (·.2)) l) s5)):=fun s3 h3=>Bd.bind (temporaries_bd f h3) (fun tm s4 e4=>Bd.bind (ih.body 11 s4 (temporaries_pq f h3 tm s4 e4).2) (fun l s5 _=>Bd.ok))
   by_cases hc:0 < ps.length∧standsP ts 11 s2=false
   ·rw [if_pos hc]
    unfold needP
    by_cases hb:standsP ts 12 s2=true
    ·rw [if_pos hb]; exact rest _ (hq.take (by rw [stands_kind hb]; decide))
    ·rw [if_neg hb]; exact Bd.bad hq
   ·rw [if_neg hc]; exact rest _ hq
  ·intro s h
   unfold statementP
   split
   ·rename_i hk
    exact Bd.bind (ih.expr _ (h.take (by rw [stands_kind hk]; decide))) (fun n s1 _=>Bd.ok)
   ·exact ih.expr s h
  ·intro fin s h
   unfold bodyP
   have hpg:∀ (acc:List Nd) (s:Ps),Okq ts s→((fun s=>(!standsP ts fin s,s)) s:Bool × Ps).1=true→Pg ts s ((fun acc s=>if retd acc=true then some (.bad (hdT ts s)) else statementP ts f s) acc s):=fun acc s hs _=>by
    dsimp only
    split
    ·exact Pg.bad
    ·exact pg.stmt s hs
   refine Bd.bind (listA_bd (btw:=16) (by decide) (fun s hs=>⟨Nat.le_refl _,hs⟩) hpg (fun acc s hs _=>by
    dsimp only
    split
    ·exact Bd.bad hs
    ·exact ih.stmt s hs) f [] s h) (fun l s1 e1=>?_)
   have hs1:=((listA_pg (btw:=16) (by decide) (fun s hs=>⟨Nat.le_refl _,hs⟩) hpg f [] s h).1 l s1 e1).2
   exact Bd.need hs1 (fun _=>Bd.ok)
theorem rest_bd {ts:Ts} {f:Nat} {ps:Ts} {s:Ps} (h:Okq ts s):Bd (restP ts f ps s):=by
 unfold restP
 exact Bd.bind (temporaries_bd f h) (fun tm s1 e1=>Bd.bind ((bd_all ts f).body 18 s1 (temporaries_pq f h tm s1 e1).2) (fun l s2 _=>Bd.ok))
theorem rest_place {ts:Ts} {f:Nat} {ps:Ts} {s s':Ps} {t:Src} (h:Okq ts s) (e:restP ts f ps s=some (.ok t s')):s'.place≤4096:=by
 unfold restP at e
 obtain ⟨tm,s1,e1,e2⟩:=bindP_ok e
 obtain ⟨l,s2,e3,e4⟩:=bindP_ok e2
 injection e4 with e4; injection e4 with _ e4; subst e4
 have hs1:=(temporaries_pq f h tm s1 e1).2
 cases f with
 | zero=>unfold bodyP at e3; cases e3
 | succ f =>
  unfold bodyP at e3
  obtain ⟨l0,s3,e5,e6⟩:=bindP_ok e3
  have hpg:∀ (acc:List Nd) (s:Ps),Okq ts s→((fun s=>(!standsP ts 18 s,s)) s:Bool × Ps).1=true→Pg ts s ((fun acc s=>if retd acc=true then some (.bad (hdT ts s)) else statementP ts f s) acc s):=fun acc s hs _=>by
   dsimp only
   split
   ·exact Pg.bad
   ·exact (pg_all ts f).stmt s hs
  have hs3:=((listA_pg (btw:=16) (by decide) (fun s hs=>⟨Nat.le_refl _,hs⟩) hpg f [] s1 hs1).1 l0 s3 e5).2
  unfold needP at e6
  by_cases c:standsP ts 18 s3=true
  ·rw [if_pos c] at e6
   injection e6 with e6; injection e6 with _ e6; subst e6
   exact (boundP_ok (x:=hdT ts s3) hs3.ok.place hs3.txt.2).1
  ·rw [if_neg c] at e6; injection e6 with e6; cases e6
theorem Reads.place {m:Bool} {l:Bs} {r:Option Src} {c a:Nat} (h:Reads m l r c a):(∃ ts,LexR l ts 0 0)→a≤4096:=by
 rintro ⟨ts',hl'⟩
 obtain ⟨ts,c0,a0,h1,h2⟩:=h
 obtain ⟨rfl,rfl,rfl⟩:=hl'.unique h1
 rcases h2 with ⟨h2,_⟩ | ⟨_,h2⟩
 ·exact absurd rfl h2
 have hok:=h1.okq.1
 have ho:∀ (k:Nat) s,k≤3→Okq ts s→Pq ts s ((fun _ s=>some (needP ts 1 s)) k s):=fun k s _ hs=>(Pg.need hs (by decide)).q
 rcases readP_cases h2 with ⟨x,hx,_,_,rfl⟩ | ⟨t,s,hx,⟨_,_,_,rfl⟩ | ⟨_,_,_,rfl⟩⟩
 ·cases m with
  | false=>exact rest_bd (ps:=[]) hok x hx
  | true =>
   have hx':methodP ts (fuelT ts) s0=some (.bad x):=hx
   refine Bd.bind (worded_bd ho (fun k s _ hs=>Bd.need1 hs) (fuelT ts) s0 hok) (fun y s1 e1=>?_) x hx'
   exact Bd.bind (rest_bd (worded_pg ho (fuelT ts) s0 hok y s1 e1).2) (fun t s2 _=>Bd.ok)
 ·exact Nat.zero_le _
 ·cases m with
  | false=>exact rest_place (ps:=[]) hok hx
  | true =>
   have hx':methodP ts (fuelT ts) s0=some (.ok t s):=hx
   unfold methodP at hx'
   obtain ⟨y,s1,e1,e2⟩:=bindP_ok hx'
   obtain ⟨t0,s2,e3,e4⟩:=bindP_ok e2
   injection e4 with e4; injection e4 with _ e4; subst e4
   exact rest_place (worded_pg ho (fuelT ts) s0 hok y s1 e1).2 e3
theorem ba_tl (a b:Bs):((ba a).toList == (ba b).toList)=decide (a=b):=by
 rw [tl_lst,tl_lst,lst_ba,lst_ba]
 rw [Bool.eq_iff_iff]
 simp
theorem list_ext_getD {l l':List Bs} (hn:l.length=l'.length) (h:∀ j,j < l.length→l.getD j []=l'.getD j []):l=l':=by
 refine List.ext_getElem hn (fun i h1 h2=>?_)
 have:=h i h1
 rw [List.getD_eq_getElem?_getD,List.getD_eq_getElem?_getD,List.getElem?_eq_getElem h1,List.getElem?_eq_getElem h2] at this
 exact this
theorem sameTexts_ok (v v':Value) (l l':List Bs) (w:World) (h:RdS w v l) (h':RdS w v' l') (hl:l.length≤140737488355328) (hl':l'.length≤140737488355328):Calls Tryz.prog 26 #[v,v'] w (RB (decide (l=l')) w):=by
 obtain ⟨p,c,rfl,hc,hp⟩:=h
 obtain ⟨p',c',rfl,hc',hp'⟩:=h'
 by_cases hn:l.length=l'.length
 rotate_left
 ·have hne:¬ ((l.length:Int)=l'.length):=by omega
  have hne2:((l.length:Int) != l'.length)=true:=by simp; omega
  have hE:Hid (decide (l=l')=false):=mkHid (decide_eq_false (fun e=>hn (by rw [e])))
  generalize l.length=n at *
  generalize l'.length=n' at *
  clear hp hp' hn
  go_enter Tryz.func26,Tryz.ntmps26
  go_wp2_with fail
  go_ret
  exact ⟨by rw [hE.out]; rfl,Bl.refl _⟩
 have HP:=mkHid hp
 have HP':=mkHid hp'
 have HX:=mkHid (@list_ext_getD l l' hn)
 have HL:Hid (∀ j,l.getD j []≠l'.getD j []→decide (l=l')=false):=mkHid (fun j h=>decide_eq_false (fun e=>h (by rw [e])))
 have HD:=mkHid (decide_eq_true (p:=l=l'))
 rw [← hn] at HP' hc' ⊢
 generalize hG:l.length=n at *
 generalize decide (l=l')=BB at *
 clear hp hp' hn
 go_enter Tryz.func26,Tryz.ntmps26
 go_wp2_with fail
 go_loopw [5] (fun q wr=>∃ i:Nat,i≤n∧q=.int .i64 i∧Hid (∀ j,j < i→l.getD j []=l'.getD j [])∧Hid (Bl w wr)) (fun q _=>n - (intOf q).toNat)
 case atStart=>exact ⟨0,Nat.zero_le _,rfl,mkHid (fun j hj=>by omega),mkHid (Bl.refl _)⟩
 case round =>
  obtain ⟨i,hi,rfl,hok,hbl⟩:=hrel
  by_cases hin:i < n
  ·have hii:(i:Int) < n:=by omega
   obtain ⟨b,off,rfl,hb,hcs⟩:=HP.out (by omega)
   obtain ⟨b',off',rfl,hb',hcs'⟩:=HP'.out (by omega)
   have x0:wr.cell? ⟨b,off+i,none⟩=some (.string (ba (l.getD i []))):=by rw [World.cell?_of_block (w:=w) (hbl.out.block b hb)]; exact hcs i hin
   have y0:wr.cell? ⟨b',off'+i,none⟩=some (.string (ba (l'.getD i []))):=by rw [World.cell?_of_block (w:=w) (hbl.out.block b' hb')]; exact hcs' i (by omega)
   have hS:=HL.out i
   have hT:=ba_tl (l.getD i []) (l'.getD i [])
   have hJ:Hid (l.getD i []=l'.getD i []→∀ j,j < i+1→l.getD j []=l'.getD j []):=mkHid (fun h j hj=>by
    by_cases he:j=i
    ·rw [he,h]
    ·exact hok.out j (by omega))
   clear HX HL HP HP' hcs hcs' hok HD
   generalize l.getD i []=s at *
   generalize l'.getD i []=t at *
   by_cases hst:s=t
   ·rw [decide_eq_true hst] at hT
    have hJ2:=mkHid (hJ.out hst)
    clear hJ hS hst hb hb'
    generalize ba s=S at *
    generalize ba t=T at *
    go_wp2_with fail
    go_quiet (fail)
    go_wp2_with fail
    go_roundw
    case rel=>exact ⟨i+1,by omega,by go_num,hJ2,mkHid (hbl.out.trans (Bl.drewN _ _))⟩
    case measure=>simp [intOf]; omega
   ·rw [decide_eq_false hst] at hT
    have hE:=mkHid (hS hst)
    clear hJ hS hst hb hb'
    generalize ba s=S at *
    generalize ba t=T at *
    go_wp2_with fail
    go_quiet (fail)
    go_wp2_with fail
    go_ret
    exact ⟨by rw [hE.out]; rfl,hbl.out.trans (Bl.drewN _ _)⟩
  ·have hie:¬ (i:Int) < n:=by omega
   have hE:Hid (BB=true):=mkHid (HD.out (HX.out (fun j hj=>hok.out j (by omega))))
   clear HX HL HP HP' HD hok
   go_wp2_with fail
   go_ret
   exact ⟨by rw [hE.out]; rfl,hbl.out⟩
end Go.Proofs.YtfhkhmgodkheaaaGreatDoor
