import Derived.Test.YtfhkhmgodkheaaaGreatDoorQCG27TNm
import Derived.Test.YtfhkhmgodkheaaaGreatDoorQCG31TTk
import Derived.Shelf.Strings.BuilderK
set_option linter.unusedSimpArgs false
set_option linter.unusedVariables false
set_option maxRecDepth 1000000
set_option maxHeartbeats 16000000
namespace Go.Proofs.YtfhkhmgodkheaaaGreatDoor
open Go.RowKit Go.Maps
def AnsD (lo:Nat) (r:Option Src) (c a:Nat) (e:Ending) (W:World):Prop:=match r with
 | none=>e=.returned (.tuple #[noSrc,.agg #[.int .i64 c,.int .i64 a]])
 | some t=>∃ t0 t1 t2 t3 t4 t5 ft,e=.returned (.tuple #[.agg #[t0,t1,t2,t3,t4,t5],.agg #[.int .i64 c,.int .i64 a]])∧SrM W t (.agg #[t0,t1,t2,t3,t4,t5]) ft∧Apt lo ft
theorem post_any {p:Program} {f:Nat} {vs:Array Value} {w:World} {r:Option Src} {c a:Nat} (h:Calls p f vs w (PostD w r c a)):Calls p f vs w fun e w'=>Bl w w'∧∃ t0 t1 t2 t3 t4 t5 ft,e=.returned (.tuple #[.agg #[t0,t1,t2,t3,t4,t5],.agg #[.int .i64 c,.int .i64 a]])∧(#[t0,t1,t2,t3,t4,t5]:Array Value).all (·.oneCell')=true∧Apt w.heap.size ft ∧
  (∀ W,(∀ t,SrM w' t (.agg #[t0,t1,t2,t3,t4,t5]) ft→SrM W t (.agg #[t0,t1,t2,t3,t4,t5]) ft)→∀ lo:Nat,Apt lo ft→AnsD lo r c a (Ending.returned (.tuple #[.agg #[t0,t1,t2,t3,t4,t5],.agg #[.int .i64 c,.int .i64 a]])) W):=by
 refine h.mono ?_
 rintro e w' ⟨b,h⟩
 refine ⟨b,?_⟩
 cases r with
 | none =>
  dsimp only at h;subst h;exact ⟨_,_,_,_,_,_,[],rfl,by kernel_rfl,Apt.nil _,fun W _ lo _=>rfl⟩
 | some t =>
  obtain ⟨t0,t1,t2,t3,t4,t5,ft,rfl,hs,ha⟩:=h;exact ⟨t0,t1,t2,t3,t4,t5,ft,rfl,hs.all.1,ha,fun W hk lo hl=>⟨t0,t1,t2,t3,t4,t5,ft,rfl,hk t hs,hl⟩⟩
theorem read_doit (src:ByteArray) (r:Option Src) (c a:Nat) (w:World) (hT:Tab w) (hs:src.size≤140737488355328) (h:Reads false (lst src) r c a):Calls Tryz.prog 24 #[.string src,.func (.func 25) #[] #[]] w (PostD w r c a):=by
 have h':=read_all false src r c a w hT hs h
 rwa [if_neg (by decide)] at h'
theorem read_method (src:ByteArray) (r:Option Src) (c a:Nat) (w:World) (hT:Tab w) (hs:src.size≤140737488355328) (h:Reads true (lst src) r c a):Calls Tryz.prog 24 #[.string src,.func (.func 32) #[] #[]] w (PostD w r c a):=by
 have h':=read_all true src r c a w hT hs h
 rwa [if_pos (by decide)] at h'
theorem doit_top (src:ByteArray) (r:Option Src) (c a:Nat) (w:World) (hT:Tab w) (hs:src.size≤140737488355328) (h:Reads false (lst src) r c a):Calls Tryz.prog 10 #[.string src] w (PostD w r c a):=by
 obtain ⟨W1,hW1⟩:∃ X,(w.alloc (.cells #[.string ⟨#[]⟩,.int .i64 0,.int .i64 0,.slice none 0 0,.slice none 0 0,.slice none 0 0] 27)).alloc (.cells #[.int .i64 0,.int .i64 0] 30)=X:=⟨_,rfl⟩
 have b1:Bl w W1:=hW1▸(Bl.alloc _ _).trans (Bl.alloc _ _)
 have s1:W1.heap.size=w.heap.size+2:=by rw [← hW1]; simp
 have g1:W1.heap[w.heap.size]?=some z6:=by rw [← hW1,Below.heap_alloc _ _ _ (by simp)]; exact heap_alloc_new w _
 have g2:W1.heap[w.heap.size+1]?=some (.cells #[.int .i64 0,.int .i64 0] 30 (0,0)):=by
  have:=heap_alloc_new (w.alloc (.cells #[.string ⟨#[]⟩,.int .i64 0,.int .i64 0,.slice none 0 0,.slice none 0 0,.slice none 0 0] 27)) (.cells #[.int .i64 0,.int .i64 0] 30);rw [show (w.alloc (.cells #[.string ⟨#[]⟩,.int .i64 0,.int .i64 0,.slice none 0 0,.slice none 0 0,.slice none 0 0] 27)).heap.size=w.heap.size+1 by simp,hW1] at this
  exact this
 have HR:=qd (post_any (read_doit src r c a W1 (hT.mono b1) hs h))
 have G1:=qd g1
 have G2:=qd g2
 have B1:=qd b1
 have S1:=qd s1
 clear h hs hT b1 s1 g1 g2
 go_enter Tryz.func10,Tryz.ntmps10
 go_wp2_with (first
  | (
   go_at_call 24; refine HR.out.mono ?_; rintro e w2 ⟨b2,t0,t1,t2,t3,t4,t5,ft,rfl,hall,a2,p2⟩
   have E1:Hid (w2.heap[w.heap.size]?=some (.cells #[.string ⟨#[]⟩,.int .i64 0,.int .i64 0,.slice none 0 0,.slice none 0 0,.slice none 0 0] 27 (0,0))):=qd ((b2.block _ (qf G1.out)).trans G1.out);have E2:=qd ((b2.block _ (qf G2.out)).trans G2.out);obtain ⟨W3,hW3⟩:∃ X,w2.setRow w.heap.size #[t0,t1,t2,t3,t4,t5]=X:=⟨_,rfl⟩;have f3:Fr [w.heap.size] w2 W3:=hW3▸qG _ _ _;have k1:W3.heap[w.heap.size]?=some (.cells #[t0,t1,t2,t3,t4,t5] 27 (0,0)):=hW3▸setRow_heap _ _ _ _ 27 (0,0) E1.out;have k2:Hid (W3.heap[w.heap.size+1]?=some (.cells #[.int .i64 0,.int .i64 0] 30 (0,0))):=qd ((f3.block _ (qf E2.out) (by simp)).trans E2.out)
   obtain ⟨W4,hW4⟩:∃ X,W3.setRow (w.heap.size+1) #[.int .i64 c,.int .i64 a]=X:=⟨_,rfl⟩;have f4:Fr [w.heap.size+1] W3 W4:=hW4▸qG _ _ _;have l1:=qd ((f4.block _ (qf k1) (by simp)).trans k1)
   have l2:Hid (W4.heap[w.heap.size+1]?=some (.cells #[.int .i64 c,.int .i64 a] 30 (0,0))):=qd (hW4▸setRow_heap _ _ _ _ 30 (0,0) k2.out);have B4:Hid (Bl w W4):=qd ((((Fr.ofBl (B1.out.trans b2) []).trans f3 (by simp)).trans f4 (by simp)).bl (by simp))
   have lo:∀ b∈ft,w.heap.size+1 < b:=fun b hb=>by have:=a2.lo b hb; have:=S1.out; omega
   have P4:=qd (p2 W4 (fun V hV=>(hV.fr f3 (fun b hb=>by have:=lo b hb; simp; omega)).fr f4 (fun b hb=>by have:=lo b hb; simp; omega)))
   have A4:Hid (Apt w.heap.size ft):=qd (a2.mono (by have:=S1.out; omega))
   have HAll:=qd hall;clear b2 f3 k1 f4 lo p2 a2 hall)
  | (refine wpList_store_row rfl 27 _ _ rfl w.heap.size #[t0,t1,t2,t3,t4,t5] rfl rfl 27 _ E1.out (by kernel_rfl) rfl HAll.out ?_; rw [hW3])
  | (refine wpList_store_row rfl 30 _ _ rfl (w.heap.size+1) #[.int .i64 c,.int .i64 a] rfl rfl 30 _ k2.out (by kernel_rfl) rfl (by kernel_rfl) ?_; rw [hW4]))
 obtain ⟨x0,x1,x2,x3,x4,x5⟩:=jo l1.out
 have y0:W4.cell? ⟨w.heap.size+1,0,none⟩=some (.int .i64 c):=by rw [qh l2.out]; rfl
 have y1:W4.cell? ⟨w.heap.size+1,1,none⟩=some (.int .i64 a):=by rw [qh l2.out]; rfl
 refine bodyPost_ret (v:=.tuple #[.agg #[t0,t1,t2,t3,t4,t5],.agg #[.int .i64 c,.int .i64 a]]) (by simp [results,Tryz.results10,go_sem,x0,x1,x2,x3,x4,x5,y0,y1]) rfl ?_
 exact ⟨B4.out,P4.out _ A4.out⟩
theorem method_top (src:ByteArray) (r:Option Src) (c a:Nat) (w:World) (hT:Tab w) (hs:src.size≤140737488355328) (h:Reads true (lst src) r c a):Calls Tryz.prog 23 #[.string src] w (PostD w r c a):=by
 obtain ⟨W1,hW1⟩:∃ X,(w.alloc (.cells #[.string ⟨#[]⟩,.int .i64 0,.int .i64 0,.slice none 0 0,.slice none 0 0,.slice none 0 0] 27)).alloc (.cells #[.int .i64 0,.int .i64 0] 30)=X:=⟨_,rfl⟩
 have b1:Bl w W1:=hW1▸(Bl.alloc _ _).trans (Bl.alloc _ _)
 have s1:W1.heap.size=w.heap.size+2:=by rw [← hW1]; simp
 have g1:W1.heap[w.heap.size]?=some z6:=by rw [← hW1,Below.heap_alloc _ _ _ (by simp)]; exact heap_alloc_new w _
 have g2:W1.heap[w.heap.size+1]?=some (.cells #[.int .i64 0,.int .i64 0] 30 (0,0)):=by
  have:=heap_alloc_new (w.alloc (.cells #[.string ⟨#[]⟩,.int .i64 0,.int .i64 0,.slice none 0 0,.slice none 0 0,.slice none 0 0] 27)) (.cells #[.int .i64 0,.int .i64 0] 30);rw [show (w.alloc (.cells #[.string ⟨#[]⟩,.int .i64 0,.int .i64 0,.slice none 0 0,.slice none 0 0,.slice none 0 0] 27)).heap.size=w.heap.size+1 by simp,hW1] at this
  exact this
 have HR:=qd (post_any (read_method src r c a W1 (hT.mono b1) hs h))
 have G1:=qd g1
 have G2:=qd g2
 have B1:=qd b1
 have S1:=qd s1
 clear h hs hT b1 s1 g1 g2
 go_enter Tryz.func23,Tryz.ntmps23
 go_wp2_with (first
  | (
   go_at_call 24; refine HR.out.mono ?_; rintro e w2 ⟨b2,t0,t1,t2,t3,t4,t5,ft,rfl,hall,a2,p2⟩
   have E1:Hid (w2.heap[w.heap.size]?=some (.cells #[.string ⟨#[]⟩,.int .i64 0,.int .i64 0,.slice none 0 0,.slice none 0 0,.slice none 0 0] 27 (0,0))):=qd ((b2.block _ (qf G1.out)).trans G1.out);have E2:=qd ((b2.block _ (qf G2.out)).trans G2.out);obtain ⟨W3,hW3⟩:∃ X,w2.setRow w.heap.size #[t0,t1,t2,t3,t4,t5]=X:=⟨_,rfl⟩;have f3:Fr [w.heap.size] w2 W3:=hW3▸qG _ _ _;have k1:W3.heap[w.heap.size]?=some (.cells #[t0,t1,t2,t3,t4,t5] 27 (0,0)):=hW3▸setRow_heap _ _ _ _ 27 (0,0) E1.out;have k2:Hid (W3.heap[w.heap.size+1]?=some (.cells #[.int .i64 0,.int .i64 0] 30 (0,0))):=qd ((f3.block _ (qf E2.out) (by simp)).trans E2.out)
   obtain ⟨W4,hW4⟩:∃ X,W3.setRow (w.heap.size+1) #[.int .i64 c,.int .i64 a]=X:=⟨_,rfl⟩;have f4:Fr [w.heap.size+1] W3 W4:=hW4▸qG _ _ _;have l1:=qd ((f4.block _ (qf k1) (by simp)).trans k1)
   have l2:Hid (W4.heap[w.heap.size+1]?=some (.cells #[.int .i64 c,.int .i64 a] 30 (0,0))):=qd (hW4▸setRow_heap _ _ _ _ 30 (0,0) k2.out);have B4:Hid (Bl w W4):=qd ((((Fr.ofBl (B1.out.trans b2) []).trans f3 (by simp)).trans f4 (by simp)).bl (by simp))
   have lo:∀ b∈ft,w.heap.size+1 < b:=fun b hb=>by have:=a2.lo b hb; have:=S1.out; omega
   have P4:=qd (p2 W4 (fun V hV=>(hV.fr f3 (fun b hb=>by have:=lo b hb; simp; omega)).fr f4 (fun b hb=>by have:=lo b hb; simp; omega)))
   have A4:Hid (Apt w.heap.size ft):=qd (a2.mono (by have:=S1.out; omega))
   have HAll:=qd hall;clear b2 f3 k1 f4 lo p2 a2 hall)
  | (refine wpList_store_row rfl 27 _ _ rfl w.heap.size #[t0,t1,t2,t3,t4,t5] rfl rfl 27 _ E1.out (by kernel_rfl) rfl HAll.out ?_; rw [hW3])
  | (refine wpList_store_row rfl 30 _ _ rfl (w.heap.size+1) #[.int .i64 c,.int .i64 a] rfl rfl 30 _ k2.out (by kernel_rfl) rfl (by kernel_rfl) ?_; rw [hW4]))
 obtain ⟨x0,x1,x2,x3,x4,x5⟩:=jo l1.out
 have y0:W4.cell? ⟨w.heap.size+1,0,none⟩=some (.int .i64 c):=by rw [qh l2.out]; rfl
 have y1:W4.cell? ⟨w.heap.size+1,1,none⟩=some (.int .i64 a):=by rw [qh l2.out]; rfl
 refine bodyPost_ret (v:=.tuple #[.agg #[t0,t1,t2,t3,t4,t5],.agg #[.int .i64 c,.int .i64 a]]) (by simp [results,Tryz.results23,go_sem,x0,x1,x2,x3,x4,x5,y0,y1]) rfl ?_
 exact ⟨B4.out,P4.out _ A4.out⟩
theorem takes_any (t:Bs) (w:World):Calls Tryz.prog 35 #[.string (ba t)] w fun e w'=>e=.returned (.tuple (tkV t))∧Bl w w':=by
 by_cases h:t.length≤268435456
 ·exact takes_all t w h
 ·have:=takes_long t w (by omega)
  unfold tkV jB;rw [if_pos (by omega)]
  exact this
structure TrM (w:World) (t:Tr) (a sn sp sb:Value):Prop where
 rs:RdS w sn t.names
 rn:RdN w sb t.body
 nl:t.names.length≤140737488355328
 one:a.oneCell'=true∧sp.oneCell'=true
def trV (t:Tr) (a sn sp sb:Value):Value:=.agg #[.string (ba t.sel),a,.int .i64 t.params,sn,sp,sb]
theorem TrM.keep {w w':World} {t:Tr} {a sn sp sb:Value} (h:TrM w t a sn sp sb) (b:Bl w w'):TrM w' t a sn sp sb:=⟨h.rs.keep b,h.rn.keep b,h.nl,h.one⟩
theorem isTree_k (t:Tr) (a sn sp sb:Value) (c:Nat) (w:World) (hE:Env w) (h:TrM w t a sn sp sb) (hc8:c≤8) (hc:(t.sel=[]∧c=0)∨(t.sel≠[]∧jB t.sel=some c)):Calls Tryz.prog 27 #[trV t a sn sp sb] w (RB (decide (t.params=c) && (decide (c≤t.names.length) && (nmsB t.names && jF t.body 0))) w):=by
 obtain ⟨pn,cn,en,hcn,_⟩:=h.rs
 have HT:=qd (takes_any t.sel)
 unfold tkV at HT
 obtain ⟨W1,hW1⟩:∃ X,w.alloc (.cells #[.string (ba t.sel),a,.int .i64 t.params,sn,sp,sb] 27)=X:=⟨_,rfl⟩
 have b1:Bl w W1:=hW1▸Bl.alloc _ _
 have g1:W1.heap[w.heap.size]?=some (.cells #[.string (ba t.sel),a,.int .i64 t.params,sn,sp,sb] 27 (0,0)):=hW1▸heap_alloc_new w _
 have HC:Hid (∀ V,Bl W1 V→V.cell? ⟨w.heap.size,0,none⟩=some (.string (ba t.sel))∧V.cell? ⟨w.heap.size,2,none⟩=some (.int .i64 t.params)∧V.cell? ⟨w.heap.size,3,none⟩=some sn∧V.cell? ⟨w.heap.size,5,none⟩=some sb):=qd (fun V bl=>by
  obtain ⟨x0,x1,x2,x3,x4,x5⟩:=jo ((bl.block _ (qf g1)).trans g1);exact ⟨x0,x2,x3,x5⟩)
 have HN:=qd (fun V (bl:Bl W1 V)=>areNames_ok sn t.names V (h.rs.keep (b1.trans bl)) h.nl)
 have HB:=qd (fun V (bl:Bl W1 V)=>body_all takes_all sb t.body 0 V (by omega) (hE.mono (b1.trans bl)) (h.rn.keep (b1.trans bl)))
 have B1:=qd b1
 have hbe:=ba_empty t.sel
 unfold trV
 obtain ⟨d0,d1,d2,d3⟩:=HC.out W1 (Bl.refl _)
 have o1:=h.one
 subst en
 have nl:=h.nl
 generalize nmsB t.names=NB at *
 generalize jF t.body 0=BB at *
 generalize t.names.length=ln at *
 generalize t.params=pr at *
 have hgp:Hid ((pr=(c:Int)∧decide (pr=(c:Int))=true∧(pr == (c:Int))=true)∨(decide (pr=(c:Int))=false∧(pr == (c:Int))=false)):=qd (by
  by_cases hp:pr=(c:Int)
  ·exact Or.inl ⟨hp,decide_eq_true hp,beq_iff_eq.2 hp⟩
  ·exact Or.inr ⟨decide_eq_false hp,beq_eq_false_iff_ne.2 hp⟩)
 have hgl:Hid (((c:Int)≤(ln:Int)∧decide (c≤ln)=true)∨(¬ (c:Int)≤(ln:Int)∧decide (c≤ln)=false)):=qd (by
  by_cases hp:c≤ln
  ·exact Or.inl ⟨by omega,decide_eq_true hp⟩
  ·exact Or.inr ⟨by omega,decide_eq_false hp⟩)
 rcases hc with ⟨he,h0⟩ | ⟨he,hk⟩
 ·rw [decide_eq_true he] at hbe
  have hbn:(ba t.sel).toList.isEmpty=true:=by rw [List.isEmpty_iff]; simpa using hbe
  clear hE h HT he hbe;generalize t.sel=ts at *;subst h0;rw [show ((0:Nat):Int)=0 from rfl] at hgp hgl ⊢
  rcases hgp.out with ⟨rfl,dp,qp⟩ | ⟨dp,qp⟩
  rotate_left
  ·have DP:=qd dp
   clear HN HB dp
   go_enter Tryz.func27,Tryz.ntmps27
   go_wp2_with fail
   go_ret
   exact ⟨by first | (rw [DP.out]; rfl) | rfl,B1.out⟩
  have DP:=qd dp
  rcases hgl.out with ⟨ql,dl⟩ | ⟨ql,dl⟩
  rotate_left
  ·exact absurd (Int.natCast_nonneg ln) ql
  have DL:=qd dl;clear dp dl
  cases NB with
  | false =>
   clear HB
   go_enter Tryz.func27,Tryz.ntmps27
   go_wp2_with (first
    | (go_at_call 36; refine (HN.out _ (Bl.refl _)).mono ?_; rintro e w1 ⟨rfl,b1⟩; obtain ⟨k0,k1,k2,k3⟩:=HC.out _ b1))
   go_ret
   exact ⟨by first | (rw [DP.out,DL.out]; rfl) | (rw [DP.out]; rfl) | rfl,B1.out.trans b1⟩
  | true =>
   go_enter Tryz.func27,Tryz.ntmps27
   go_wp2_with (first
    | (go_at_call 36; refine (HN.out _ (Bl.refl _)).mono ?_; rintro e w1 ⟨rfl,b1⟩; obtain ⟨k0,k1,k2,k3⟩:=HC.out _ b1)
    | (go_at_call 37; refine (HB.out _ (b1)).mono ?_; rintro e w2 ⟨rfl,b2⟩))
   go_ret
   exact ⟨by first | (rw [DP.out,DL.out]; rfl) | (rw [DP.out]; rfl) | rfl,(B1.out.trans b1).trans b2⟩
 ·rw [decide_eq_false he] at hbe
  have hbn:((ba t.sel).toList != [])=true:=by rw [bne_iff_ne]; simpa using hbe
  rw [hk] at HT;dsimp only at HT;clear hE h he hk;generalize t.sel=ts at *
  rcases hgp.out with ⟨rfl,dp,qp⟩ | ⟨dp,qp⟩
  rotate_left
  ·have DP:=qd dp
   clear HN HB dp
   go_enter Tryz.func27,Tryz.ntmps27
   go_wp2_with (first
    | (go_at_call 35; refine (HT.out _).mono ?_; rintro e w0 ⟨rfl,bl0⟩; obtain ⟨j0,j1,j2,j3⟩:=HC.out _ bl0))
   go_ret
   exact ⟨by first | (rw [DP.out]; rfl) | rfl,(B1.out.trans bl0)⟩
  have DP:=qd dp
  rcases hgl.out with ⟨ql,dl⟩ | ⟨ql,dl⟩
  rotate_left
  ·have DL:=qd dl
   clear HN HB dp dl
   go_enter Tryz.func27,Tryz.ntmps27
   go_wp2_with (first
    | (go_at_call 35; refine (HT.out _).mono ?_; rintro e w0 ⟨rfl,bl0⟩; obtain ⟨j0,j1,j2,j3⟩:=HC.out _ bl0))
   go_ret
   exact ⟨by first | (rw [DP.out,DL.out]; rfl) | (rw [DP.out]; rfl) | rfl,(B1.out.trans bl0)⟩
  have DL:=qd dl;clear dp dl
  cases NB with
  | false =>
   clear HB
   go_enter Tryz.func27,Tryz.ntmps27
   go_wp2_with (first
    | (go_at_call 35; refine (HT.out _).mono ?_; rintro e w0 ⟨rfl,bl0⟩; obtain ⟨j0,j1,j2,j3⟩:=HC.out _ bl0)
    | (go_at_call 36; refine (HN.out _ bl0).mono ?_; rintro e w1 ⟨rfl,b1⟩; obtain ⟨k0,k1,k2,k3⟩:=HC.out _ (bl0.trans b1)))
   go_ret
   exact ⟨by first | (rw [DP.out,DL.out]; rfl) | (rw [DP.out]; rfl) | rfl,(B1.out.trans bl0).trans b1⟩
  | true =>
   go_enter Tryz.func27,Tryz.ntmps27
   go_wp2_with (first
    | (go_at_call 35; refine (HT.out _).mono ?_; rintro e w0 ⟨rfl,bl0⟩; obtain ⟨j0,j1,j2,j3⟩:=HC.out _ bl0)
    | (go_at_call 36; refine (HN.out _ bl0).mono ?_; rintro e w1 ⟨rfl,b1⟩; obtain ⟨k0,k1,k2,k3⟩:=HC.out _ (bl0.trans b1))
    | (go_at_call 37; refine (HB.out _ (bl0.trans b1)).mono ?_; rintro e w2 ⟨rfl,b2⟩))
   go_ret
   exact ⟨by first | (rw [DP.out,DL.out]; rfl) | (rw [DP.out]; rfl) | rfl,((B1.out.trans bl0).trans b1).trans b2⟩
theorem isTree_n (t:Tr) (a sn sp sb:Value) (w:World) (ho:a.oneCell'=true∧sp.oneCell'=true) (he:t.sel≠[]) (hk:jB t.sel=none):Calls Tryz.prog 27 #[trV t a sn sp sb] w (RB false w):=by
 have HT:=qd (takes_any t.sel)
 unfold tkV at HT
 rw [hk] at HT
 dsimp only at HT
 obtain ⟨W1,hW1⟩:∃ X,w.alloc (.cells #[.string (ba t.sel),a,.int .i64 t.params,sn,sp,sb] 27)=X:=⟨_,rfl⟩
 have b1:=qd (show Bl w W1 from hW1▸Bl.alloc _ _)
 have g1:W1.heap[w.heap.size]?=some (.cells #[.string (ba t.sel),a,.int .i64 t.params,sn,sp,sb] 27 (0,0)):=hW1▸heap_alloc_new w _
 obtain ⟨d0,d1,d2,d3,d4,d5⟩:=jo g1
 have hbe:=ba_empty t.sel
 rw [decide_eq_false he] at hbe
 have hbn:((ba t.sel).toList != [])=true:=by rw [bne_iff_ne]; simpa using hbe
 unfold trV
 generalize t.sel=ts at *
 clear he hk g1
 go_enter Tryz.func27,Tryz.ntmps27
 go_wp2_with (go_at_call 35; refine (HT.out _).mono ?_; rintro e w0 ⟨rfl,bl0⟩)
 go_ret
 exact ⟨rfl,b1.out.trans bl0⟩
theorem isTree_ok (t:Tr) (a sn sp sb:Value) (w:World) (hE:Env w) (h:TrM w t a sn sp sb):Calls Tryz.prog 27 #[trV t a sn sp sb] w (RB (treeB t) w):=by
 unfold treeB
 by_cases he:t.sel=[]
 ·rw [if_pos he]
  exact isTree_k t a sn sp sb 0 w hE h (by omega) (Or.inl ⟨he,rfl⟩)
 ·rw [if_neg he]
  cases hk:jB t.sel with
  | none=>exact isTree_n t a sn sp sb w h.one he hk
  | some c=>exact isTree_k t a sn sp sb c w hE h (takes_rank hk).2.2 (Or.inr ⟨he,hk⟩)
def WtA (B b:Nat) (p v:Value) (l:Bs) (w:World):Prop:=B≤b∧w.heap[b]?=some (.cells #[p,v] 88 (0,0))∧w.ownsRowF B 5 1 v l.length (Lib.byteCells l)∧v.ownBlock≠some b∧(l=[]→v=.slice none 0 0)
def Wt (B b:Nat) (l:Bs) (w:World):Prop:=∃ p v,(p=.pointer none∨p=.pointer (some ⟨b,0,none⟩))∧WtA B b p v l w
theorem info86:(Tryz.prog.info? 86).map (·.size)=some 2:=by kernel_rfl
theorem lies88:liesAt Tryz.prog Tryz.prog.depth 88 (2 / Tryz.prog.cellsOf 88) 0 86 1=true:=by kernel_rfl
theorem und84:Tryz.prog.underlying 84=some (.pointer 86):=by kernel_rfl
theorem und158:Tryz.prog.underlying 158=some .unsafePointer:=by kernel_rfl
theorem cc_used (b:Nat) (w:World) (h0:w.cell? ⟨b,0,none⟩=some (.pointer (some ⟨b,0,none⟩))):Calls Tryz.prog 130 #[.pointer (some ⟨b,0,none⟩)] w fun e w'=>e=.returned (.tuple #[])∧w'=w:=by
 obtain ⟨j,hj,_⟩:=Option.map_eq_some_iff.1 info86
 go_enter Tryz.func130,Tryz.ntmps130
 go_wp2
 rw [Lib.run_neq_ptr_same w _ und84 hj]
 go_wp2
 go_end0
 exact ⟨rfl,rfl⟩
theorem cc_fresh (b:Nat) (w:World) (h0:w.cell? ⟨b,0,none⟩=some (.pointer none)) (hsh:w.shape? b=some (88,2)) (hfz:w.frozen? ⟨b,0,none⟩=false):Calls Tryz.prog 130 #[.pointer (some ⟨b,0,none⟩)] w fun e w'=>e=.returned (.tuple #[])∧w'=w.setCell ⟨b,0,none⟩ (.pointer (some ⟨b,0,none⟩)):=by
 obtain ⟨j,hj,hjs⟩:=Option.map_eq_some_iff.1 info86
 go_enter Tryz.func130,Tryz.ntmps130
 go_wp2
 rw [Lib.run_to_unsafe w ⟨b,0,none⟩ und84 und158 hj (by rw [hjs]; decide) hsh (Nat.zero_lt_succ 1)]
 simp only [Result.andThen]
 rw [Oper.upon_value]
 go_wp2
 rw [run_callFunc_extern Tryz.func146 (by kernel_rfl) (by kernel_rfl) (by kernel_rfl) (e:=Extern.AbiNoEscape.same) (by kernel_rfl)]
 rw [Lib.run_noEscape]
 simp only [Result.andThen]
 rw [Oper.upon_value]
 go_wp2
 rw [Lib.run_from_unsafe w ⟨b,0,none⟩ und158 und84 hj hsh lies88]
 simp only [Result.andThen]
 rw [Oper.upon_value]
 go_wp2
 go_end0
 exact ⟨rfl,rfl⟩
theorem ownF_set {w:World} {B b n:Nat} {v x:Value} {xs:List Value} {i:Nat} (h:w.ownsRowF B 5 1 v n xs) (hne:v.ownBlock≠some b):(w.setCell ⟨b,i,none⟩ x).ownsRowF B 5 1 v n xs :=
 h.kept (row:=some b) ⟨rfl,rfl,rfl,by simp [World.setCell],fun k _ hk=>Below.heap_setCell _ _ _ _ (fun e=>hk (by simp [e]))⟩ (Or.inr hne)
theorem cc_ok (B b:Nat) (l:Bs) (w:World) (h:Wt B b l w):Calls Tryz.prog 130 #[.pointer (some ⟨b,0,none⟩)] w fun e w'=>e=.returned (.tuple #[])∧(∃ v,WtA B b (.pointer (some ⟨b,0,none⟩)) v l w')∧Below B w w'∧Lib.OthersKept 5 (some b) w w':=by
 obtain ⟨p,v,hp,hB,hb,ho,hn,hz⟩:=h
 rcases hp with rfl | rfl
 ·refine (cc_fresh b w (by rw [qh hb]; rfl) (by simp [World.shape?,hb]) (qK hb 0)).mono ?_
  rintro e w' ⟨rfl,rfl⟩;exact ⟨rfl,⟨v,hB,zc hb 0 _,ownF_set ho hn,hn,hz⟩,(Below.refl B w).setCell (p:=⟨b,0,none⟩) hB _,(Lib.OthersKept.refl _ _ w).setCell ⟨b,0,none⟩ rfl _⟩
 ·refine (cc_used b w (by rw [qh hb]; rfl)).mono ?_
  rintro e w' ⟨rfl,hw⟩;subst hw;exact ⟨rfl,⟨v,hB,hb,ho,hn,hz⟩,Below.refl B _,Lib.OthersKept.refl _ _ _⟩
theorem und73:Tryz.prog.underlying 73=some (.slice 5):=by kernel_rfl
theorem und9:Tryz.prog.underlying 9=some .string:=by kernel_rfl
theorem infoB5:(Tryz.prog.info? 5).map (fun i=>(i.zero,i.size,i.bytes))=some (some (.int .u8 0),1,1):=by kernel_rfl
theorem str_cells (l:Bs):Lib.strCells (ba l)=Lib.byteCells l:=by
 simp [Lib.strCells,Lib.byteCells,ba]
theorem wstr_ok (B b:Nat) (l s:Bs) (w:World) (h:Wt B b l w) (hlen:l.length+s.length≤140737488355328) (hBw:B≤w.heap.size) :
  Calls Tryz.prog 108 #[.pointer (some ⟨b,0,none⟩),.string (ba s)] w fun e w'=>(∃ x,e=.returned x)∧Wt B b (l++s) w'∧Below B w w'∧Lib.OthersKept 5 (some b) w w':=by
 obtain ⟨i0,hi,hz0,hz1,hz2⟩:=info_parts infoB5
 have hss:(ba s).size=s.length:=by rw [← qo,qJ]
 have HC:=qd (cc_ok B b l w h)
 clear h
 go_enter Tryz.func108,Tryz.ntmps108
 go_wp2_with (go_at_call 130; refine HC.out.mono ?_)
 rintro e w1 ⟨rfl,⟨v,hB,hbk,hown,hne,hz⟩,hb1,hk1⟩
 have c0:w1.cell? ⟨b,0,none⟩=some (.pointer (some ⟨b,0,none⟩)):=by rw [qh hbk]; rfl
 have c1:w1.cell? ⟨b,1,none⟩=some v:=by rw [qh hbk]; rfl
 go_wp2_with (at_builtin; refine Lib.wpList_append_own_stringF _ rfl _ _ 73 9 rfl B 5 i0 und73 und9 hi hz0 hz1 hz2 _ _ _ rfl hown (ba s) rfl ?c3 ?c4 ?c5 ?_)
 case c3=>rw [hss]; unfold maxLen; omega
 case c4=>rw [hss]; omega
 case c5=>have:=hb1.size; omega
 intro v' w2 hown' hgrow hiff
 have hlt:b < w1.heap.size:=qf hbk
 have hb2:w2.heap[b]?=some (.cells #[.pointer (some ⟨b,0,none⟩),v] 88 (0,0)):=by
  rw [hgrow.block b hlt (fun e=>hne e.symm)]
  exact hbk
 have d0:w2.cell? ⟨b,0,none⟩=some (.pointer (some ⟨b,0,none⟩)):=by rw [qh hb2]; rfl
 have d1:w2.cell? ⟨b,1,none⟩=some v:=by rw [qh hb2]; rfl
 have f1:w2.frozen? ⟨b,1,none⟩=false:=qK hb2 1
 have hne':=Lib.ownBlock_neF hown' hb2 (by decide)
 obtain ⟨ao,n',cap,rfl⟩:∃ ao n' cap,v'=.slice ao n' cap:=by
  rcases hown'.2 with ⟨hv,_⟩ | ⟨g,cap,cur,fz,hv,_⟩
  ·exact ⟨_,_,_,hv⟩
  ·exact ⟨_,_,_,hv⟩
 rw [str_cells] at hown'
 have hw1:=qd hown'
 have hif:=qd hiff
 clear hown' hiff
 go_wp2
 go_ret2
 refine ⟨⟨_,rfl⟩,⟨_,_,Or.inr rfl,hB,zc hb2 1 _,?_,hne',?_⟩,?_,(hk1.grown hgrow (Lib.ownsRowF_kind hown)).setCell ⟨b,1,none⟩ rfl _⟩
 ·have:=ownF_set (b:=b) (i:=1) (x:=.slice ao n' cap) hw1.out hne'
  simpa [Lib.byteCells] using this
 ·intro he
  have hl:l=[]:=(List.append_eq_nil_iff.1 he).1;have hs:s=[]:=(List.append_eq_nil_iff.1 he).2;exact hif.out.2 ⟨hz hl,by first | (rw [hss,hs]; rfl) | (rw [hs]; rfl) | (subst hs; rfl)⟩
 ·exact (hb1.grown hgrow (by have:=hb1.size; omega) (fun k hk=>(hown.lt k hk).1)).setCell (p:=⟨b,1,none⟩) hB _
theorem blen_ok (B b:Nat) (l:Bs) (w:World) (h:Wt B b l w):Calls Tryz.prog 107 #[.pointer (some ⟨b,0,none⟩)] w fun e w'=>e=.returned (.int .i64 (l.length:Nat))∧w'=w:=by
 obtain ⟨p,v,hp,hB,hbk,hown,hne,hz⟩:=h
 have c1:w.cell? ⟨b,1,none⟩=some v:=by rw [qh hbk]; rfl
 obtain ⟨ao,cap,rfl⟩:∃ ao cap,v=.slice ao l.length cap:=by
  rcases hown.2 with ⟨hv,h0⟩ | ⟨g,cap,cur,fz,hv,_⟩
  ·exact ⟨none,0,by rw [hv,h0]⟩
  ·exact ⟨_,cap,hv⟩
 clear hp hB hbk hown hne hz
 go_enter Tryz.func107,Tryz.ntmps107
 go_wp2
 go_ret
 exact ⟨rfl,rfl⟩
structure Wk (w0:World) (b:Nat) (l':Bs) (w w':World):Prop where
 wt:Wt w0.heap.size b l' w'
 low:Below w0.heap.size w w'
 oth:Lib.OthersKept 5 (some b) w w'
theorem Wk.bl {w0 w w':World} {b:Nat} {l':Bs} (h:Wk w0 b l' w w') (hb:Bl w0 w):Bl w0 w':=Below.trans hb h.low
theorem Wk.trans {w0 w w' w'':World} {b:Nat} {l1 l2:Bs} (h:Wk w0 b l1 w w') (k:Wk w0 b l2 w' w''):Wk w0 b l2 w w'':=⟨k.wt,h.low.trans k.low,h.oth.trans k.oth⟩
theorem Wk.refl {w0 w:World} {b:Nat} {l:Bs} (h:Wt w0.heap.size b l w):Wk w0 b l w w:=⟨h,Below.refl _ _,Lib.OthersKept.refl _ _ _⟩
def RW (w0:World) (b:Nat) (l':Bs) (w:World) (e:Ending) (w':World):Prop:=e=.returned (.tuple #[])∧Wk w0 b l' w w'
theorem jz (w0:World) (b:Nat) (l s:Bs) (w:World) (hb:Bl w0 w) (h:Wt w0.heap.size b l w) (hs:s.length≤70368744177664):Calls Tryz.prog 68 #[.pointer (some ⟨b,0,none⟩),.string (ba s)] w (RW w0 b (zU l s) w):=by
 have HL:=qd (blen_ok _ b l w h)
 have h0:=h
 by_cases hl:l.length≤4096
 ·have HW:=qd (wstr_ok _ b l s w h (by omega) hb.size)
  have q:(l.length:Int)≤4096:=by omega
  have e:Hid (zU l s=l++s):=qd (if_pos hl);obtain ⟨p,v,hp,hB,hbk,_⟩:=h;have hblt:=qf hbk;clear h0 hl hp hB hbk hs
  go_enter Tryz.func68,Tryz.ntmps68
  go_wp2_with (first
   | (go_at_call 107; refine HL.out.mono ?_; rintro e w1 ⟨rfl,hw⟩; have h3:=hw.symm; subst h3)
   | (go_at_call 108; refine HW.out.mono ?_; rintro e w2 ⟨⟨x,rfl⟩,q1,q2,q3⟩))
  go_end0
  exact ⟨rfl,by rw [e.out]; exact q1,q2,q3⟩
 ·have q:¬ (l.length:Int)≤4096:=by omega
  have e:Hid (zU l s=l):=qd (if_neg hl);have H0:=qd h0;obtain ⟨p,v,hp,hB,hbk,_⟩:=h;have hblt:=qf hbk;clear h0 hl hp hB hbk hs
  go_enter Tryz.func68,Tryz.ntmps68
  go_wp2_with (go_at_call 107; refine HL.out.mono ?_; rintro e w1 ⟨rfl,hw⟩; have h3:=hw.symm; subst h3)
  go_end0
  exact ⟨rfl,by rw [e.out]; exact Wk.refl H0.out⟩
theorem Wt.lt {B b:Nat} {l:Bs} {w:World} (h:Wt B b l w):b < w.heap.size:=by
 obtain ⟨p,v,hp,hB,hbk,_⟩:=h
 exact qf hbk
theorem addsP_one (l s:Bs):qH l [s]=zU l s:=rfl
def btwPc (i:Nat) (s:Bs):List Bs:=if 0 < i then [s] else []
theorem between_ok (w0:World) (b:Nat) (l s:Bs) (i:Nat) (w:World) (hb:Bl w0 w) (h:Wt w0.heap.size b l w) (hs:s.length≤70368744177664):Calls Tryz.prog 106 #[.pointer (some ⟨b,0,none⟩),.int .i64 i,.string (ba s)] w (RW w0 b (qH l (btwPc i s)) w):=by
 have HA:=qd (jz w0 b l s w hb h hs)
 have H:=qd h
 by_cases hi:0 < i
 ·have q:(0:Int) < i:=by omega
  have e:Hid (qH l (btwPc i s)=zU l s):=qd (by unfold btwPc; rw [if_pos hi]; rfl)
  clear h hi
  go_enter Tryz.func106,Tryz.ntmps106
  go_wp2_with (go_at_call 68; refine HA.out.mono ?_; rintro e w1 ⟨rfl,b1⟩)
  go_end0
  exact ⟨rfl,by rw [e.out]; exact b1⟩
 ·have q:¬ (0:Int) < i:=by omega
  have e:Hid (qH l (btwPc i s)=l):=qd (by unfold btwPc; rw [if_neg hi]; rfl)
  clear h hi
  go_enter Tryz.func106,Tryz.ntmps106
  go_wp2_with fail
  go_end0
  exact ⟨rfl,by rw [e.out]; exact Wk.refl H.out⟩
theorem blank_ok (w0:World) (b:Nat) (l:Bs) (t:Bool) (w:World) (hb:Bl w0 w) (h:Wt w0.heap.size b l w):Calls Tryz.prog 69 #[.pointer (some ⟨b,0,none⟩),.bool t] w (RW w0 b (qH l (if t=true then [[32]] else [])) w):=by
 have HA:=qd (jz w0 b l [32] w hb h (by decide))
 have H:=qd h
 cases t with
 | true =>
  clear h
  go_enter Tryz.func69,Tryz.ntmps69
  go_wp2_with (go_at_call 68; refine HA.out.mono ?_; rintro e w1 ⟨rfl,b1⟩)
  go_end0
  exact ⟨rfl,b1⟩
 | false =>
  clear h
  go_enter Tryz.func69,Tryz.ntmps69
  go_wp2_with fail
  go_end0
  exact ⟨rfl,Wk.refl H.out⟩
theorem Wk.ofBl {w0 w w':World} {b:Nat} {l:Bs} (h:Wt w0.heap.size b l w) (hb:Bl w0 w) (k:Bl w w'):Wk w0 b l w w':=by
 obtain ⟨p,v,hp,hB,hbk,hown,hne,hz⟩:=h
 refine ⟨⟨p,v,hp,hB,(k.block _ (qf hbk)).trans hbk,own_congrF hown k,hne,hz⟩,Below.mono k hb.size,fun i o hi _ _=>(k.block i (qf hi)).trans hi⟩
theorem word_ok (w0:World) (b:Nat) (l t:Bs) (k:Nat) (w:World) (hb:Bl w0 w) (hE:Env w0) (h:Wt w0.heap.size b l w) (ht:t.length≤268435456) (hk:k=5∨k=6) (hc:zR k t 0):Calls Tryz.prog 132 #[.pointer (some ⟨b,0,none⟩),.int .i64 k,.string (ba t)] w (RW w0 b (zU l (wr ⟨k,t,0⟩)) w):=by
 have HW:=qd (wordOf_ok k t w (hE.mono hb) hk ht)
 have hl:=wr56_len k t hk
 have HA:=qd (fun V (kv:Bl w V)=>jz w0 b l (wr ⟨k,t,0⟩) V (hb.trans kv) (Wk.ofBl h hb kv).wt (by omega))
 have HK:=qd (fun V (kv:Bl w V)=>Wk.ofBl h hb kv)
 have HC:=qd hc
 clear h hk hc hl
 go_enter Tryz.func132,Tryz.ntmps132
 go_wp2_with (first
  | (go_at_call 145; refine HW.out.mono ?_; rintro e w1 ⟨hh,b1⟩; rcases hh with ⟨_,rfl⟩ | ⟨hn,rfl⟩; rotate_left; exact absurd HC.out hn)
  | (go_at_call 68; refine (HA.out _ b1).mono ?_; rintro e w2 ⟨rfl,b2⟩))
 go_end0
 exact ⟨rfl,(HK.out _ b1).trans b2⟩
theorem itoaI_ok (n:Int) (w:World) (h1:-9223372036854775808≤n) (h2:n < 9223372036854775808) (hP:Pw w):Calls Tryz.prog 131 #[.int .i64 n] w fun e w'=>e=.returned (.string (ba (itoaB n)))∧Bl w w':=by
 have HI:=qd (Tryz.internal_strconv_Itoa n (by omega) (by omega) w hP)
 go_enter Tryz.func131,Tryz.ntmps131
 go_wp2_with (go_at_call 147; refine HI.out.mono ?_; rintro e w1 ⟨rfl,k,os,rfl⟩)
 go_ret
 refine ⟨rfl,rfl,rfl,rfl,?_,fun j hj=>?_⟩
 ·show w.heap.size≤(w.heap++os).size
  simp
 ·show (w.heap++os)[j]?=w.heap[j]?
  rw [Array.getElem?_append_left hj]
def CW (n:Nt):Prop:=∀ (w0:World) (b:Nat) (l:Bs) (w:World) (kb ko:Nat),Bl w0 w→Env w0→NtM w0 n kb ko→Wt w0.heap.size b l w→Calls Tryz.prog 109 #[.pointer (some ⟨b,0,none⟩),.pointer (some ⟨kb,ko,none⟩)] w (RW w0 b (qH l (qP n)) w)
theorem listPc_snoc (s:Bs) (n:Nt):∀ (r:List Nt) (f:Bool),zJ (r++[n]) s f=zJ r s f++((if r.length=0∧f=true then [] else [s])++qP n):=by
 intro r
 induction r with
 | nil=>intro f; cases f <;> simp [zJ]
 | cons m r ih =>
  intro f;rw [List.cons_append,zJ,zJ,ih];simp
theorem listPc_take (s:Bs) (l:List Nt) (i:Nat) (h:i < l.length):zJ (l.take (i+1)) s true=zJ (l.take i) s true++(btwPc i s++qP (l.getD i qE)):=by
 have e:l.take (i+1)=l.take i++[l.getD i qE]:=by
  rw [List.take_succ_eq_append_getElem h,List.getD_eq_getElem?_getD,List.getElem?_eq_getElem h]; rfl
 rw [e,listPc_snoc]
 congr 2
 unfold btwPc
 have:(l.take i).length=i:=by rw [List.length_take]; omega
 rw [this]
 by_cases hi:0 < i
 ·rw [if_pos hi,if_neg (by simp; omega)]
 ·rw [if_neg hi,if_pos (by simp; omega)]
theorem list_ok (w0:World) (b:Nat) (l s:Bs) (v:Value) (ks:List Nt) (w:World) (hb:Bl w0 w) (hE:Env w0) (h:Wt w0.heap.size b l w) (hs:s.length≤70368744177664) (hr:RdN w0 v ks) (hX:∀ i,i < ks.length→CW (ks.getD i qE)):Calls Tryz.prog 70 #[.pointer (some ⟨b,0,none⟩),v,.string (ba s)] w (RW w0 b (qH l (zJ ks s true)) w):=by
 obtain ⟨p,c,rfl,hc1,hc2⟩:=hr.slc
 have HBt:=qd (fun (l':Bs) (i:Nat) V (hV:Bl w0 V) (hw:Wt w0.heap.size b l' V)=>between_ok w0 b l' s i V hV hw hs)
 have HN:=qd (fun i (hi:i < ks.length) (l':Bs) V (hV:Bl w0 V) kb ko (hn:NtM w0 (ks.getD i qE) kb (ko+i * 7)) (hw:Wt w0.heap.size b l' V)=>hX i hi w0 b l' V kb (ko+i * 7) hV hE hn hw)
 have HTk:=qd (listPc_take s ks)
 have HR:=qd hr
 have HB0:=qd hb
 have H0:=qd h
 have HF:Hid (ks.take ks.length=ks):=qd (List.take_length)
 obtain ⟨n,hn⟩:∃ n,ks.length=n:=⟨_,rfl⟩
 rw [hn] at hc1 hc2 HN HTk HF
 rw [hn]
 have HNn:=qd hn
 clear hr hX hE hn h hb hs
 go_enter Tryz.func70,Tryz.ntmps70
 go_wp2_with fail
 go_loopw [9] (fun q wr=>∃ i:Nat,i≤n∧q=.int .i64 i∧Hid (Wk w0 b (qH l (zJ (ks.take i) s true)) w wr)) (fun q _=>n - (intOf q).toNat)
 case atStart=>exact ⟨0,Nat.zero_le _,rfl,qd (Wk.refl (by simpa [zJ,jR] using H0.out))⟩
 case round =>
  obtain ⟨i,hi,rfl,hk⟩:=hrel
  by_cases hin:i < n
  ·have hii:(i:Int) < n:=by omega
   obtain ⟨kb,ko,hp,hnd⟩:=HR.out.at_ i (by rw [HNn.out]; exact hin)
   subst hp;have HB1:=qd (hk.out.bl HB0.out);have HB2:=qd (HBt.out _ i wr HB1.out hk.out.wt);have HN2:=qd (fun l' V (hV:Bl w0 V) (hw:Wt w0.heap.size b l' V)=>HN.out i hin l' V hV kb ko hnd hw)
   have hE2:Hid (qH l (zJ (ks.take (i+1)) s true)=qH (qH (qH l (zJ (ks.take i) s true)) (btwPc i s)) (qP (ks.getD i qE))):=qd (by rw [HTk.out i hin,zw,zw])
   clear HN HTk HBt hnd HR
   go_wp2_with (first
    | (go_at_call 106; refine HB2.out.mono ?_; rintro e w1 ⟨rfl,k1⟩)
    | (go_at_call 109; refine (HN2.out _ _ (k1.bl HB1.out) k1.wt).mono ?_; rintro e w2 ⟨rfl,k2⟩))
   go_roundw
   case rel=>exact ⟨i+1,by omega,by go_num,qd (by rw [hE2.out]; exact (hk.out.trans k1).trans k2)⟩
   case measure=>simp [intOf]; omega
  ·have hie:¬ (i:Int) < n:=by omega
   have hi2:i=n:=by omega
   subst hi2;rw [HF.out] at hk;clear HN HTk HBt HR
   go_wp2_with fail
   go_end0
   exact ⟨rfl,hk.out⟩
theorem operand_ok (n:Nt) (hX:CW n) (w0:World) (b:Nat) (l:Bs) (w:World) (kb ko most:Nat) (hb:Bl w0 w) (hE:Env w0) (hn:NtM w0 n kb ko) (h:Wt w0.heap.size b l w):Calls Tryz.prog 148 #[.pointer (some ⟨b,0,none⟩),.pointer (some ⟨kb,ko,none⟩),.int .i64 most] w (RW w0 b (qH l (oprPc n most (qP n))) w):=by
 have HR:=qd (rankOf_ok n kb ko w (hn.keep hb))
 have HN:=qd (fun (l':Bs) V (hV:Bl w0 V) (hw:Wt w0.heap.size b l' V)=>hX w0 b l' V kb ko hV hE hn hw)
 have HA:=qd (fun (l':Bs) (c:UInt8) V (hV:Bl w0 V) (hw:Wt w0.heap.size b l' V)=>jz w0 b l' [c] V hV hw (by simp))
 have HK:=qd (fun V (kv:Bl w V)=>Wk.ofBl h hb kv)
 have HB:=qd hb
 have hO:Hid (oprPc n most (qP n)=if rankN n≤most then qP n else [40] :: (qP n++[[41]])):=qd rfl
 generalize oprPc n most (qP n)=O at *
 generalize qP n=N at *
 generalize rankN n=R at *
 clear hX hE hn h hb
 by_cases hr:R≤most
 ·have q:(R:Int)≤most:=by omega
  have e:Hid (qH l O=qH l N):=qd (by rw [hO.out,if_pos hr])
  clear hr hO HA
  go_enter Tryz.func148,Tryz.ntmps148
  go_wp2_with (first
   | (go_at_call 143; refine HR.out.mono ?_; rintro e w1 ⟨rfl,b1⟩; have k1:=HK.out _ b1)
   | (go_at_call 109; refine (HN.out _ _ (k1.bl HB.out) k1.wt).mono ?_; rintro e w2 ⟨rfl,k2⟩))
  first | go_end0 | (refine bodyPost_ret (results_none rfl _ _ _) rfl ?_)
  exact ⟨rfl,by rw [e.out]; exact k1.trans k2⟩
 ·have q:¬ (R:Int)≤most:=by omega
  have e:Hid (qH l O=zU (qH (zU l [40]) N) [41]):=qd (by rw [hO.out,if_neg hr,jh,zw]; rfl)
  have HA1:=qd (fun (l':Bs) V (hV:Bl w0 V) (hw:Wt w0.heap.size b l' V)=>HA.out l' 40 V hV hw)
  have HA2:=qd (fun (l':Bs) V (hV:Bl w0 V) (hw:Wt w0.heap.size b l' V)=>HA.out l' 41 V hV hw)
  clear hr hO HA
  go_enter Tryz.func148,Tryz.ntmps148
  go_wp2_with (first
   | (go_at_call 143; refine HR.out.mono ?_; rintro e w1 ⟨rfl,b1⟩; have k1:=HK.out _ b1)
   | (go_at_call 68; refine (HA1.out _ _ (k1.bl HB.out) k1.wt).mono ?_; clear HA1; rintro e w2 ⟨rfl,k2'⟩; have k2:=k1.trans k2')
   | (go_at_call 109; refine (HN.out _ _ (k2.bl HB.out) k2.wt).mono ?_; rintro e w3 ⟨rfl,k3'⟩; have k3:=k2.trans k3')
   | (go_at_call 68; refine (HA2.out _ _ (k3.bl HB.out) k3.wt).mono ?_; rintro e w4 ⟨rfl,k4⟩))
  go_end0
  exact ⟨rfl,by rw [e.out]; exact k3.trans k4⟩
theorem receiver_ok (n:Nt) (hX:CW n) (w0:World) (b:Nat) (l t:Bs) (w:World) (kb ko:Nat) (hb:Bl w0 w) (hE:Env w0) (hn:NtM w0 n kb ko) (h:Wt w0.heap.size b l w) (ht:t.length≤268435456):Calls Tryz.prog 133 #[.pointer (some ⟨b,0,none⟩),.pointer (some ⟨kb,ko,none⟩),.string (ba t)] w (RW w0 b (qH l (oprPc n (min (qI t) 2) (qP n)++[[32]])) w):=by
 have hsz:(ba t).size=t.length:=by rw [← qo,qJ]
 have HR:=qd (jK (ba t) w (by omega))
 rw [qJ] at HR
 have HM:=qd (mostRecv_ok (qI t) (rankS_le t))
 have HO:=qd (fun (l':Bs) V (hV:Bl w0 V) (hw:Wt w0.heap.size b l' V)=>operand_ok n hX w0 b l' V kb ko (min (qI t) 2) hV hE hn hw)
 have HA:=qd (fun (l':Bs) V (hV:Bl w0 V) (hw:Wt w0.heap.size b l' V)=>jz w0 b l' [32] V hV hw (by simp))
 have HK:=qd (fun V (kv:Bl w V)=>Wk.ofBl h hb kv)
 have HB:=qd hb
 have e:Hid (∀ O,qH l (O++[[32]])=zU (qH l O) [32]):=qd (fun O=>by rw [zw]; rfl)
 generalize oprPc n (min (qI t) 2) (qP n)=O at *
 generalize min (qI t) 2=mo at *
 generalize qI t=rk at *
 clear hX hE hn h hb hsz
 go_enter Tryz.func133,Tryz.ntmps133
 go_wp2_with (first
  | (go_at_call 101; refine HR.out.mono ?_; rintro e w1 ⟨rfl,b1⟩; have k1:=HK.out _ b1)
  | (go_at_call 124; refine (HM.out _).mono ?_; rintro e w2 ⟨rfl,h2⟩; have h3:=h2.symm; subst h3)
  | (go_at_call 148; refine (HO.out _ _ (k1.bl HB.out) k1.wt).mono ?_; rintro e w3 ⟨rfl,k3'⟩; have k3:=k1.trans k3')
  | (go_at_call 68; refine (HA.out _ _ (k3.bl HB.out) k3.wt).mono ?_; rintro e w4 ⟨rfl,k4⟩))
 go_end0
 exact ⟨rfl,by rw [e.out]; exact k3.trans k4⟩
end Go.Proofs.YtfhkhmgodkheaaaGreatDoor
