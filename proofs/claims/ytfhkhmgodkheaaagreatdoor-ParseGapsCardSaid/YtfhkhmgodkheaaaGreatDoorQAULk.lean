import Derived.Test.YtfhkhmgodkheaaaGreatDoorQAG40USt
import Derived.Test.YtfhkhmgodkheaaaGreatDoorQAG37UNv
set_option linter.unusedSimpArgs false
set_option linter.unusedVariables false
set_option maxRecDepth 1000000
set_option maxHeartbeats 16000000
namespace Go.Proofs.YtfhkhmgodkheaaaGreatDoor
open Go.RowKit Go.Maps
mutual
def likeB:Nt→Nt→Bool
 | .mk k t m ns ks,.mk k' t' m' ns' ks'=>decide (k=k') && (decide (t=t') && (decide (m=m') && (decide (ns=ns') && likesB ks ks')))
def likesB:List Nt→List Nt→Bool
 | [],[]=>true
 | a :: r,b :: r'=>likeB a b && likesB r r'
 | _,_=>false
end
theorem likeB_is (n m:Nt):likeB n m=(decide (n.kind=m.kind) && (decide (n.text=m.text) && (decide (n.num=m.num) && (decide (n.names=m.names) && likesB n.kids m.kids)))):=by
 cases n; cases m; rw [likeB]; rfl
mutual
theorem likeB_eq:∀ (n m:Nt),likeB n m=true ↔ n=m
 | .mk k t m ns ks,.mk k' t' m' ns' ks'=>by
  rw [likeB]
  simp only [Bool.and_eq_true,decide_eq_true_eq,likesB_eq ks ks']
  constructor
  ·rintro ⟨rfl,rfl,rfl,rfl,rfl⟩; rfl
  ·intro h; injection h with h1 h2 h3 h4 h5; exact ⟨h1,h2,h3,h4,h5⟩
theorem likesB_eq:∀ (l l':List Nt),likesB l l'=true ↔ l=l'
 | [],[]=>by rw [likesB]; simp
 | a :: r,b :: r'=>by
  rw [likesB]
  simp only [Bool.and_eq_true,likeB_eq a b,likesB_eq r r']
  constructor
  ·rintro ⟨rfl,rfl⟩; rfl
  ·intro h; injection h with h1 h2; exact ⟨h1,h2⟩
 | [],b :: r'=>by rw [likesB] <;> simp
 | a :: r,[]=>by rw [likesB] <;> simp
end
theorem likes_len:∀ (l l':List Nt),l.length≠l'.length→likesB l l'=false:=by
 intro l l' h
 cases e:likesB l l' with
 | false=>rfl
 | true=>rw [(likesB_eq l l').1 e] at h; exact absurd rfl h
theorem likes_all:∀ (l l':List Nt),l.length=l'.length→(∀ j,j < l.length→likeB (l.getD j noNt) (l'.getD j noNt)=true)→likesB l l'=true:=by
 intro l
 induction l with
 | nil=>intro l' h _; have:l'=[]:=List.length_eq_zero_iff.1 h.symm; subst this; rfl
 | cons a r ih =>
  intro l' h hall
  cases l' with
  | nil=>simp at h
  | cons b r' =>
   rw [likesB,ih r' (by simpa using h) (fun j hj=>by simpa using hall (j+1) (by simpa using hj))]
   have:=hall 0 (by simp)
   simp at this
   rw [this]
   rfl
theorem likes_bad:∀ (l l':List Nt) (j:Nat),j < l.length→l.length=l'.length→likeB (l.getD j noNt) (l'.getD j noNt)=false→likesB l l'=false:=by
 intro l l' j hj hn h
 cases e:likesB l l' with
 | false=>rfl
 | true =>
  have:=(likesB_eq l l').1 e
  subst this
  rw [(likeB_eq _ _).2 rfl] at h
  cases h
theorem NdV.keep {w w':World} {n:Nt} {v:Value} (h:NdV w n v) (b:Bl w w'):NdV w' n v:=by
 obtain ⟨a,sn,sp,sk,h1,h2,h3,h4,h5⟩:=h
 exact ⟨a,sn,sp,sk,h1,h2,h3,h4.keep b,h5.keep b⟩
theorem ndv_all {w:World} {n:Nt} {c0 c1 c2 c3 c4 c5 c6:Value} (h:NdV w n (.agg #[c0,c1,c2,c3,c4,c5,c6])):(#[c0,c1,c2,c3,c4,c5,c6]:Array Value).all (·.oneCell')=true:=by
 obtain ⟨a,sn,sp,sk,h1,h2,_⟩:=h
 injection h1 with h1
 rw [h1]
 exact h2
def CK (n m:Nt):Prop:=∀ (v v':Value) (w:World),NdV w n v→NdV w m v'→Calls Tryz.prog 12 #[v,v'] w (RB (likeB n m) w)
theorem like_ok (n m:Nt) (hK:∀ (v v':Value) (w:World),RvN w v n.kids→RvN w v' m.kids→Calls Tryz.prog 18 #[v,v'] w (RB (likesB n.kids m.kids) w)):CK n m:=by
 rintro v v' w ⟨a,sn,sp,sk,rfl,hall,hn,hs,hk⟩ ⟨a',sn',sp',sk',rfl,hall',hn',hs',hk'⟩
 have HS:=mkHid (fun V (bl:Bl w V)=>sameTexts_ok sn sn' n.names m.names V (hs.keep bl) (hs'.keep bl) (by omega) (by omega))
 have HK:=mkHid (fun V (bl:Bl w V)=>hK sk sk' V (hk.keep bl) (hk'.keep bl))
 have hE:=mkHid (likeB_is n m)
 have hT:=ba_tl n.text m.text
 generalize n.kind=k at *
 generalize m.kind=k' at *
 generalize n.text=t at *
 generalize m.text=t' at *
 generalize n.num=u at *
 generalize m.num=u' at *
 generalize likeB n m=BB at *
 have hall2:=mkHid hall
 have hall3:=mkHid hall'
 clear hK hs hs' hk hk' hn hn' hall hall'
 obtain ⟨W,hW⟩:∃ X,(w.alloc (.cells #[.int .i64 k,.string (ba t),.int .i64 u,a,sn,sp,sk] 34)).alloc (.cells #[.int .i64 k',.string (ba t'),.int .i64 u',a',sn',sp',sk'] 34)=X:=⟨_,rfl⟩
 obtain ⟨bW,_,g0,g1⟩:=two_boxes hW
 have BW:=mkHid bW
 have G0:=mkHid g0
 have G1:=mkHid g1
 have L0:=mkHid (lt_of_heap g0)
 have L1:=mkHid (lt_of_heap g1)
 have x0:W.cell? ⟨w.heap.size,0,none⟩=some (.int .i64 k):=by (rw [cell_in g0]; rfl)
 have y0:W.cell? ⟨w.heap.size+1,0,none⟩=some (.int .i64 k'):=by (rw [cell_in g1]; rfl)
 have x1:W.cell? ⟨w.heap.size,1,none⟩=some (.string (ba t)):=by (rw [cell_in g0]; rfl)
 have y1:W.cell? ⟨w.heap.size+1,1,none⟩=some (.string (ba t')):=by (rw [cell_in g1]; rfl)
 have x2:W.cell? ⟨w.heap.size,2,none⟩=some (.int .i64 u):=by (rw [cell_in g0]; rfl)
 have y2:W.cell? ⟨w.heap.size+1,2,none⟩=some (.int .i64 u'):=by (rw [cell_in g1]; rfl)
 have x4:W.cell? ⟨w.heap.size,4,none⟩=some (sn):=by (rw [cell_in g0]; rfl)
 have y4:W.cell? ⟨w.heap.size+1,4,none⟩=some (sn'):=by (rw [cell_in g1]; rfl)
 have x6:W.cell? ⟨w.heap.size,6,none⟩=some (sk):=by (rw [cell_in g0]; rfl)
 have y6:W.cell? ⟨w.heap.size+1,6,none⟩=some (sk'):=by (rw [cell_in g1]; rfl)
 clear bW g0 g1
 by_cases hkk:k=k'
 rotate_left
 ·have q:(k == k')=false:=beq_eq_false_iff_ne.2 hkk
  have e:Hid (BB=false):=mkHid (by rw [hE.out,decide_eq_false hkk]; rfl)
  clear hE hkk HS HK hT
  go_enter Tryz.func12,Tryz.ntmps12
  go_wp2_with fail
  go_ret
  exact ⟨by rw [e.out]; rfl,BW.out⟩
 have q:(k == k')=true:=beq_iff_eq.2 hkk
 rw [decide_eq_true hkk,Bool.true_and] at hE
 clear hkk
 by_cases htt:t=t'
 rotate_left
 ·rw [decide_eq_false htt] at hT hE
  have e:Hid (BB=false):=mkHid (by rw [hE.out]; rfl)
  clear hE htt HS HK
  go_enter Tryz.func12,Tryz.ntmps12
  go_wp2_with fail
  go_ret
  exact ⟨by rw [e.out]; rfl,BW.out⟩
 rw [decide_eq_true htt] at hT hE
 rw [Bool.true_and] at hE
 clear htt
 by_cases huu:u=u'
 rotate_left
 ·have q2:(u == u')=false:=beq_eq_false_iff_ne.2 huu
  have e:Hid (BB=false):=mkHid (by rw [hE.out,decide_eq_false huu]; rfl)
  clear hE huu HS HK
  go_enter Tryz.func12,Tryz.ntmps12
  go_wp2_with fail
  go_ret
  exact ⟨by rw [e.out]; rfl,BW.out⟩
 have q2:(u == u')=true:=beq_iff_eq.2 huu
 rw [decide_eq_true huu,Bool.true_and] at hE
 clear huu
 have HS2:=mkHid (HS.out W BW.out)
 clear HS
 generalize (decide (n.names=m.names))=NB at *
 generalize likesB n.kids m.kids=KB at *
 cases NB with
 | false =>
  have e:Hid (BB=false):=mkHid (by rw [hE.out]; rfl)
  clear hE HK
  go_enter Tryz.func12,Tryz.ntmps12
  go_wp2_with (go_at_call 26; refine HS2.out.mono ?_; rintro e w1 ⟨rfl,b1⟩)
  go_ret
  exact ⟨by rw [e.out]; rfl,BW.out.trans b1⟩
 | true =>
  have e:Hid (BB=KB):=mkHid (by rw [hE.out]; rfl)
  clear hE
  go_enter Tryz.func12,Tryz.ntmps12
  go_wp2_with (first
   | (
    go_at_call 26; refine HS2.out.mono ?_; rintro e w1 ⟨rfl,b1⟩
    have g0:=(b1.block _ L0.out).trans G0.out
    have g1:=(b1.block _ L1.out).trans G1.out
    have z6:w1.cell? ⟨w.heap.size,6,none⟩=some sk:=by (rw [cell_in g0]; rfl)
    have z7:w1.cell? ⟨w.heap.size+1,6,none⟩=some sk':=by (rw [cell_in g1]; rfl)
    have HK1:=mkHid (HK.out w1 (BW.out.trans b1))
    have B1:=mkHid (BW.out.trans b1)
    clear g0 g1)
   | (go_at_call 18; refine HK1.out.mono ?_; rintro e w2 ⟨rfl,b2⟩))
  go_ret
  exact ⟨by rw [e.out]; rfl,B1.out.trans b2⟩
theorem likeAll_ok (v v':Value) (l l':List Nt) (w:World) (hK:∀ i,i < l.length→CK (l.getD i noNt) (l'.getD i noNt)) (h:RvN w v l) (h':RvN w v' l'):Calls Tryz.prog 18 #[v,v'] w (RB (likesB l l') w):=by
 obtain ⟨p,c,kb,ko,rfl,hc,hl,hp,hs⟩:=h
 obtain ⟨p',c',kb',ko',rfl,hc',hl',hp',hs'⟩:=h'
 by_cases hn:l.length=l'.length
 rotate_left
 ·have hne2:((l.length:Int) != l'.length)=true:=by simp; omega
  have hE:Hid (likesB l l'=false):=mkHid (likes_len l l' hn)
  generalize l.length=n at *
  generalize l'.length=n' at *
  clear hp hp' hn hK
  go_enter Tryz.func18,Tryz.ntmps18
  go_wp2_with fail
  go_ret
  exact ⟨by rw [hE.out]; rfl,Bl.refl _⟩
 have HP:=mkHid hp
 have HP':=mkHid hp'
 have HX:=mkHid (likes_all l l' hn)
 have HL:=mkHid (fun j (hj:j < l.length)=>likes_bad l l' j hj hn)
 have HS:=mkHid hs
 have HS':=mkHid hs'
 have HK:=mkHid hK
 rw [← hn] at HP' hc' hl' ⊢
 have HG:Hid (l.length=l'.length):=mkHid hn
 generalize hG:l.length=n at *
 generalize likesB l l'=BB at *
 clear hp hp' hn hs hs' hK
 go_enter Tryz.func18,Tryz.ntmps18
 go_wp2_with fail
 go_loopw [5,6] (fun q r wr=>∃ i:Nat,i≤n∧q=.int .i64 i∧Hid (∀ j,j < i→likeB (l.getD j noNt) (l'.getD j noNt)=true)∧Hid (Bl w wr)) (fun q _ _=>n - (intOf q).toNat)
 case atStart=>exact ⟨0,Nat.zero_le _,rfl,mkHid (fun j hj=>by omega),mkHid (Bl.refl _)⟩
 case round =>
  obtain ⟨i,hi,rfl,hok,hbl⟩:=hrel
  by_cases hin:i < n
  ·have hii:(i:Int) < n:=by omega
   have e1:=HP.out (by omega)
   have e2:=HP'.out (by omega)
   subst e1; subst e2
   obtain ⟨a,sn,sp,sk,lb,x0,x1,x2,x3,x4,x5,x6,hv⟩:=(NvM.keep (HS.out.get i (by rw [hG]; exact hin)) hbl.out).cells
   obtain ⟨a',sn',sp',sk',lb',y0,y1,y2,y3,y4,y5,y6,hv'⟩:=(NvM.keep (HS'.out.get i (by rw [← HG.out]; exact hin)) hbl.out).cells
   have hall:=mkHid (ndv_all hv)
   have hall':=mkHid (ndv_all hv')
   have HC:=mkHid (fun V (b:Bl wr V)=>HK.out i hin _ _ V (hv.keep b) (hv'.keep b))
   have hS:=mkHid (HL.out i hin)
   have hJ:Hid (likeB (l.getD i noNt) (l'.getD i noNt)=true→∀ j,j < i+1→likeB (l.getD j noNt) (l'.getD j noNt)=true):=mkHid (fun h j hj=>by
    by_cases he:j=i
    ·rw [he,h]
    ·exact hok.out j (by omega))
   generalize likeB (l.getD i noNt) (l'.getD i noNt)=K at *
   clear hv hv' HK HL HX HS HS' HP HP' hok
   have LB:=mkHid lb
   have LB':=mkHid lb'
   clear lb lb'
   generalize (l.getD i noNt).kind=k at *
   generalize (l.getD i noNt).text=t at *
   generalize (l.getD i noNt).num=u at *
   generalize (l'.getD i noNt).kind=k' at *
   generalize (l'.getD i noNt).text=t' at *
   generalize (l'.getD i noNt).num=u' at *
   have HCC:Hid (∀ V,Bl wr V→V.cell? ⟨kb,ko+i * 7,none⟩=some (.int .i64 k)∧V.cell? ⟨kb,ko+i * 7+1,none⟩=some (.string (ba t))∧V.cell? ⟨kb,ko+i * 7+2,none⟩=some (.int .i64 u)∧V.cell? ⟨kb,ko+i * 7+3,none⟩=some (a)∧V.cell? ⟨kb,ko+i * 7+4,none⟩=some (sn)∧V.cell? ⟨kb,ko+i * 7+5,none⟩=some (sp)∧V.cell? ⟨kb,ko+i * 7+6,none⟩=some (sk)∧V.cell? ⟨kb',ko'+i * 7,none⟩=some (.int .i64 k')∧V.cell? ⟨kb',ko'+i * 7+1,none⟩=some (.string (ba t'))∧V.cell? ⟨kb',ko'+i * 7+2,none⟩=some (.int .i64 u')∧V.cell? ⟨kb',ko'+i * 7+3,none⟩=some (a')∧V.cell? ⟨kb',ko'+i * 7+4,none⟩=some (sn')∧V.cell? ⟨kb',ko'+i * 7+5,none⟩=some (sp')∧V.cell? ⟨kb',ko'+i * 7+6,none⟩=some (sk')):=mkHid (fun V b=>by
    have e:∀ o,V.cell? ⟨kb,o,none⟩=wr.cell? ⟨kb,o,none⟩:=fun o=>World.cell?_of_block (w:=wr) (b.block kb LB.out)
    have e':∀ o,V.cell? ⟨kb',o,none⟩=wr.cell? ⟨kb',o,none⟩:=fun o=>World.cell?_of_block (w:=wr) (b.block kb' LB'.out)
    exact ⟨(e _).trans x0,(e _).trans x1,(e _).trans x2,(e _).trans x3,(e _).trans x4,(e _).trans x5,(e _).trans x6,(e' _).trans y0,(e' _).trans y1,(e' _).trans y2,(e' _).trans y3,(e' _).trans y4,(e' _).trans y5,(e' _).trans y6⟩)
   clear x0 x1 x2 x3 x4 x5 x6 y0 y1 y2 y3 y4 y5 y6 LB LB'
   go_wp2_with fail
   refine wp_region_held_drew (S:=fun V=>V.cell? ⟨kb,ko+i * 7,none⟩=some (.int .i64 k)∧V.cell? ⟨kb,ko+i * 7+1,none⟩=some (.string (ba t))∧V.cell? ⟨kb,ko+i * 7+2,none⟩=some (.int .i64 u)∧V.cell? ⟨kb,ko+i * 7+3,none⟩=some (a)∧V.cell? ⟨kb,ko+i * 7+4,none⟩=some (sn)∧V.cell? ⟨kb,ko+i * 7+5,none⟩=some (sp)∧V.cell? ⟨kb,ko+i * 7+6,none⟩=some (sk)∧V.cell? ⟨kb',ko'+i * 7,none⟩=some (.int .i64 k')∧V.cell? ⟨kb',ko'+i * 7+1,none⟩=some (.string (ba t'))∧V.cell? ⟨kb',ko'+i * 7+2,none⟩=some (.int .i64 u')∧V.cell? ⟨kb',ko'+i * 7+3,none⟩=some (a')∧V.cell? ⟨kb',ko'+i * 7+4,none⟩=some (sn')∧V.cell? ⟨kb',ko'+i * 7+5,none⟩=some (sp')∧V.cell? ⟨kb',ko'+i * 7+6,none⟩=some (sk')) (by kernel_rfl) (HCC.out _ (bl_drew wr)) (fun hHeld=>?_)
   refine tq (i:=0) ?_
   try simp only [Act.put,qq]
   refine tq (i:=1) ?_
   try simp only [Act.put,qq]
   refine tq (i:=2) ?_
   try simp only [Act.put,qq]
   refine tq (i:=3) ?_
   try simp only [Act.put,qq]
   refine tq (i:=4) ?_
   try simp only [Act.put,qq]
   refine tq (i:=5) ?_
   try simp only [Act.put,qq]
   refine tq (i:=6) ?_
   try simp only [Act.put,qq]
   refine tq (i:=7) ?_
   try simp only [Act.put,qq]
   refine oneH (i:=8) (by kernel_rfl) rfl (fun K hK=>?_)
   refine stepE (by rfl) 12 Tryz.f12 Tryz.func12 (by kernel_rfl) (by kernel_rfl) _ _ rfl _ (by first | (simp [Act.eval]; done) | (simp [Act.eval]; rfl)) _ ((HC.out _ (bl_drew wr)).mono (fun e w1 h=>And.intro h.1 (mkHid ((bl_drew wr).trans h.2)))) ?_
   rintro _ w1 ⟨rfl,hg1⟩
   refine hK.out _ _ (HCC.out _ hg1.out) (fun hHeld=>?_)
   clear hK K
   try simp only [Act.put,qq]
   refine tq (i:=9) ?_
   try simp only [Act.put,qq]
   refine wpAnyH_done (by kernel_rfl) ?_ _
   cases K with
   | true =>
    go_wp2_with fail
    go_roundw
    case rel=>exact ⟨i+1,by omega,by go_num,mkHid (hJ.out (by trivial)),mkHid (hbl.out.trans hg1.out)⟩
    case measure=>simp [intOf]; omega
   | false =>
    go_wp2_with fail
    go_ret
    exact ⟨by rw [hS.out (by trivial)]; rfl,hbl.out.trans hg1.out⟩
  ·have hie:¬ (i:Int) < n:=by omega
   have hE:Hid (BB=true):=mkHid (HX.out (fun j hj=>hok.out j (by omega)))
   clear HX HL HP HP' hok HS HS' HK
   go_wp2_with fail
   go_ret
   exact ⟨by rw [hE.out]; rfl,hbl.out⟩
theorem like_all:∀ (N:Nat) (n m:Nt),sizN n≤N→CK n m:=by
 intro N
 induction N with
 | zero=>intro n m h; have:=sizN_pos n; omega
 | succ N ih =>
  intro n m h
  exact like_ok n m (fun v v' w hk hk'=>likeAll_ok v v' n.kids m.kids w (fun i hi=>ih _ _ (by have:=siz_kid n i hi; omega)) hk hk')
theorem likeAll_any (v v':Value) (l l':List Nt) (w:World) (h:RvN w v l) (h':RvN w v' l'):Calls Tryz.prog 18 #[v,v'] w (RB (likesB l l') w):=likeAll_ok v v' l l' w (fun i hi=>like_all _ _ _ (Nat.le_refl _)) h h'
def sameB (s t:Tr):Bool:=decide (s.sel=t.sel) && (decide (s.params=t.params) && (decide (s.names=t.names) && likesB s.body t.body))
theorem sameB_eq (s t:Tr):sameB s t=true ↔ s=t:=by
 cases s; cases t
 unfold sameB
 simp only [Bool.and_eq_true,decide_eq_true_eq,likesB_eq]
 constructor
 ·rintro ⟨rfl,rfl,rfl,rfl⟩; rfl
 ·intro h; injection h with h1 h2 h3 h4; exact ⟨h1,h2,h3,h4⟩
theorem same_ok (s t:Tr) (a sn sp sb a' sn' sp' sb':Value) (w:World) (hall:(#[.string (ba s.sel),a,.int .i64 s.params,sn,sp,sb]:Array Value).all (·.oneCell')=true) (hall':(#[.string (ba t.sel),a',.int .i64 t.params,sn',sp',sb']:Array Value).all (·.oneCell')=true) (h:TvM w s sn sp sb) (h':TvM w t sn' sp' sb') :
  Calls Tryz.prog 16 #[trV s a sn sp sb,trV t a' sn' sp' sb'] w (RB (sameB s t) w):=by
 have HS:=mkHid (fun V (bl:Bl w V)=>sameTexts_ok sn sn' s.names t.names V (h.nm.keep bl) (h'.nm.keep bl) h.nl h'.nl)
 have HK:=mkHid (fun V (bl:Bl w V)=>likeAll_any sb sb' s.body t.body V (h.body.keep bl) (h'.body.keep bl))
 have hE:Hid (sameB s t=(decide (s.sel=t.sel) && (decide (s.params=t.params) && (decide (s.names=t.names) && likesB s.body t.body)))):=mkHid rfl
 have hT:=ba_tl s.sel t.sel
 unfold trV
 generalize s.sel=k at *
 generalize t.sel=k' at *
 generalize s.params=u at *
 generalize t.params=u' at *
 generalize sameB s t=BB at *
 have hall2:=mkHid hall
 have hall3:=mkHid hall'
 clear h h' hall hall'
 obtain ⟨W,hW⟩:∃ X,(w.alloc (.cells #[.string (ba k),a,.int .i64 u,sn,sp,sb] 27)).alloc (.cells #[.string (ba k'),a',.int .i64 u',sn',sp',sb'] 27)=X:=⟨_,rfl⟩
 obtain ⟨bW,_,g0,g1⟩:=two_boxes hW
 have BW:=mkHid bW
 have G0:=mkHid g0
 have G1:=mkHid g1
 have L0:=mkHid (lt_of_heap g0)
 have L1:=mkHid (lt_of_heap g1)
 have x0:W.cell? ⟨w.heap.size,0,none⟩=some (.string (ba k)):=by (rw [cell_in g0]; rfl)
 have y0:W.cell? ⟨w.heap.size+1,0,none⟩=some (.string (ba k')):=by (rw [cell_in g1]; rfl)
 have x2:W.cell? ⟨w.heap.size,2,none⟩=some (.int .i64 u):=by (rw [cell_in g0]; rfl)
 have y2:W.cell? ⟨w.heap.size+1,2,none⟩=some (.int .i64 u'):=by (rw [cell_in g1]; rfl)
 have x3:W.cell? ⟨w.heap.size,3,none⟩=some sn:=by (rw [cell_in g0]; rfl)
 have y3:W.cell? ⟨w.heap.size+1,3,none⟩=some sn':=by (rw [cell_in g1]; rfl)
 clear bW g0 g1
 by_cases htt:k=k'
 rotate_left
 ·rw [decide_eq_false htt] at hT hE
  have e:Hid (BB=false):=mkHid (by rw [hE.out]; rfl)
  clear hE htt HS HK
  go_enter Tryz.func16,Tryz.ntmps16
  go_wp2_with fail
  go_ret
  exact ⟨by rw [e.out]; rfl,BW.out⟩
 rw [decide_eq_true htt] at hT hE
 rw [Bool.true_and] at hE
 clear htt
 by_cases huu:u=u'
 rotate_left
 ·have q2:(u == u')=false:=beq_eq_false_iff_ne.2 huu
  have e:Hid (BB=false):=mkHid (by rw [hE.out,decide_eq_false huu]; rfl)
  clear hE huu HS HK
  go_enter Tryz.func16,Tryz.ntmps16
  go_wp2_with fail
  go_ret
  exact ⟨by rw [e.out]; rfl,BW.out⟩
 have q2:(u == u')=true:=beq_iff_eq.2 huu
 rw [decide_eq_true huu,Bool.true_and] at hE
 clear huu
 have HS2:=mkHid (HS.out W BW.out)
 clear HS
 generalize (decide (s.names=t.names))=NB at *
 generalize likesB s.body t.body=KB at *
 cases NB with
 | false =>
  have e:Hid (BB=false):=mkHid (by rw [hE.out]; rfl)
  clear hE HK
  go_enter Tryz.func16,Tryz.ntmps16
  go_wp2_with (go_at_call 26; refine HS2.out.mono ?_; rintro e w1 ⟨rfl,b1⟩)
  go_ret
  exact ⟨by rw [e.out]; rfl,BW.out.trans b1⟩
 | true =>
  have e:Hid (BB=KB):=mkHid (by rw [hE.out]; rfl)
  clear hE
  go_enter Tryz.func16,Tryz.ntmps16
  go_wp2_with (first
   | (
    go_at_call 26; refine HS2.out.mono ?_; rintro e w1 ⟨rfl,b1⟩
    have g0:=(b1.block _ L0.out).trans G0.out
    have g1:=(b1.block _ L1.out).trans G1.out
    have z6:w1.cell? ⟨w.heap.size,5,none⟩=some sb:=by (rw [cell_in g0]; rfl)
    have z7:w1.cell? ⟨w.heap.size+1,5,none⟩=some sb':=by (rw [cell_in g1]; rfl)
    have HK1:=mkHid (HK.out w1 (BW.out.trans b1))
    have B1:=mkHid (BW.out.trans b1)
    clear g0 g1)
   | (go_at_call 18; refine HK1.out.mono ?_; rintro e w2 ⟨rfl,b2⟩))
  go_ret
  exact ⟨by rw [e.out]; rfl,B1.out.trans b2⟩
end Go.Proofs.YtfhkhmgodkheaaaGreatDoor
