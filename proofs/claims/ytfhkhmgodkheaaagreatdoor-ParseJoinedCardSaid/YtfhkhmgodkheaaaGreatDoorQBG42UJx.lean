import Derived.Test.YtfhkhmgodkheaaaGreatDoorQBG41USt
import Derived.Test.YtfhkhmgodkheaaaGreatDoorQBG37UNv
import Derived.Test.YtfhkhmgodkheaaaGreatDoorQBG38UBd
set_option linter.unusedSimpArgs false
set_option linter.unusedVariables false
set_option maxRecDepth 1000000
set_option maxHeartbeats 16000000
namespace Go.Proofs.YtfhkhmgodkheaaaGreatDoor
open Go.RowKit Go.Maps
mutual
def likeB:Nt→Nt→Bool
 | .mk k t m ns ks,.mk k' t' m' ns' ks'=>decide (k=k') && (decide (t=t') && (decide (m=m') && (decide (ns=ns') && likesB ks ks')))
def likesB:List Nt→List Nt→Bool
 | [],[]=>true
 | a :: r,b :: r'=>likeB a b && likesB r r'
 | _,_=>false
end
theorem likeB_is (n m:Nt):likeB n m=(decide (n.kind=m.kind) && (decide (n.text=m.text) && (decide (n.num=m.num) && (decide (n.names=m.names) && likesB n.kids m.kids)))):=by
 cases n; cases m; rw [likeB]; rfl
mutual
theorem likeB_eq:∀ (n m:Nt),likeB n m=true ↔ n=m
 | .mk k t m ns ks,.mk k' t' m' ns' ks'=>by
  rw [likeB]
  simp only [Bool.and_eq_true,decide_eq_true_eq,likesB_eq ks ks']
  constructor
  ·rintro ⟨rfl,rfl,rfl,rfl,rfl⟩; rfl
  ·intro h; injection h with h1 h2 h3 h4 h5; exact ⟨h1,h2,h3,h4,h5⟩
theorem likesB_eq:∀ (l l':List Nt),likesB l l'=true ↔ l=l'
 | [],[]=>by rw [likesB]; simp
 | a :: r,b :: r'=>by
  rw [likesB]
  simp only [Bool.and_eq_true,likeB_eq a b,likesB_eq r r']
  constructor
  ·rintro ⟨rfl,rfl⟩; rfl
  ·intro h; injection h with h1 h2; exact ⟨h1,h2⟩
 | [],b :: r'=>by rw [likesB] <;> simp
 | a :: r,[]=>by rw [likesB] <;> simp
end
theorem likes_len:∀ (l l':List Nt),l.length≠l'.length→likesB l l'=false:=by
 intro l l' h
 cases e:likesB l l' with
 | false=>rfl
 | true=>rw [(likesB_eq l l').1 e] at h; exact absurd rfl h
theorem likes_all:∀ (l l':List Nt),l.length=l'.length→(∀ j,j < l.length→likeB (l.getD j noNt) (l'.getD j noNt)=true)→likesB l l'=true:=by
 intro l
 induction l with
 | nil=>intro l' h _; have:l'=[]:=List.length_eq_zero_iff.1 h.symm; subst this; rfl
 | cons a r ih =>
  intro l' h hall
  cases l' with
  | nil=>simp at h
  | cons b r' =>
   rw [likesB,ih r' (by simpa using h) (fun j hj=>by simpa using hall (j+1) (by simpa using hj))]
   have:=hall 0 (by simp)
   simp at this
   rw [this]
   rfl
theorem likes_bad:∀ (l l':List Nt) (j:Nat),j < l.length→l.length=l'.length→likeB (l.getD j noNt) (l'.getD j noNt)=false→likesB l l'=false:=by
 intro l l' j hj hn h
 cases e:likesB l l' with
 | false=>rfl
 | true =>
  have:=(likesB_eq l l').1 e
  subst this
  rw [(likeB_eq _ _).2 rfl] at h
  cases h
theorem NdV.keep {w w':World} {n:Nt} {v:Value} (h:NdV w n v) (b:Bl w w'):NdV w' n v:=by
 obtain ⟨a,sn,sp,sk,h1,h2,h3,h4,h5⟩:=h
 exact ⟨a,sn,sp,sk,h1,h2,h3,h4.keep b,h5.keep b⟩
theorem ndv_all {w:World} {n:Nt} {c0 c1 c2 c3 c4 c5 c6:Value} (h:NdV w n (.agg #[c0,c1,c2,c3,c4,c5,c6])):(#[c0,c1,c2,c3,c4,c5,c6]:Array Value).all (·.oneCell')=true:=by
 obtain ⟨a,sn,sp,sk,h1,h2,_⟩:=h
 injection h1 with h1
 rw [h1]
 exact h2
def CK (n m:Nt):Prop:=∀ (v v':Value) (w:World),NdV w n v→NdV w m v'→Calls Tryz.prog 12 #[v,v'] w (RB (likeB n m) w)
theorem like_ok (n m:Nt) (hK:∀ (v v':Value) (w:World),RvN w v n.kids→RvN w v' m.kids→Calls Tryz.prog 18 #[v,v'] w (RB (likesB n.kids m.kids) w)):CK n m:=by
 rintro v v' w ⟨a,sn,sp,sk,rfl,hall,hn,hs,hk⟩ ⟨a',sn',sp',sk',rfl,hall',hn',hs',hk'⟩
 have HS:=mkHid (fun V (bl:Bl w V)=>sameTexts_ok sn sn' n.names m.names V (hs.keep bl) (hs'.keep bl) (by omega) (by omega))
 have HK:=mkHid (fun V (bl:Bl w V)=>hK sk sk' V (hk.keep bl) (hk'.keep bl))
 have hE:=mkHid (likeB_is n m)
 have hT:=ba_tl n.text m.text
 generalize n.kind=k at *
 generalize m.kind=k' at *
 generalize n.text=t at *
 generalize m.text=t' at *
 generalize n.num=u at *
 generalize m.num=u' at *
 generalize likeB n m=BB at *
 have hall2:=mkHid hall
 have hall3:=mkHid hall'
 clear hK hs hs' hk hk' hn hn' hall hall'
 obtain ⟨W,hW⟩:∃ X,(w.alloc (.cells #[.int .i64 k,.string (ba t),.int .i64 u,a,sn,sp,sk] 34)).alloc (.cells #[.int .i64 k',.string (ba t'),.int .i64 u',a',sn',sp',sk'] 34)=X:=⟨_,rfl⟩
 obtain ⟨bW,_,g0,g1⟩:=two_boxes hW
 have BW:=mkHid bW
 have G0:=mkHid g0
 have G1:=mkHid g1
 have L0:=mkHid (lt_of_heap g0)
 have L1:=mkHid (lt_of_heap g1)
 have x0:W.cell? ⟨w.heap.size,0,none⟩=some (.int .i64 k):=by (rw [cell_in g0]; rfl)
 have y0:W.cell? ⟨w.heap.size+1,0,none⟩=some (.int .i64 k'):=by (rw [cell_in g1]; rfl)
 have x1:W.cell? ⟨w.heap.size,1,none⟩=some (.string (ba t)):=by (rw [cell_in g0]; rfl)
 have y1:W.cell? ⟨w.heap.size+1,1,none⟩=some (.string (ba t')):=by (rw [cell_in g1]; rfl)
 have x2:W.cell? ⟨w.heap.size,2,none⟩=some (.int .i64 u):=by (rw [cell_in g0]; rfl)
 have y2:W.cell? ⟨w.heap.size+1,2,none⟩=some (.int .i64 u'):=by (rw [cell_in g1]; rfl)
 have x4:W.cell? ⟨w.heap.size,4,none⟩=some (sn):=by (rw [cell_in g0]; rfl)
 have y4:W.cell? ⟨w.heap.size+1,4,none⟩=some (sn'):=by (rw [cell_in g1]; rfl)
 have x6:W.cell? ⟨w.heap.size,6,none⟩=some (sk):=by (rw [cell_in g0]; rfl)
 have y6:W.cell? ⟨w.heap.size+1,6,none⟩=some (sk'):=by (rw [cell_in g1]; rfl)
 clear bW g0 g1
 by_cases hkk:k=k'
 rotate_left
 ·have q:(k == k')=false:=beq_eq_false_iff_ne.2 hkk
  have e:Hid (BB=false):=mkHid (by rw [hE.out,decide_eq_false hkk]; rfl)
  clear hE hkk HS HK hT
  go_enter Tryz.func12,Tryz.ntmps12
  go_wp2_with fail
  go_ret
  exact ⟨by rw [e.out]; rfl,BW.out⟩
 have q:(k == k')=true:=beq_iff_eq.2 hkk
 rw [decide_eq_true hkk,Bool.true_and] at hE
 clear hkk
 by_cases htt:t=t'
 rotate_left
 ·rw [decide_eq_false htt] at hT hE
  have e:Hid (BB=false):=mkHid (by rw [hE.out]; rfl)
  clear hE htt HS HK
  go_enter Tryz.func12,Tryz.ntmps12
  go_wp2_with fail
  go_ret
  exact ⟨by rw [e.out]; rfl,BW.out⟩
 rw [decide_eq_true htt] at hT hE
 rw [Bool.true_and] at hE
 clear htt
 by_cases huu:u=u'
 rotate_left
 ·have q2:(u == u')=false:=beq_eq_false_iff_ne.2 huu
  have e:Hid (BB=false):=mkHid (by rw [hE.out,decide_eq_false huu]; rfl)
  clear hE huu HS HK
  go_enter Tryz.func12,Tryz.ntmps12
  go_wp2_with fail
  go_ret
  exact ⟨by rw [e.out]; rfl,BW.out⟩
 have q2:(u == u')=true:=beq_iff_eq.2 huu
 rw [decide_eq_true huu,Bool.true_and] at hE
 clear huu
 have HS2:=mkHid (HS.out W BW.out)
 clear HS
 generalize (decide (n.names=m.names))=NB at *
 generalize likesB n.kids m.kids=KB at *
 cases NB with
 | false =>
  have e:Hid (BB=false):=mkHid (by rw [hE.out]; rfl)
  clear hE HK
  go_enter Tryz.func12,Tryz.ntmps12
  go_wp2_with (go_at_call 26; refine HS2.out.mono ?_; rintro e w1 ⟨rfl,b1⟩)
  go_ret
  exact ⟨by rw [e.out]; rfl,BW.out.trans b1⟩
 | true =>
  have e:Hid (BB=KB):=mkHid (by rw [hE.out]; rfl)
  clear hE
  go_enter Tryz.func12,Tryz.ntmps12
  go_wp2_with (first
   | (
    go_at_call 26; refine HS2.out.mono ?_; rintro e w1 ⟨rfl,b1⟩
    have g0:=(b1.block _ L0.out).trans G0.out
    have g1:=(b1.block _ L1.out).trans G1.out
    have z6:w1.cell? ⟨w.heap.size,6,none⟩=some sk:=by (rw [cell_in g0]; rfl)
    have z7:w1.cell? ⟨w.heap.size+1,6,none⟩=some sk':=by (rw [cell_in g1]; rfl)
    have HK1:=mkHid (HK.out w1 (BW.out.trans b1))
    have B1:=mkHid (BW.out.trans b1)
    clear g0 g1)
   | (go_at_call 18; refine HK1.out.mono ?_; rintro e w2 ⟨rfl,b2⟩))
  go_ret
  exact ⟨by rw [e.out]; rfl,B1.out.trans b2⟩
theorem likeAll_ok (v v':Value) (l l':List Nt) (w:World) (hK:∀ i,i < l.length→CK (l.getD i noNt) (l'.getD i noNt)) (h:RvN w v l) (h':RvN w v' l'):Calls Tryz.prog 18 #[v,v'] w (RB (likesB l l') w):=by
 obtain ⟨p,c,kb,ko,rfl,hc,hl,hp,hs⟩:=h
 obtain ⟨p',c',kb',ko',rfl,hc',hl',hp',hs'⟩:=h'
 by_cases hn:l.length=l'.length
 rotate_left
 ·have hne2:((l.length:Int) != l'.length)=true:=by simp; omega
  have hE:Hid (likesB l l'=false):=mkHid (likes_len l l' hn)
  generalize l.length=n at *
  generalize l'.length=n' at *
  clear hp hp' hn hK
  go_enter Tryz.func18,Tryz.ntmps18
  go_wp2_with fail
  go_ret
  exact ⟨by rw [hE.out]; rfl,Bl.refl _⟩
 have HP:=mkHid hp
 have HP':=mkHid hp'
 have HX:=mkHid (likes_all l l' hn)
 have HL:=mkHid (fun j (hj:j < l.length)=>likes_bad l l' j hj hn)
 have HS:=mkHid hs
 have HS':=mkHid hs'
 have HK:=mkHid hK
 rw [← hn] at HP' hc' hl' ⊢
 have HG:Hid (l.length=l'.length):=mkHid hn
 generalize hG:l.length=n at *
 generalize likesB l l'=BB at *
 clear hp hp' hn hs hs' hK
 go_enter Tryz.func18,Tryz.ntmps18
 go_wp2_with fail
 go_loopw [5,6] (fun q r wr=>∃ i:Nat,i≤n∧q=.int .i64 i∧Hid (∀ j,j < i→likeB (l.getD j noNt) (l'.getD j noNt)=true)∧Hid (Bl w wr)) (fun q _ _=>n - (intOf q).toNat)
 case atStart=>exact ⟨0,Nat.zero_le _,rfl,mkHid (fun j hj=>by omega),mkHid (Bl.refl _)⟩
 case round =>
  obtain ⟨i,hi,rfl,hok,hbl⟩:=hrel
  by_cases hin:i < n
  ·have hii:(i:Int) < n:=by omega
   have e1:=HP.out (by omega)
   have e2:=HP'.out (by omega)
   subst e1; subst e2
   obtain ⟨a,sn,sp,sk,lb,x0,x1,x2,x3,x4,x5,x6,hv⟩:=(NvM.keep (HS.out.get i (by rw [hG]; exact hin)) hbl.out).cells
   obtain ⟨a',sn',sp',sk',lb',y0,y1,y2,y3,y4,y5,y6,hv'⟩:=(NvM.keep (HS'.out.get i (by rw [← HG.out]; exact hin)) hbl.out).cells
   have hall:=mkHid (ndv_all hv)
   have hall':=mkHid (ndv_all hv')
   have HC:=mkHid (fun V (b:Bl wr V)=>HK.out i hin _ _ V (hv.keep b) (hv'.keep b))
   have hS:=mkHid (HL.out i hin)
   have hJ:Hid (likeB (l.getD i noNt) (l'.getD i noNt)=true→∀ j,j < i+1→likeB (l.getD j noNt) (l'.getD j noNt)=true):=mkHid (fun h j hj=>by
    by_cases he:j=i
    ·rw [he,h]
    ·exact hok.out j (by omega))
   generalize likeB (l.getD i noNt) (l'.getD i noNt)=K at *
   clear hv hv' HK HL HX HS HS' HP HP' hok
   have LB:=mkHid lb
   have LB':=mkHid lb'
   clear lb lb'
   generalize (l.getD i noNt).kind=k at *
   generalize (l.getD i noNt).text=t at *
   generalize (l.getD i noNt).num=u at *
   generalize (l'.getD i noNt).kind=k' at *
   generalize (l'.getD i noNt).text=t' at *
   generalize (l'.getD i noNt).num=u' at *
   have HCC:Hid (∀ V,Bl wr V→V.cell? ⟨kb,ko+i * 7,none⟩=some (.int .i64 k)∧V.cell? ⟨kb,ko+i * 7+1,none⟩=some (.string (ba t))∧V.cell? ⟨kb,ko+i * 7+2,none⟩=some (.int .i64 u)∧V.cell? ⟨kb,ko+i * 7+3,none⟩=some (a)∧V.cell? ⟨kb,ko+i * 7+4,none⟩=some (sn)∧V.cell? ⟨kb,ko+i * 7+5,none⟩=some (sp)∧V.cell? ⟨kb,ko+i * 7+6,none⟩=some (sk)∧V.cell? ⟨kb',ko'+i * 7,none⟩=some (.int .i64 k')∧V.cell? ⟨kb',ko'+i * 7+1,none⟩=some (.string (ba t'))∧V.cell? ⟨kb',ko'+i * 7+2,none⟩=some (.int .i64 u')∧V.cell? ⟨kb',ko'+i * 7+3,none⟩=some (a')∧V.cell? ⟨kb',ko'+i * 7+4,none⟩=some (sn')∧V.cell? ⟨kb',ko'+i * 7+5,none⟩=some (sp')∧V.cell? ⟨kb',ko'+i * 7+6,none⟩=some (sk')):=mkHid (fun V b=>by
    have e:∀ o,V.cell? ⟨kb,o,none⟩=wr.cell? ⟨kb,o,none⟩:=fun o=>World.cell?_of_block (w:=wr) (b.block kb LB.out)
    have e':∀ o,V.cell? ⟨kb',o,none⟩=wr.cell? ⟨kb',o,none⟩:=fun o=>World.cell?_of_block (w:=wr) (b.block kb' LB'.out)
    exact ⟨(e _).trans x0,(e _).trans x1,(e _).trans x2,(e _).trans x3,(e _).trans x4,(e _).trans x5,(e _).trans x6,(e' _).trans y0,(e' _).trans y1,(e' _).trans y2,(e' _).trans y3,(e' _).trans y4,(e' _).trans y5,(e' _).trans y6⟩)
   clear x0 x1 x2 x3 x4 x5 x6 y0 y1 y2 y3 y4 y5 y6 LB LB'
   go_wp2_with fail
   refine wp_region_held_drew (S:=fun V=>V.cell? ⟨kb,ko+i * 7,none⟩=some (.int .i64 k)∧V.cell? ⟨kb,ko+i * 7+1,none⟩=some (.string (ba t))∧V.cell? ⟨kb,ko+i * 7+2,none⟩=some (.int .i64 u)∧V.cell? ⟨kb,ko+i * 7+3,none⟩=some (a)∧V.cell? ⟨kb,ko+i * 7+4,none⟩=some (sn)∧V.cell? ⟨kb,ko+i * 7+5,none⟩=some (sp)∧V.cell? ⟨kb,ko+i * 7+6,none⟩=some (sk)∧V.cell? ⟨kb',ko'+i * 7,none⟩=some (.int .i64 k')∧V.cell? ⟨kb',ko'+i * 7+1,none⟩=some (.string (ba t'))∧V.cell? ⟨kb',ko'+i * 7+2,none⟩=some (.int .i64 u')∧V.cell? ⟨kb',ko'+i * 7+3,none⟩=some (a')∧V.cell? ⟨kb',ko'+i * 7+4,none⟩=some (sn')∧V.cell? ⟨kb',ko'+i * 7+5,none⟩=some (sp')∧V.cell? ⟨kb',ko'+i * 7+6,none⟩=some (sk')) (by kernel_rfl) (HCC.out _ (bl_drew wr)) (fun hHeld=>?_)
   refine tq (i:=0) ?_
   try simp only [Act.put,qq]
   refine tq (i:=1) ?_
   try simp only [Act.put,qq]
   refine tq (i:=2) ?_
   try simp only [Act.put,qq]
   refine tq (i:=3) ?_
   try simp only [Act.put,qq]
   refine tq (i:=4) ?_
   try simp only [Act.put,qq]
   refine tq (i:=5) ?_
   try simp only [Act.put,qq]
   refine tq (i:=6) ?_
   try simp only [Act.put,qq]
   refine tq (i:=7) ?_
   try simp only [Act.put,qq]
   refine oneH (i:=8) (by kernel_rfl) rfl (fun K hK=>?_)
   refine stepE (by rfl) 12 Tryz.f12 Tryz.func12 (by kernel_rfl) (by kernel_rfl) _ _ rfl _ (by first | (simp [Act.eval]; done) | (simp [Act.eval]; rfl)) _ ((HC.out _ (bl_drew wr)).mono (fun e w1 h=>And.intro h.1 (mkHid ((bl_drew wr).trans h.2)))) ?_
   rintro _ w1 ⟨rfl,hg1⟩
   refine hK.out _ _ (HCC.out _ hg1.out) (fun hHeld=>?_)
   clear hK K
   try simp only [Act.put,qq]
   refine tq (i:=9) ?_
   try simp only [Act.put,qq]
   refine wpAnyH_done (by kernel_rfl) ?_ _
   cases K with
   | true =>
    go_wp2_with fail
    go_roundw
    case rel=>exact ⟨i+1,by omega,by go_num,mkHid (hJ.out (by trivial)),mkHid (hbl.out.trans hg1.out)⟩
    case measure=>simp [intOf]; omega
   | false =>
    go_wp2_with fail
    go_ret
    exact ⟨by rw [hS.out (by trivial)]; rfl,hbl.out.trans hg1.out⟩
  ·have hie:¬ (i:Int) < n:=by omega
   have hE:Hid (BB=true):=mkHid (HX.out (fun j hj=>hok.out j (by omega)))
   clear HX HL HP HP' hok HS HS' HK
   go_wp2_with fail
   go_ret
   exact ⟨by rw [hE.out]; rfl,hbl.out⟩
theorem like_all:∀ (N:Nat) (n m:Nt),sizN n≤N→CK n m:=by
 intro N
 induction N with
 | zero=>intro n m h; have:=sizN_pos n; omega
 | succ N ih =>
  intro n m h
  exact like_ok n m (fun v v' w hk hk'=>likeAll_ok v v' n.kids m.kids w (fun i hi=>ih _ _ (by have:=siz_kid n i hi; omega)) hk hk')
theorem likeAll_any (v v':Value) (l l':List Nt) (w:World) (h:RvN w v l) (h':RvN w v' l'):Calls Tryz.prog 18 #[v,v'] w (RB (likesB l l') w):=likeAll_ok v v' l l' w (fun i hi=>like_all _ _ _ (Nat.le_refl _)) h h'
theorem NvsM.drop {w:World}:∀ (i:Nat) {ns:List Nt} {b off:Nat},NvsM w ns b off→NvsM w (ns.drop i) b (off+i * 7):=by
 intro i
 induction i with
 | zero=>intro ns b off h; simpa using h
 | succ i ih =>
  intro ns b off h
  cases h with
  | nil=>simpa using NvsM.nil
  | cons h1 h2 =>
   have:=ih h2
   rw [show off+7+i * 7=off+(i+1) * 7 by omega] at this
   simpa using this
theorem NvsM.take {w:World}:∀ (i:Nat) {ns:List Nt} {b off:Nat},NvsM w ns b off→NvsM w (ns.take i) b off:=by
 intro i
 induction i with
 | zero=>intro ns b off h; simpa using NvsM.nil
 | succ i ih =>
  intro ns b off h
  cases h with
  | nil=>simpa using NvsM.nil
  | cons h1 h2=>simpa using NvsM.cons h1 (ih h2)
theorem RvN.to {w:World} {kb ko L c:Nat} {l:List Nt} (h:RvN w (.slice (some ⟨kb,ko,none⟩) L c) l) (n:Nat) (hn:n≤l.length):RvN w (.slice (some ⟨kb,ko,none⟩) n c) (l.take n):=by
 obtain ⟨p',c',kb',ko',e,q1,q2,hp,hs⟩:=h
 injection e with e1 e2 e3
 subst e3
 have hl:(l.take n).length=n:=by rw [List.length_take]; omega
 refine ⟨_,_,kb',ko',by rw [hl],by rw [hl]; omega,by rw [hl]; omega,fun h0=>?_,hs.take n⟩
 rw [hl] at h0
 rw [e1]
 exact hp (by omega)
theorem RvN.from {w:World} {kb ko L c:Nat} {l:List Nt} (h:RvN w (.slice (some ⟨kb,ko,none⟩) L c) l) (n:Nat) (hn:n≤l.length):RvN w (.slice (some ⟨kb,if n=c then ko else ko+n * 7,none⟩) (L - n) (c - n)) (l.drop n):=by
 obtain ⟨p',c',kb',ko',e,q1,q2,hp,hs⟩:=h
 injection e with e1 e2 e3
 subst e3
 have hl:(l.drop n).length=l.length - n:=by rw [List.length_drop]
 rw [e2]
 by_cases h0:n < l.length
 ·have hp':=hp (by omega)
  rw [← e1] at hp'
  injection hp' with hp'
  injection hp' with p1 p2
  subst p1; subst p2
  rw [if_neg (by omega)]
  exact ⟨_,_,kb,ko+n * 7,by rw [hl],by rw [hl]; omega,by rw [hl]; omega,fun _=>rfl,hs.drop n⟩
 ·have hd:l.drop n=[]:=List.drop_eq_nil_of_le (by omega)
  rw [hd]
  exact ⟨_,_,0,0,by rw [show l.length - n=0 by omega]; rfl,Nat.zero_le _,Nat.zero_le _,fun h=>by simp at h,.nil⟩
theorem elem25:Tryz.prog.underlying 25=some (.slice (Tryz.prog.elem 25)):=by kernel_rfl
theorem slice_to (kb ko L c n:Nat) (hn:n≤c) (W:World):(Instr.slice 25 (.slice (some ⟨kb,ko,none⟩) L c) none (some (.int .i64 (n:Int))) none).run Tryz.prog W=.ok (.slice (some ⟨kb,ko,none⟩) n c) W:=by
 have hs:∀ W,(sizeOf (Tryz.prog.elem 25)).run Tryz.prog W=.ok 7 W:=fun W=>by kernel_rfl
 rw [run_slice_h (t:=25) (ht:=elem25) (kh:=.i64) (h:=(n:Int)) (h0:=by omega) (h2:=by omega)]
 rw [hs]
 simp [Result.andThen,sliced,Addr.add]
theorem slice_from (kb ko L c n:Nat) (hn:n≤L) (W:World):(Instr.slice 25 (.slice (some ⟨kb,ko,none⟩) L c) (some (.int .i64 (n:Int))) none none).run Tryz.prog W=.ok (.slice (some ⟨kb,if n=c then ko else ko+n * 7,none⟩) (L - n) (c - n)) W:=by
 have hs:∀ W,(sizeOf (Tryz.prog.elem 25)).run Tryz.prog W=.ok 7 W:=fun W=>by kernel_rfl
 rw [run_slice_l (t:=25) (ht:=elem25) (kl:=.i64) (l:=(n:Int)) (h0:=by omega) (h1:=by omega)]
 rw [hs]
 simp only [Result.andThen,sliced,Int.toNat_natCast]
 by_cases h:n=c
 ·rw [if_pos h.symm,if_pos h]
 ·rw [if_neg (fun e=>h e.symm),if_neg h]
  simp [Addr.add]
def openB (t:Src):Bool:=decide (t.body≠[]∧retd t.body=false)
theorem retd_get {l:List Nd} (h:l≠[]):retd l=decide (((l.map trN).getD (l.length - 1) noNt).kind=13):=by
 obtain ⟨vs,x,rfl⟩:∃ vs x,l=vs++[x]:=⟨l.dropLast,l.getLast h,(List.dropLast_concat_getLast h).symm⟩
 rw [retd_snocU]
 have:((vs++[x]).map trN).getD ((vs++[x]).length - 1) noNt=trN x:=by
  rw [List.getD_eq_getElem?_getD,List.getElem?_map]
  simp
 rw [this]
 cases x with
 | mk k tt v p ns ps ks =>
  rw [trN_mk]
  show decide (k=13)=decide ((k:Int)=13)
  rw [Bool.eq_iff_iff,decide_eq_true_eq,decide_eq_true_eq]
  omega
theorem open_ok (t:Src) (t0 t1 t2 t3 t4 t5:Value) (w:World) (hall:(#[t0,t1,t2,t3,t4,t5]:Array Value).all (·.oneCell')=true) (h:TsV w t t0 t1 t2 t3 t4 t5):Calls Tryz.prog 17 #[.agg #[t0,t1,t2,t3,t4,t5]] w (RB (openB t) w):=by
 obtain ⟨p,c,kb,ko,e5,hc,hl,hp,hs⟩:=h.tv.body
 have hlen:(trS t).body.length=t.body.length:=by show (trL t.body).length=_; rw [trL_len]
 rw [hlen] at e5 hc hl hp
 subst e5
 obtain ⟨n,hn⟩:∃ n,t.body.length=n:=⟨_,rfl⟩
 have hall2:=mkHid hall
 clear hall
 by_cases h0:n=0
 ·have e:Hid (openB t=false):=mkHid (decide_eq_false (fun h=>h.1 (List.length_eq_zero_iff.1 (by omega))))
  rw [hn,h0]
  clear h hs hp
  go_enter Tryz.func17,Tryz.ntmps17
  go_wp2_with fail
  go_ret
  exact ⟨by rw [e.out]; rfl,Bl.alloc _ _⟩
 ·have hne:t.body≠[]:=fun e=>h0 (by rw [← hn,e]; rfl)
  have hp':=hp (by omega)
  subst hp'
  obtain ⟨m,hm⟩:∃ m,n=m+1:=⟨n - 1,by omega⟩
  obtain ⟨a,sn,sp,sk,lb,x0,_,_,_,_,_,_,_⟩:=(hs.get m (by rw [hlen]; omega)).cells
  have hk:Hid (openB t=!decide (((trS t).body.getD m noNt).kind=13)):=mkHid (by
   unfold openB
   rw [retd_get hne,show t.body.length - 1=m by omega,← trL_map]
   show decide (t.body≠[]∧decide (((trL t.body).getD m noNt).kind=13)=false)=!decide (((trL t.body).getD m noNt).kind=13)
   rw [Bool.eq_iff_iff]
   simp [hne])
  generalize ((trS t).body.getD m noNt).kind=k at *
  generalize openB t=OB at *
  rw [hn]
  have hwm:IntKind.i64.wrap ((n:Int) - 1)=(m:Int):=by rw [wrap_id _ (by omega) (by omega)]; omega
  have hn0:(0:Int) < n:=by omega
  have hmn:(m:Int) < n:=by omega
  have LB:=mkHid lb
  obtain ⟨W,hW⟩:∃ X,w.alloc (.cells #[t0,t1,t2,t3,t4,.slice (some ⟨kb,ko,none⟩) n c] 27)=X:=⟨_,rfl⟩
  have bW:Bl w W:=hW▸Bl.alloc _ _
  have y0:W.cell? ⟨kb,ko+m * 7,none⟩=some (.int .i64 k):=by rw [World.cell?_of_block (w:=w) (bW.block kb lb)]; exact x0
  have g0:W.heap[w.heap.size]?=some (.cells #[t0,t1,t2,t3,t4,.slice (some ⟨kb,ko,none⟩) n c] 27 (0,0)):=hW▸heap_alloc_new _ _
  have z5:W.cell? ⟨w.heap.size,5,none⟩=some (.slice (some ⟨kb,ko,none⟩) n c):=by rw [cell_in g0]; rfl
  have BW:=mkHid bW
  clear h hs hp hl hlen hc hne lb x0 bW g0 hn h0 hm
  by_cases h13:k=13
  ·have q:(k != 13)=false:=by simp [h13]
   have e:Hid (OB=false):=mkHid (by rw [hk.out,decide_eq_true h13]; rfl)
   clear hk h13
   go_enter Tryz.func17,Tryz.ntmps17
   go_wp2_with fail
   go_ret
   exact ⟨by rw [e.out]; rfl,BW.out⟩
  ·have q:(k != 13)=true:=by simp [h13]
   have e:Hid (OB=true):=mkHid (by rw [hk.out,decide_eq_false h13]; rfl)
   clear hk h13
   go_enter Tryz.func17,Tryz.ntmps17
   go_wp2_with fail
   go_ret
   exact ⟨by rw [e.out]; rfl,BW.out⟩
def barB (ts:Ts) (c:Nat):Bool:=decide (c=0∧(ts.getD 0 noT).1.kind=12)
theorem barred_ok (s:ByteArray) (ts:Ts) (c a:Nat) (w:World) (hE:Env w) (h1:s.size≤140737488355328) (hl:LexR (lst s) ts c a):Calls Tryz.prog 11 #[.string s] w (RB (barB ts c) w):=by
 obtain ⟨W0,hW0⟩:∃ X,w=X:=⟨_,rfl⟩
 have HA:=mkHid (tokens_v hl h1 w hE.tab)
 by_cases hc:c=0
 ·subst hc
  have ha:a=0:=hl.good.1
  subst ha
  have h0:0 < ts.length:=hl.okq.1.lt
  generalize hn:ts.length=n at *
  have hn0:(0:Int) < n:=by omega
  have HN:=mkHid hn
  have h0':0 < n:=h0
  have HB:Hid (barB ts 0=decide ((ts.getD 0 noT).1.kind=12)):=mkHid (by unfold barB; simp)
  generalize barB ts 0=BB at *
  clear hl hE hn hW0
  go_enter Tryz.func11,Tryz.ntmps11
  go_upto_region 2 with (
             go_at_call 19; refine HA.out.mono ?_; rintro e w2 ⟨pa,ka,rfl,ra,qa,na,ma,b2⟩
             obtain ⟨g,rfl⟩:=qa h0'
             have hB2:=mkHid b2
             have hkm:ka≤9223372036854775807:=ma
             have rA:=mkHid ra)
  have x0:=((rA.out.keep (Bl.alloc w2 (.cells #[.int .i64 0,.int .i64 0] 30))).cells 0 (by rw [HN.out]; exact h0')).1
  rw [Nat.zero_mul] at x0
  have BW:Hid (Bl w (w2.alloc (.cells #[.int .i64 0,.int .i64 0] 30))):=mkHid (hB2.out.trans (Bl.alloc _ _))
  generalize (ts.getD 0 noT).1.kind=k at *
  clear HA rA
  by_cases h12:k=12
  ·have q:((k:Int) == 12)=true:=by simp; omega
   have e:Hid (BB=true):=mkHid (by rw [HB.out]; exact decide_eq_true h12)
   clear HB h12
   go_wp2_with fail
   go_ret
   exact ⟨by rw [e.out]; rfl,BW.out⟩
  ·have q:((k:Int) == 12)=false:=by simp; omega
   have e:Hid (BB=false):=mkHid (by rw [HB.out]; exact decide_eq_false h12)
   clear HB h12
   go_wp2_with fail
   go_ret
   exact ⟨by rw [e.out]; rfl,BW.out⟩
 ·have hcz:((c:Int) == 0)=false:=by simp; omega
  have e:Hid (barB ts c=false):=mkHid (decide_eq_false (fun h=>hc h.1))
  clear hl hE hW0 hc
  go_enter Tryz.func11,Tryz.ntmps11
  go_wp2_with (go_at_call 19; refine HA.out.mono ?_; rintro e w2 ⟨pa,ka,rfl,ra,qa,na,ma,b2⟩)
  go_ret
  exact ⟨by rw [e.out]; rfl,b2.trans (Bl.alloc _ _)⟩
def srcX:ByteArray:=⟨#[120]⟩
def treeX:Src:=match readP (tokK srcX) (wholeP false (tokK srcX)) (fuelT (tokK srcX)) with | some (some t,_,_)=>t | _=>⟨[],0,0,[],[],[]⟩
theorem lexX:LexR (lst srcX) (tokK srcX) 0 0:=Or.inr ⟨by decide,usK srcX,none,lx_of 100 0 _ _ _ (by decide +kernel),Or.inl ⟨rfl,by decide +kernel,rfl,rfl⟩⟩
theorem readX:readP (tokK srcX) (wholeP false (tokK srcX)) (fuelT (tokK srcX))=some (some treeX,0,0):=by kernel_rfl
theorem readsX:Reads false [120] (some treeX) 0 0:=⟨_,0,0,lexX,Or.inr ⟨rfl,readX⟩⟩
theorem kindX:((tokK srcX).getD 0 noTk).1.kind≠12:=by decide +kernel
theorem Reads.lexd {m:Bool} {l:Bs} {t:Option Src} {a:Nat} (h:Reads m l t 0 a):∃ ts,LexR l ts 0 0:=by
 obtain ⟨ts,c0,a0,h1,h2⟩:=h
 rcases h2 with ⟨h2,_,h3,_⟩ | ⟨rfl,_⟩
 ·exact absurd h3.symm h2
 ·rcases h1 with ⟨_,_,h3,_⟩ | ⟨hl,us,er,hx,hr⟩
  ·cases h3
  rcases hr with ⟨rfl,rfl,_,rfl⟩ | ⟨p,_,_,h3,_⟩
  ·exact ⟨_,Or.inr ⟨hl,us,none,hx,Or.inl ⟨rfl,rfl,rfl,rfl⟩⟩⟩
  ·cases h3
def midJ (p:Bool):ByteArray:=if p=true then ⟨#[32]⟩ else ⟨#[32,46,32]⟩
theorem joined_both {one two:ByteArray} {ta tb:Src} {tsb:Ts} {cB aB:Nat} (r1:Reads false (lst one) (some ta) 0 0) (r2:Reads false (lst two) (some tb) 0 0)
  (ho:openB ta=true) (hl:LexR (lst two) tsb cB aB) (hb:barB tsb cB=false) (h4:one.size+two.size+20≤4096) :
  ∃ p:Bool,(∀ r c a,Reads false (lst (one++⟨#[32,46,32]⟩++⟨#[120]⟩)) r c a→(p=true→c≠0)∧(p=false→c=0)) ∧
   ∃ t,Reads false (lst (one++midJ p++two)) (some t) 0 0∧(trS t).body=(trS ta).body++(trS tb).body∧(trS t).names.length=(trS ta).names.length:=by
 obtain ⟨ts1,h1⟩:=r1.lexd
 obtain ⟨ts2,h2⟩:=r2.lexd
 obtain ⟨rfl,rfl,rfl⟩:=h2.unique hl
 obtain ⟨ho1,ho2⟩:=of_decide_eq_true ho
 have hk:(tsb.getD 0 noTk).1.kind≠12:=fun h=>of_decide_eq_false hb ⟨rfl,h⟩
 obtain ⟨p,hp,hp2⟩:=joined_pure h1 r1 ho1 ho2 (by rw [lst_len]; omega)
 have e1:lst (one++⟨#[32,46,32]⟩++⟨#[120]⟩)=lst one++[32,46,32,120]:=by
  rw [append_lst,append_lst,List.append_assoc]; rfl
 refine ⟨p,fun r c a h=>⟨fun hpt=>?_,fun hpf=>?_⟩,?_⟩
 ·rw [e1] at h
  exact hp2 hpt r c a h
 ·rw [e1] at h
  obtain ⟨t,h',_⟩:=(hp [120] _ treeX lexX readsX kindX (by rw [lst_len]; simp; omega)).1 hpf
  exact (h'.unique h).2.1
 ·obtain ⟨g1,g2⟩:=hp (lst two) _ tb hl r2 hk (by rw [lst_len,lst_len]; omega)
  have fin:∀ mid:Bs,lst (one++midJ p++two)=lst one++(mid++lst two)→Good (lst one) mid (lst two) ta tb→∃ t,Reads false (lst (one++midJ p++two)) (some t) 0 0∧(trS t).body=(trS ta).body++(trS tb).body∧(trS t).names.length=(trS ta).names.length:=by
   rintro mid e ⟨t,q1,q2,q3⟩
   refine ⟨t,by rw [e]; exact q1,?_,q3⟩
   show trL t.body=trL ta.body++trL tb.body
   rw [trL_map,trL_map,trL_map]
   exact q2
  cases p with
  | false=>exact fin _ (by rw [append_lst,append_lst,List.append_assoc]; rfl) (g1 rfl)
  | true=>exact fin _ (by rw [append_lst,append_lst,List.append_assoc]; rfl) (g2 rfl)
end Go.Proofs.YtfhkhmgodkheaaaGreatDoor
