import Derived.Test.YtfhkhmgodkheaaaGreatDoorQCG39TKn
import Derived.Test.YtfhkhmgodkheaaaGreatDoorQCG32TW2
import Derived.Test.YtfhkhmgodkheaaaGreatDoorQCG36TBr
import Derived.BigQuiet
import Derived.Deep.QuietTactic
set_option linter.unusedSimpArgs false
set_option linter.unusedVariables false
set_option maxRecDepth 1000000
set_option maxHeartbeats 16000000
namespace Go.Proofs.YtfhkhmgodkheaaaGreatDoor
open Go.RowKit Go.Maps
structure TsV (w:World) (t:Src) (t0 t1 t2 t3 t4 t5:Value):Prop where
 e:(.agg #[t0,t1,t2,t3,t4,t5]:Value)=trV (trS t) t1 t3 t4 t5
 tv:TvM w (trS t) t3 t4 t5
 tr:TrM w (trS t) t1 t3 t4 t5
theorem TsV.keep {w w':World} {t:Src} {t0 t1 t2 t3 t4 t5:Value} (h:TsV w t t0 t1 t2 t3 t4 t5) (b:Bl w w'):TsV w' t t0 t1 t2 t3 t4 t5:=⟨h.e,h.tv.keep b,h.tr.keep b⟩
theorem ts_of {m:Bool} {l:Bs} {c a:Nat} {t:Src} (hr:Reads m l (some t) c a) {w:World} {t0 t1 t2 t3 t4 t5:Value} {ft:List Nat} (hs:SrM w t (.agg #[t0,t1,t2,t3,t4,t5]) ft):TsV w t t0 t1 t2 t3 t4 t5:=by
 obtain ⟨q1,q2,q3⟩:=hr.sm
 obtain ⟨a',sn,sp,sb,hv,h1,h2⟩:=hs.tv (by omega) (by omega) q3
 have hv2:=hv
 unfold trV at hv
 injection hv with hv
 injection hv with hv
 injection hv with e0 hv
 injection hv with e1 hv
 injection hv with e2 hv
 injection hv with e3 hv
 injection hv with e4 hv
 injection hv with e5 _
 subst e1; subst e3; subst e4; subst e5
 exact ⟨hv2,h1,h2⟩
def PostV (w:World) (r:Option Src) (c a:Nat) (e:Ending) (w':World):Prop:=Bl w w'∧∃ t0 t1 t2 t3 t4 t5,e=.returned (.tuple #[.agg #[t0,t1,t2,t3,t4,t5],.agg #[.int .i64 c,.int .i64 a]])∧(#[t0,t1,t2,t3,t4,t5]:Array Value).all (·.oneCell')=true∧∀ t,r=some t→∃ ft,SrM w' t (.agg #[t0,t1,t2,t3,t4,t5]) ft∧Apt w.heap.size ft
theorem postV_of {w:World} {r:Option Src} {c a:Nat} {e:Ending} {w':World} (h:PostD w r c a e w'):PostV w r c a e w':=by
 obtain ⟨b,h⟩:=h
 refine ⟨b,?_⟩
 cases r with
 | none =>
  dsimp only at h;exact ⟨_,_,_,_,_,_,h,by kernel_rfl,fun t ht=>by cases ht⟩
 | some t =>
  obtain ⟨t0,t1,t2,t3,t4,t5,ft,rfl,hs,ha⟩:=h;exact ⟨t0,t1,t2,t3,t4,t5,rfl,hs.all.1,fun t' ht=>by injection ht with ht; subst ht; exact ⟨ft,hs,ha⟩⟩
theorem reads_top (m:Bool) (src:ByteArray) (r:Option Src) (c a:Nat) (w:World) (hE:Env w) (hs:src.size≤140737488355328) (h:Reads m (lst src) r c a):Calls Tryz.prog (if m=true then 23 else 10) #[.string src] w (PostV w r c a):=by
 cases m
 ·exact (doit_top src r c a w hE.tab hs h).mono (fun e w' h'=>postV_of h')
 ·exact (method_top src r c a w hE.tab hs h).mono (fun e w' h'=>postV_of h')
theorem ba_tl (a b:Bs):((ba a).toList == (ba b).toList)=decide (a=b):=by
 rw [tl_lst,tl_lst,qJ,qJ]
 rw [Bool.eq_iff_iff]
 simp
theorem list_ext_getD {l l':List Bs} (hn:l.length=l'.length) (h:∀ j,j < l.length→l.getD j []=l'.getD j []):l=l':=by
 refine List.ext_getElem hn (fun i h1 h2=>?_)
 have:=h i h1
 rw [List.getD_eq_getElem?_getD,List.getD_eq_getElem?_getD,List.getElem?_eq_getElem h1,List.getElem?_eq_getElem h2] at this
 exact this
theorem sameTexts_ok (v v':Value) (l l':List Bs) (w:World) (h:RdS w v l) (h':RdS w v' l') (hl:l.length≤140737488355328) (hl':l'.length≤140737488355328):Calls Tryz.prog 26 #[v,v'] w (RB (decide (l=l')) w):=by
 obtain ⟨p,c,rfl,hc,hp⟩:=h
 obtain ⟨p',c',rfl,hc',hp'⟩:=h'
 by_cases hn:l.length=l'.length
 rotate_left
 ·have hne:¬ ((l.length:Int)=l'.length):=by omega
  have hne2:((l.length:Int) != l'.length)=true:=by simp; omega
  have hE:Hid (decide (l=l')=false):=qd (decide_eq_false (fun e=>hn (by rw [e])))
  generalize l.length=n at *;generalize l'.length=n' at *;clear hp hp' hn
  go_enter Tryz.func26,Tryz.ntmps26
  go_wp2_with fail
  go_ret
  exact ⟨by rw [hE.out]; rfl,Bl.refl _⟩
 have HP:=qd hp
 have HP':=qd hp'
 have HX:=qd (@list_ext_getD l l' hn)
 have HL:Hid (∀ j,l.getD j []≠l'.getD j []→decide (l=l')=false):=qd (fun j h=>decide_eq_false (fun e=>h (by rw [e])))
 have HD:=qd (decide_eq_true (p:=l=l'))
 rw [← hn] at HP' hc' ⊢
 generalize hG:l.length=n at *
 generalize decide (l=l')=BB at *
 clear hp hp' hn
 go_enter Tryz.func26,Tryz.ntmps26
 go_wp2_with fail
 go_loopw [5] (fun q wr=>∃ i:Nat,i≤n∧q=.int .i64 i∧Hid (∀ j,j < i→l.getD j []=l'.getD j [])∧Hid (Bl w wr)) (fun q _=>n - (intOf q).toNat)
 case atStart=>exact ⟨0,Nat.zero_le _,rfl,qd (fun j hj=>by omega),qd (Bl.refl _)⟩
 case round =>
  obtain ⟨i,hi,rfl,hok,hbl⟩:=hrel
  by_cases hin:i < n
  ·have hii:(i:Int) < n:=by omega
   obtain ⟨b,off,rfl,hb,hcs⟩:=HP.out (by omega)
   obtain ⟨b',off',rfl,hb',hcs'⟩:=HP'.out (by omega)
   have x0:wr.cell? ⟨b,off+i,none⟩=some (.string (ba (l.getD i []))):=by rw [World.cell?_of_block (w:=w) (hbl.out.block b hb)]; exact hcs i hin
   have y0:wr.cell? ⟨b',off'+i,none⟩=some (.string (ba (l'.getD i []))):=by rw [World.cell?_of_block (w:=w) (hbl.out.block b' hb')]; exact hcs' i (by omega)
   have hS:=HL.out i;have hT:=ba_tl (l.getD i []) (l'.getD i []);have hJ:Hid (l.getD i []=l'.getD i []→∀ j,j < i+1→l.getD j []=l'.getD j []):=qd (fun h j hj=>by
    by_cases he:j=i
    ·rw [he,h]
    ·exact hok.out j (by omega))
   clear HX HL HP HP' hcs hcs' hok HD;generalize l.getD i []=s at *;generalize l'.getD i []=t at *
   by_cases hst:s=t
   ·rw [decide_eq_true hst] at hT
    have hJ2:=qd (hJ.out hst);clear hJ hS hst hb hb';generalize ba s=S at *;generalize ba t=T at *
    go_wp2_with fail
    go_quiet (fail)
    go_wp2_with fail
    go_roundw
    case rel=>exact ⟨i+1,by omega,by go_num,hJ2,qd (hbl.out.trans (Bl.drewN _ _))⟩
    case measure=>simp [intOf]; omega
   ·rw [decide_eq_false hst] at hT
    have hE:=qd (hS hst);clear hJ hS hst hb hb';generalize ba s=S at *;generalize ba t=T at *
    go_wp2_with fail
    go_quiet (fail)
    go_wp2_with fail
    go_ret
    exact ⟨by rw [hE.out]; rfl,hbl.out.trans (Bl.drewN _ _)⟩
  ·have hie:¬ (i:Int) < n:=by omega
   have hE:Hid (BB=true):=qd (HD.out (HX.out (fun j hj=>hok.out j (by omega))))
   clear HX HL HP HP' HD hok
   go_wp2_with fail
   go_ret
   exact ⟨by rw [hE.out]; rfl,hbl.out⟩
mutual
def likeB:Nt→Nt→Bool
 | .mk k t m ns ks,.mk k' t' m' ns' ks'=>decide (k=k') && (decide (t=t') && (decide (m=m') && (decide (ns=ns') && ju ks ks')))
def ju:List Nt→List Nt→Bool
 | [],[]=>true
 | a :: r,b :: r'=>likeB a b && ju r r'
 | _,_=>false
end
theorem likeB_is (n m:Nt):likeB n m=(decide (n.kind=m.kind) && (decide (n.text=m.text) && (decide (n.num=m.num) && (decide (n.names=m.names) && ju n.kids m.kids)))):=by
 cases n; cases m; rw [likeB]; rfl
mutual
theorem likeB_eq:∀ (n m:Nt),likeB n m=true ↔ n=m
 | .mk k t m ns ks,.mk k' t' m' ns' ks'=>by
  rw [likeB];simp only [Bool.and_eq_true,decide_eq_true_eq,likesB_eq ks ks']
  constructor
  ·rintro ⟨rfl,rfl,rfl,rfl,rfl⟩; rfl
  ·intro h; injection h with h1 h2 h3 h4 h5; exact ⟨h1,h2,h3,h4,h5⟩
theorem likesB_eq:∀ (l l':List Nt),ju l l'=true ↔ l=l'
 | [],[]=>by rw [ju]; simp
 | a :: r,b :: r'=>by
  rw [ju];simp only [Bool.and_eq_true,likeB_eq a b,likesB_eq r r']
  constructor
  ·rintro ⟨rfl,rfl⟩; rfl
  ·intro h; injection h with h1 h2; exact ⟨h1,h2⟩
 | [],b :: r'=>by rw [ju] <;> simp
 | a :: r,[]=>by rw [ju] <;> simp
end
theorem likes_len:∀ (l l':List Nt),l.length≠l'.length→ju l l'=false:=by
 intro l l' h
 cases e:ju l l' with
 | false=>rfl
 | true=>rw [(likesB_eq l l').1 e] at h; exact absurd rfl h
theorem likes_all:∀ (l l':List Nt),l.length=l'.length→(∀ j,j < l.length→likeB (l.getD j qE) (l'.getD j qE)=true)→ju l l'=true:=by
 intro l
 induction l with
 | nil=>intro l' h _; have:l'=[]:=List.length_eq_zero_iff.1 h.symm; subst this; rfl
 | cons a r ih =>
  intro l' h hall
  cases l' with
  | nil=>simp at h
  | cons b r' =>
   rw [ju,ih r' (by simpa using h) (fun j hj=>by simpa using hall (j+1) (by simpa using hj))]
   have:=hall 0 (by simp)
   simp at this
   rw [this];rfl
theorem likes_bad:∀ (l l':List Nt) (j:Nat),j < l.length→l.length=l'.length→likeB (l.getD j qE) (l'.getD j qE)=false→ju l l'=false:=by
 intro l l' j hj hn h
 cases e:ju l l' with
 | false=>rfl
 | true =>
  have:=(likesB_eq l l').1 e;subst this;rw [(likeB_eq _ _).2 rfl] at h
  cases h
theorem NdV.keep {w w':World} {n:Nt} {v:Value} (h:NdV w n v) (b:Bl w w'):NdV w' n v:=by
 obtain ⟨a,sn,sp,sk,h1,h2,h3,h4,h5⟩:=h
 exact ⟨a,sn,sp,sk,h1,h2,h3,h4.keep b,h5.keep b⟩
theorem ndv_all {w:World} {n:Nt} {c0 c1 c2 c3 c4 c5 c6:Value} (h:NdV w n (.agg #[c0,c1,c2,c3,c4,c5,c6])):(#[c0,c1,c2,c3,c4,c5,c6]:Array Value).all (·.oneCell')=true:=by
 obtain ⟨a,sn,sp,sk,h1,h2,_⟩:=h
 injection h1 with h1
 rw [h1]
 exact h2
def CK (n m:Nt):Prop:=∀ (v v':Value) (w:World),NdV w n v→NdV w m v'→Calls Tryz.prog 12 #[v,v'] w (RB (likeB n m) w)
theorem like_ok (n m:Nt) (hK:∀ (v v':Value) (w:World),RvN w v n.kids→RvN w v' m.kids→Calls Tryz.prog 18 #[v,v'] w (RB (ju n.kids m.kids) w)):CK n m:=by
 rintro v v' w ⟨a,sn,sp,sk,rfl,hall,hn,hs,hk⟩ ⟨a',sn',sp',sk',rfl,hall',hn',hs',hk'⟩
 have HS:=qd (fun V (bl:Bl w V)=>sameTexts_ok sn sn' n.names m.names V (hs.keep bl) (hs'.keep bl) (by omega) (by omega))
 have HK:=qd (fun V (bl:Bl w V)=>hK sk sk' V (hk.keep bl) (hk'.keep bl))
 have hE:=qd (likeB_is n m)
 have hT:=ba_tl n.text m.text
 generalize n.kind=k at *
 generalize m.kind=k' at *
 generalize n.text=t at *
 generalize m.text=t' at *
 generalize n.num=u at *
 generalize m.num=u' at *
 generalize likeB n m=BB at *
 have hall2:=qd hall
 have hall3:=qd hall'
 clear hK hs hs' hk hk' hn hn' hall hall'
 obtain ⟨W,hW⟩:∃ X,(w.alloc (.cells #[.int .i64 k,.string (ba t),.int .i64 u,a,sn,sp,sk] 34)).alloc (.cells #[.int .i64 k',.string (ba t'),.int .i64 u',a',sn',sp',sk'] 34)=X:=⟨_,rfl⟩
 obtain ⟨bW,_,g0,g1⟩:=two_boxes hW
 have BW:=qd bW
 have G0:=qd g0
 have G1:=qd g1
 have L0:=qd (qf g0)
 have L1:=qd (qf g1)
 have x0:W.cell? ⟨w.heap.size,0,none⟩=some (.int .i64 k):=by (rw [qh g0]; rfl)
 have y0:W.cell? ⟨w.heap.size+1,0,none⟩=some (.int .i64 k'):=by (rw [qh g1]; rfl)
 have x1:W.cell? ⟨w.heap.size,1,none⟩=some (.string (ba t)):=by (rw [qh g0]; rfl)
 have y1:W.cell? ⟨w.heap.size+1,1,none⟩=some (.string (ba t')):=by (rw [qh g1]; rfl)
 have x2:W.cell? ⟨w.heap.size,2,none⟩=some (.int .i64 u):=by (rw [qh g0]; rfl)
 have y2:W.cell? ⟨w.heap.size+1,2,none⟩=some (.int .i64 u'):=by (rw [qh g1]; rfl)
 have x4:W.cell? ⟨w.heap.size,4,none⟩=some (sn):=by (rw [qh g0]; rfl)
 have y4:W.cell? ⟨w.heap.size+1,4,none⟩=some (sn'):=by (rw [qh g1]; rfl)
 have x6:W.cell? ⟨w.heap.size,6,none⟩=some (sk):=by (rw [qh g0]; rfl)
 have y6:W.cell? ⟨w.heap.size+1,6,none⟩=some (sk'):=by (rw [qh g1]; rfl)
 clear bW g0 g1
 by_cases hkk:k=k'
 rotate_left
 ·have q:(k == k')=false:=beq_eq_false_iff_ne.2 hkk
  have e:Hid (BB=false):=qd (by rw [hE.out,decide_eq_false hkk]; rfl)
  clear hE hkk HS HK hT
  go_enter Tryz.func12,Tryz.ntmps12
  go_wp2_with fail
  go_ret
  exact ⟨by rw [e.out]; rfl,BW.out⟩
 have q:(k == k')=true:=beq_iff_eq.2 hkk
 rw [decide_eq_true hkk,Bool.true_and] at hE
 clear hkk
 by_cases htt:t=t'
 rotate_left
 ·rw [decide_eq_false htt] at hT hE
  have e:Hid (BB=false):=qd (by rw [hE.out]; rfl)
  clear hE htt HS HK
  go_enter Tryz.func12,Tryz.ntmps12
  go_wp2_with fail
  go_ret
  exact ⟨by rw [e.out]; rfl,BW.out⟩
 rw [decide_eq_true htt] at hT hE
 rw [Bool.true_and] at hE
 clear htt
 by_cases huu:u=u'
 rotate_left
 ·have q2:(u == u')=false:=beq_eq_false_iff_ne.2 huu
  have e:Hid (BB=false):=qd (by rw [hE.out,decide_eq_false huu]; rfl)
  clear hE huu HS HK
  go_enter Tryz.func12,Tryz.ntmps12
  go_wp2_with fail
  go_ret
  exact ⟨by rw [e.out]; rfl,BW.out⟩
 have q2:(u == u')=true:=beq_iff_eq.2 huu
 rw [decide_eq_true huu,Bool.true_and] at hE
 clear huu
 have HS2:=qd (HS.out W BW.out)
 clear HS
 generalize (decide (n.names=m.names))=NB at *
 generalize ju n.kids m.kids=KB at *
 cases NB with
 | false =>
  have e:Hid (BB=false):=qd (by rw [hE.out]; rfl)
  clear hE HK
  go_enter Tryz.func12,Tryz.ntmps12
  go_wp2_with (go_at_call 26; refine HS2.out.mono ?_; rintro e w1 ⟨rfl,b1⟩)
  go_ret
  exact ⟨by rw [e.out]; rfl,BW.out.trans b1⟩
 | true =>
  have e:Hid (BB=KB):=qd (by rw [hE.out]; rfl)
  clear hE
  go_enter Tryz.func12,Tryz.ntmps12
  go_wp2_with (first
   | (
    go_at_call 26; refine HS2.out.mono ?_; rintro e w1 ⟨rfl,b1⟩
    have g0:=(b1.block _ L0.out).trans G0.out;have g1:=(b1.block _ L1.out).trans G1.out;have z6:w1.cell? ⟨w.heap.size,6,none⟩=some sk:=by (rw [qh g0]; rfl)
    have z7:w1.cell? ⟨w.heap.size+1,6,none⟩=some sk':=by (rw [qh g1]; rfl)
    have HK1:=qd (HK.out w1 (BW.out.trans b1));have B1:=qd (BW.out.trans b1);clear g0 g1)
   | (go_at_call 18; refine HK1.out.mono ?_; rintro e w2 ⟨rfl,b2⟩))
  go_ret
  exact ⟨by rw [e.out]; rfl,B1.out.trans b2⟩
theorem likeAll_ok (v v':Value) (l l':List Nt) (w:World) (hK:∀ i,i < l.length→CK (l.getD i qE) (l'.getD i qE)) (h:RvN w v l) (h':RvN w v' l'):Calls Tryz.prog 18 #[v,v'] w (RB (ju l l') w):=by
 obtain ⟨p,c,kb,ko,rfl,hc,hl,hp,hs⟩:=h
 obtain ⟨p',c',kb',ko',rfl,hc',hl',hp',hs'⟩:=h'
 by_cases hn:l.length=l'.length
 rotate_left
 ·have hne2:((l.length:Int) != l'.length)=true:=by simp; omega
  have hE:Hid (ju l l'=false):=qd (likes_len l l' hn);generalize l.length=n at *;generalize l'.length=n' at *;clear hp hp' hn hK
  go_enter Tryz.func18,Tryz.ntmps18
  go_wp2_with fail
  go_ret
  exact ⟨by rw [hE.out]; rfl,Bl.refl _⟩
 have HP:=qd hp
 have HP':=qd hp'
 have HX:=qd (likes_all l l' hn)
 have HL:=qd (fun j (hj:j < l.length)=>likes_bad l l' j hj hn)
 have HS:=qd hs
 have HS':=qd hs'
 have HK:=qd hK
 rw [← hn] at HP' hc' hl' ⊢
 have HG:Hid (l.length=l'.length):=qd hn
 generalize hG:l.length=n at *
 generalize ju l l'=BB at *
 clear hp hp' hn hs hs' hK
 go_enter Tryz.func18,Tryz.ntmps18
 go_wp2_with fail
 go_loopw [5,6] (fun q r wr=>∃ i:Nat,i≤n∧q=.int .i64 i∧Hid (∀ j,j < i→likeB (l.getD j qE) (l'.getD j qE)=true)∧Hid (Bl w wr)) (fun q _ _=>n - (intOf q).toNat)
 case atStart=>exact ⟨0,Nat.zero_le _,rfl,qd (fun j hj=>by omega),qd (Bl.refl _)⟩
 case round =>
  obtain ⟨i,hi,rfl,hok,hbl⟩:=hrel
  by_cases hin:i < n
  ·have hii:(i:Int) < n:=by omega
   have e1:=HP.out (by omega)
   have e2:=HP'.out (by omega)
   subst e1; subst e2;obtain ⟨a,sn,sp,sk,lb,x0,x1,x2,x3,x4,x5,x6,hv⟩:=(NvM.keep (HS.out.get i (by rw [hG]; exact hin)) hbl.out).cells
   obtain ⟨a',sn',sp',sk',lb',y0,y1,y2,y3,y4,y5,y6,hv'⟩:=(NvM.keep (HS'.out.get i (by rw [← HG.out]; exact hin)) hbl.out).cells
   have hall:=qd (ndv_all hv);have hall':=qd (ndv_all hv');have HC:=qd (fun V (b:Bl wr V)=>HK.out i hin _ _ V (hv.keep b) (hv'.keep b))
   have hS:=qd (HL.out i hin);have hJ:Hid (likeB (l.getD i qE) (l'.getD i qE)=true→∀ j,j < i+1→likeB (l.getD j qE) (l'.getD j qE)=true):=qd (fun h j hj=>by
    by_cases he:j=i
    ·rw [he,h]
    ·exact hok.out j (by omega))
   generalize likeB (l.getD i qE) (l'.getD i qE)=K at *;clear hv hv' HK HL HX HS HS' HP HP' hok;have LB:=qd lb;have LB':=qd lb';clear lb lb';generalize (l.getD i qE).kind=k at *;generalize (l.getD i qE).text=t at *;generalize (l.getD i qE).num=u at *;generalize (l'.getD i qE).kind=k' at *;generalize (l'.getD i qE).text=t' at *;generalize (l'.getD i qE).num=u' at *;have HCC:Hid (∀ V,Bl wr V→V.cell? ⟨kb,ko+i * 7,none⟩=some (.int .i64 k)∧V.cell? ⟨kb,ko+i * 7+1,none⟩=some (.string (ba t))∧V.cell? ⟨kb,ko+i * 7+2,none⟩=some (.int .i64 u)∧V.cell? ⟨kb,ko+i * 7+3,none⟩=some (a)∧V.cell? ⟨kb,ko+i * 7+4,none⟩=some (sn)∧V.cell? ⟨kb,ko+i * 7+5,none⟩=some (sp)∧V.cell? ⟨kb,ko+i * 7+6,none⟩=some (sk)∧V.cell? ⟨kb',ko'+i * 7,none⟩=some (.int .i64 k')∧V.cell? ⟨kb',ko'+i * 7+1,none⟩=some (.string (ba t'))∧V.cell? ⟨kb',ko'+i * 7+2,none⟩=some (.int .i64 u')∧V.cell? ⟨kb',ko'+i * 7+3,none⟩=some (a')∧V.cell? ⟨kb',ko'+i * 7+4,none⟩=some (sn')∧V.cell? ⟨kb',ko'+i * 7+5,none⟩=some (sp')∧V.cell? ⟨kb',ko'+i * 7+6,none⟩=some (sk')):=qd (fun V b=>by
    have e:∀ o,V.cell? ⟨kb,o,none⟩=wr.cell? ⟨kb,o,none⟩:=fun o=>World.cell?_of_block (w:=wr) (b.block kb LB.out)
    have e':∀ o,V.cell? ⟨kb',o,none⟩=wr.cell? ⟨kb',o,none⟩:=fun o=>World.cell?_of_block (w:=wr) (b.block kb' LB'.out)
    exact ⟨(e _).trans x0,(e _).trans x1,(e _).trans x2,(e _).trans x3,(e _).trans x4,(e _).trans x5,(e _).trans x6,(e' _).trans y0,(e' _).trans y1,(e' _).trans y2,(e' _).trans y3,(e' _).trans y4,(e' _).trans y5,(e' _).trans y6⟩)
   clear x0 x1 x2 x3 x4 x5 x6 y0 y1 y2 y3 y4 y5 y6 LB LB'
   go_wp2_with fail
   refine wp_region_held_drew (S:=fun V=>V.cell? ⟨kb,ko+i * 7,none⟩=some (.int .i64 k)∧V.cell? ⟨kb,ko+i * 7+1,none⟩=some (.string (ba t))∧V.cell? ⟨kb,ko+i * 7+2,none⟩=some (.int .i64 u)∧V.cell? ⟨kb,ko+i * 7+3,none⟩=some (a)∧V.cell? ⟨kb,ko+i * 7+4,none⟩=some (sn)∧V.cell? ⟨kb,ko+i * 7+5,none⟩=some (sp)∧V.cell? ⟨kb,ko+i * 7+6,none⟩=some (sk)∧V.cell? ⟨kb',ko'+i * 7,none⟩=some (.int .i64 k')∧V.cell? ⟨kb',ko'+i * 7+1,none⟩=some (.string (ba t'))∧V.cell? ⟨kb',ko'+i * 7+2,none⟩=some (.int .i64 u')∧V.cell? ⟨kb',ko'+i * 7+3,none⟩=some (a')∧V.cell? ⟨kb',ko'+i * 7+4,none⟩=some (sn')∧V.cell? ⟨kb',ko'+i * 7+5,none⟩=some (sp')∧V.cell? ⟨kb',ko'+i * 7+6,none⟩=some (sk')) (by kernel_rfl) (HCC.out _ (qV wr)) (fun hHeld=>?_)
   refine tq (i:=0) ?_
   try simp only [Act.put,qq]
   refine tq (i:=1) ?_
   try simp only [Act.put,qq]
   refine tq (i:=2) ?_
   try simp only [Act.put,qq]
   refine tq (i:=3) ?_
   try simp only [Act.put,qq]
   refine tq (i:=4) ?_
   try simp only [Act.put,qq]
   refine tq (i:=5) ?_
   try simp only [Act.put,qq]
   refine tq (i:=6) ?_
   try simp only [Act.put,qq]
   refine tq (i:=7) ?_
   try simp only [Act.put,qq]
   refine qU (i:=8) (by kernel_rfl) rfl (fun K hK=>?_)
   refine qO (by rfl) 12 Tryz.f12 Tryz.func12 (by kernel_rfl) (by kernel_rfl) _ _ rfl _ (by first | (simp [Act.eval]; done) | (simp [Act.eval]; rfl)) _ ((HC.out _ (qV wr)).mono (fun e w1 h=>And.intro h.1 (qd ((qV wr).trans h.2)))) ?_
   rintro _ w1 ⟨rfl,hg1⟩;refine hK.out _ _ (HCC.out _ hg1.out) (fun hHeld=>?_)
   clear hK K
   try simp only [Act.put,qq]
   refine tq (i:=9) ?_
   try simp only [Act.put,qq]
   refine wpAnyH_done (by kernel_rfl) ?_ _
   cases K with
   | true =>
    go_wp2_with fail
    go_roundw
    case rel=>exact ⟨i+1,by omega,by go_num,qd (hJ.out (by trivial)),qd (hbl.out.trans hg1.out)⟩
    case measure=>simp [intOf]; omega
   | false =>
    go_wp2_with fail
    go_ret
    exact ⟨by rw [hS.out (by trivial)]; rfl,hbl.out.trans hg1.out⟩
  ·have hie:¬ (i:Int) < n:=by omega
   have hE:Hid (BB=true):=qd (HX.out (fun j hj=>hok.out j (by omega)))
   clear HX HL HP HP' hok HS HS' HK
   go_wp2_with fail
   go_ret
   exact ⟨by rw [hE.out]; rfl,hbl.out⟩
theorem like_all:∀ (N:Nat) (n m:Nt),sizN n≤N→CK n m:=by
 intro N
 induction N with
 | zero=>intro n m h; have:=sizN_pos n; omega
 | succ N ih =>
  intro n m h;exact like_ok n m (fun v v' w hk hk'=>likeAll_ok v v' n.kids m.kids w (fun i hi=>ih _ _ (by have:=siz_kid n i hi; omega)) hk hk')
def barB (ts:Ts) (c:Nat):Bool:=decide (c=0∧(ts.getD 0 noT).1.kind=12)
theorem barred_ok (s:ByteArray) (ts:Ts) (c a:Nat) (w:World) (hE:Env w) (h1:s.size≤140737488355328) (hl:LexR (lst s) ts c a):Calls Tryz.prog 11 #[.string s] w (RB (barB ts c) w):=by
 obtain ⟨W0,hW0⟩:∃ X,w=X:=⟨_,rfl⟩
 have HA:=qd (tokens_v hl h1 w hE.tab)
 by_cases hc:c=0
 ·subst hc
  have ha:a=0:=hl.good.1;subst ha;have h0:0 < ts.length:=hl.okq.1.lt;generalize hn:ts.length=n at *;have hn0:(0:Int) < n:=by omega
  have HN:=qd hn;have h0':0 < n:=h0;have HB:Hid (barB ts 0=decide ((ts.getD 0 noT).1.kind=12)):=qd (by unfold barB; simp)
  generalize barB ts 0=BB at *;clear hl hE hn hW0
  go_enter Tryz.func11,Tryz.ntmps11
  go_upto_region 2 with (
             go_at_call 19; refine HA.out.mono ?_; rintro e w2 ⟨pa,ka,rfl,ra,qa,na,ma,b2⟩
             obtain ⟨g,rfl⟩:=qa h0';have hB2:=qd b2;have hkm:ka≤9223372036854775807:=ma;have rA:=qd ra)
  have x0:=((rA.out.keep (Bl.alloc w2 (.cells #[.int .i64 0,.int .i64 0] 30))).cells 0 (by rw [HN.out]; exact h0')).1
  rw [Nat.zero_mul] at x0;have BW:Hid (Bl w (w2.alloc (.cells #[.int .i64 0,.int .i64 0] 30))):=qd (hB2.out.trans (Bl.alloc _ _));generalize (ts.getD 0 noT).1.kind=k at *;clear HA rA
  by_cases h12:k=12
  ·have q:((k:Int) == 12)=true:=by simp; omega
   have e:Hid (BB=true):=qd (by rw [HB.out]; exact decide_eq_true h12)
   clear HB h12
   go_wp2_with fail
   go_ret
   exact ⟨by rw [e.out]; rfl,BW.out⟩
  ·have q:((k:Int) == 12)=false:=by simp; omega
   have e:Hid (BB=false):=qd (by rw [HB.out]; exact decide_eq_false h12)
   clear HB h12
   go_wp2_with fail
   go_ret
   exact ⟨by rw [e.out]; rfl,BW.out⟩
 ·have hcz:((c:Int) == 0)=false:=by simp; omega
  have e:Hid (barB ts c=false):=qd (decide_eq_false (fun h=>hc h.1))
  clear hl hE hW0 hc
  go_enter Tryz.func11,Tryz.ntmps11
  go_wp2_with (go_at_call 19; refine HA.out.mono ?_; rintro e w2 ⟨pa,ka,rfl,ra,qa,na,ma,b2⟩)
  go_ret
  exact ⟨by rw [e.out]; rfl,b2.trans (Bl.alloc _ _)⟩
theorem Reads.lexd {m:Bool} {l:Bs} {t:Option Src} {a:Nat} (h:Reads m l t 0 a):∃ ts,LexR l ts 0 0:=by
 obtain ⟨ts,c0,a0,h1,h2⟩:=h
 rcases h2 with ⟨h2,_,h3,_⟩ | ⟨rfl,_⟩
 ·exact absurd h3.symm h2
 ·rcases h1 with ⟨_,_,h3,_⟩ | ⟨hl,us,er,hx,hr⟩
  ·cases h3
  rcases hr with ⟨rfl,rfl,_,rfl⟩ | ⟨p,_,_,h3,_⟩
  ·exact ⟨_,Or.inr ⟨hl,us,none,hx,Or.inl ⟨rfl,rfl,rfl,rfl⟩⟩⟩
  ·cases h3
end Go.Proofs.YtfhkhmgodkheaaaGreatDoor
namespace Go.Proofs.YtfhkhmgodkheaaaGreatDoor
theorem one_expr {l1:Bs} {ts1:Ts} {a:Src} {n:Nd} {r:Option Src} {a':Nat} (h1:LexR l1 ts1 0 0) (r1:Reads false l1 (some a) 0 0) (hb:a.body=[n]) (hk:n.kind≠13) (hbar:(ts1.getD 0 zj).1.kind≠12) (hx:Reads false (l1++[32,46,32,120]) r 0 a') (hl1:l1.length+4≤4096) :
  ∃ us1 f s1,Lx 0 l1 us1 Option.none∧ts1=us1++[(zx,l1.length)]∧qD ts1 f s0=some (.ok n s1)∧s1.pos=us1.length∧s1.opn=0∧s1.code=0:=by
 obtain ⟨_,us1,hx1,rfl⟩:=h1.tok
 obtain ⟨f,tm,st,s1,e1,e2,e3,e4,e5,e6,e7,e8⟩:=doit_run h1 r1
 have hd0:hdT (us1++[(zx,l1.length)]) s0=(us1++[(zx,l1.length)]).getD 0 zj:=rfl
 rw [temporaries_none (by rw [hd0]; exact hbar)] at e1
 injection e1 with e1; injection e1 with e1 e9
 subst e9
 rw [hb] at e2
 have hu:∀ i (hi:i < us1.length),us1[i].1.kind≠18:=fun i hi=>by have:=hx1.kinds i hi; omega
 have hs1:=stop_pos hu rfl e3
 have hS0:SR 0 0 false s0 s0:=⟨Nat.zero_le _,rfl,rfl,fun h=>Or.inl h⟩
 cases f with
 | zero=>cases e2
 | succ f =>
  unfold qY at e2;rw [show thr (us1++[(zx,l1.length)]) s0=(!qi (us1++[(zx,l1.length)]) 18 s0,s0) from rfl] at e2
  cases h18:qi (us1++[(zx,l1.length)]) 18 s0 with
  | true=>rw [h18] at e2; injection e2 with e2; injection e2 with e2; cases e2
  | false =>
   rw [h18,Bool.not_false] at e2;dsimp only at e2
   cases e:oneSt (us1++[(zx,l1.length)]) (f+1) [] s0 with
   | none=>rw [e] at e2; cases e2
   | some x =>
    rw [e] at e2
    cases x with
    | bad x=>injection e2 with e2; cases e2
    | ok b s2 =>
     dsimp only at e2;rw [if_neg (by decide)] at e2
     have est:qA (us1++[(zx,l1.length)]) (f+1) s0=some (.ok b s2):=by
      unfold oneSt at e;rw [if_neg (by decide)] at e
      exact e
     unfold qN at e2
     by_cases h16:qi (us1++[(zx,l1.length)]) 16 s2=true
     ·exfalso
      rw [if_pos h16] at e2;dsimp only at e2;have hst:qi (us1++[(zx,l1.length)]) 18 (qj (us1++[(zx,l1.length)]) s2)=true:=by
       by_cases c:qi (us1++[(zx,l1.length)]) 18 (qj (us1++[(zx,l1.length)]) s2)=true
       ·exact c
       ·have c':qi (us1++[(zx,l1.length)]) 18 (qj (us1++[(zx,l1.length)]) s2)=false:=by simpa using c
        exact absurd rfl ((listA_acc _ _ _ _ _ e2).2 (by show (!qi _ 18 _)=true; rw [c']; rfl))
      have hp2:=stop_pos hu rfl hst;rw [zC] at hp2;have hk16:=qk h16;obtain ⟨t',rfl,rfl⟩:=hx.code0;have hx2:Lx 0 (l1++[32,46,32,120]) (us1++[(⟨16,[],0⟩,l1.length+1),(⟨1,[120],0⟩,l1.length+3)]) Option.none:=by
       refine hx1.join (gs_blank _) rfl ?_;rw [Nat.zero_add];exact point_lx _ (Lx.tok _ _ ⟨1,[120],0⟩ 1 _ _ (by rfl) (Lx.stop _))
      have hL:=LexR.mkU (l:=l1++[32,46,32,120]) (by simp; omega) hx2
      rw [List.append_assoc] at hL;obtain ⟨fX,tmX,stX,sX,x1,x2,x3,_⟩:=doit_run hL hx;obtain ⟨vs,x,hvs⟩:∃ vs x,us1=vs++[x]:=⟨us1.dropLast,us1.getLast (by rintro rfl; simp at hp2),(List.dropLast_concat_getLast _).symm⟩
      have hvl:s2.pos=vs.length:=by rw [hvs] at hp2; simp at hp2; exact hp2
      have hxk:x.1.kind=16:=by
       have h:=hk16;rw [hd_atU hvl,hvs,List.append_assoc,List.cons_append,getD_app1] at h;exact h
      obtain ⟨rest,hrest⟩:∃ rest:Ts,rest=[((⟨16,[],0⟩:Tok),l1.length+1),(⟨1,[120],0⟩,l1.length+3)]++[(zx,(l1++[32,46,32,120]).length)]:=⟨_,rfl⟩;have hr0:(rest.getD 0 zj).1.kind=16:=by rw [hrest]; rfl
      rw [← hrest] at hL x1 x2 x3;have H:Lo (us1++[(zx,l1.length)]) (us1++rest) 0 0 vs.length:=by
       have:=Lo.of (us:=vs) (pre:=[]) (post:=rest) (rest:=[(zx,l1.length)]) (a:=0) (x:=x) (y:=x) (by rw [hxk]; exact term16) (by rw [hxk]; exact term16)
       rw [sh_zero] at this;rw [hvs]
       simpa using this
      have h0l:0 < us1.length:=by omega
      have hd1:hdT (us1++rest) s0=us1[0]:=by show (us1++rest).getD 0 zj=_; exact getD_app0 us1 rest 0 h0l
      have hd2:(us1++[(zx,l1.length)]).getD 0 zj=us1[0]:=getD_app0 us1 _ 0 h0l;rw [temporaries_none (by rw [hd1,← hd2]; exact hbar)] at x1
      injection x1 with x1; injection x1 with _ x1; subst x1
      obtain ⟨b',s2',q1,q2,q3⟩:=(lo_all (o:=false) H (f+1)).stmt (f+1+fX+1) s0 s0 (by omega) h1.okq.1 hS0 b s2 est (by omega)
      have y2:=list_up (f':=f+1+fX+1) (n':=f+1+fX+1) (by omega) (by omega) x2
      unfold qY at y2;rw [show thr (us1++rest) s0=(!qi (us1++rest) 18 s0,s0) from rfl,show qi (us1++rest) 18 s0=false by unfold qi; rw [hd1]; exact decide_eq_false (hu 0 h0l),Bool.not_false] at y2
      dsimp only at y2;rw [show oneSt (us1++rest) (f+1+fX+1) [] s0=qA (us1++rest) (f+1+fX+1) s0 by unfold oneSt; rw [if_neg (by decide)],q1] at y2
      dsimp only at y2;rw [if_neg (by decide)] at y2
      unfold qN at y2;have hp3:s2'.pos=vs.length:=by rw [q3.pos]; omega
      have hk2:qi (us1++rest) 16 s2'=true:=by
       rw [stands_at hp3,hvs,List.append_assoc,List.cons_append,getD_app1,hxk]; rfl
      rw [if_pos hk2] at y2;dsimp only at y2;have hp4:(qj (us1++rest) s2').pos=us1.length+0:=by rw [zC]; omega
      refine no_two ?_ y2;rw [hd_atU hp4,getD_app2];exact hr0
     ·rw [if_neg h16] at e2
      dsimp only at e2;injection e2 with e2; injection e2 with e2 e2b
      rw [List.nil_append] at e2;injection e2 with e2 _
      subst e2; subst e2b;refine ⟨us1,f,s2,hx1,rfl,?_,hs1,e8,e4⟩;unfold qA at est
      split at est
      ·obtain ⟨y,s3,_,h⟩:=qQ est
       injection h with h; injection h with h
       rw [← h] at hk;exact absurd rfl hk
      ·exact est
theorem in_paren {us1:Ts} {L f:Nat} {n:Nd} {s1:Ps} (hok:Okq (us1++[(zx,L)]) s0) (he:qD (us1++[(zx,L)]) f s0=some (.ok n s1)) (hp:s1.pos=us1.length) (ho:s1.opn=0) (hc:s1.code=0)
  (pre post:Ts) (q:Nat) (y:Tok × Nat) (hy:y.1.kind=9) (s:Ps) (hs:s.pos+1=pre.length) (h8:(hdT (pre++(Lx.sh q us1++y :: post)) s).1.kind=8) (hso:s.opn=0) (hsc:s.code=0) :
  ∃ n' s3,(∀ most,Pm (pre++(Lx.sh q us1++y :: post)) most s n' s3)∧trN n'=trN n∧s3.pos=pre.length+us1.length+1∧(s3.code=0∨s3.code=72):=by
 have H:Lo (us1++[(zx,L)]) (pre++(Lx.sh q us1++y :: post)) 0 pre.length us1.length:=Lo.of term18 (by rw [hy]; exact term9)
 obtain ⟨t1,t2,t3⟩:(qj (pre++(Lx.sh q us1++y :: post)) s).pos=s.pos+1∧(qj (pre++(Lx.sh q us1++y :: post)) s).opn=1∧(qj (pre++(Lx.sh q us1++y :: post)) s).code=0:=by
  refine ⟨rfl,?_,?_⟩
  ·show (qW (hdT _ s) s).opn=1
   unfold qW;rw [if_neg (by omega),if_neg (by omega),if_neg (by omega),if_pos (Or.inl h8)]
   show s.opn+1=1
   omega
  ·show (qW (hdT _ s) s).code=0
   unfold qW;rw [if_neg (by omega),if_neg (by omega),if_neg (by omega),if_pos (Or.inl h8),if_neg (by omega)]
   exact hsc
 have hS:SR 0 pre.length true s0 (qj (pre++(Lx.sh q us1++y :: post)) s):=⟨Nat.zero_le _,by rw [t1]; show s.pos+1=0+pre.length; omega,by rw [t2]; rfl,fun _=>Or.inl t3⟩
 obtain ⟨n',s1',q1,q2,q3⟩:=(lo_all (o:=true) H f).expr f s0 _ (Nat.le_refl _) hok hS n s1 he (by omega)
 have hp':s1'.pos=pre.length+us1.length:=by rw [q3.pos]; omega
 have h9:qi (pre++(Lx.sh q us1++y :: post)) 9 s1'=true:=by
  rw [stands_at hp',getD_app2,show us1.length=(Lx.sh q us1).length by rw [sh_len],getD_app1,hy]; rfl
 refine ⟨n',qj _ s1',fun most=>Pm.paren h8 ⟨f,q1⟩ h9,q2,by rw [zC,hp'],?_⟩
 rw [(take_stop (Or.inr (Or.inr (qk h9)))).1]
 rcases q3.code hc with h | ⟨_,h⟩
 ·exact Or.inl h
 ·exact Or.inr h
end Go.Proofs.YtfhkhmgodkheaaaGreatDoor
