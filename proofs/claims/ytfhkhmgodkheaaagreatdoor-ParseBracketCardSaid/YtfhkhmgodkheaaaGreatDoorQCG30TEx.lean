import Derived.Test.YtfhkhmgodkheaaaGreatDoorQCG28TBd
import Derived.Test.YtfhkhmgodkheaaaGreatDoorQCG29TCs
set_option linter.unusedSimpArgs false
set_option linter.unusedVariables false
set_option maxRecDepth 1000000
set_option maxHeartbeats 16000000
namespace Go.Proofs.YtfhkhmgodkheaaaGreatDoor
open Go.RowKit Go.Maps
def CL (n:Nt):Prop:=∀ (b off o:Nat) (w:World),o≤24→Env w→NtM w n b off→Calls Tryz.prog 104 #[.pointer (some ⟨b,off,none⟩),.int .i64 o] w (RB (litB n o) w)
theorem areElements_ok (v:Value) (l:List Nt) (o:Nat) (w:World) (ho:o≤24) (hE:Env w) (hr:RdN w v l) (hX:∀ i,i < l.length→CL (l.getD i qE)):Calls Tryz.prog 128 #[v,.int .i64 o] w (RB (decide (l.length≤32) && litsB l o) w):=by
 obtain ⟨p,c,rfl,hc1,hc2⟩:=hr.slc
 by_cases h32:l.length≤32
 rotate_left
 ·have hB:Hid ((decide (l.length≤32) && litsB l o)=false):=qd (by rw [decide_eq_false h32]; rfl)
  have q:(32:Int) < l.length:=by omega
  clear hr hX hE h32
  go_enter Tryz.func128,Tryz.ntmps128
  go_wp2_with fail
  go_ret
  exact ⟨by rw [hB.out]; rfl,Bl.refl _⟩
 have HB:Hid ((decide (l.length≤32) && litsB l o)=l.all (fun n=>litB n o)):=qd (by rw [decide_eq_true h32,litsB_all]; rfl)
 have q:¬ (32:Int) < l.length:=by omega
 have HA:=qd (all_getD qE (fun n=>litB n o) l)
 have HBd:=qd (all_bad qE (fun n=>litB n o) l)
 have HO:=qd (fun i (hi:i < l.length) (V:World) (bl:Bl w V) kb ko (hn:NtM V (l.getD i qE) kb (ko+i * 7))=>hX i hi kb (ko+i * 7) o V ho (hE.mono bl) hn)
 have HR:=qd hr
 generalize (decide (l.length≤32) && litsB l o)=BB at *
 obtain ⟨n,hn⟩:∃ n,l.length=n:=⟨_,rfl⟩
 rw [hn] at hc1 hc2 HA HBd HO q h32
 rw [hn]
 have HN:=qd hn
 clear hr hX hE hn
 go_enter Tryz.func128,Tryz.ntmps128
 go_wp2_with fail
 go_loopw [11] (fun q wr=>∃ i:Nat,i≤n∧q=.int .i64 i∧Hid (∀ j,j < i→litB (l.getD j qE) o=true)∧Hid (Bl w wr)) (fun q _=>n - (intOf q).toNat)
 case atStart=>exact ⟨0,Nat.zero_le _,rfl,(fun j hj=>by omega),Bl.refl _⟩
 case round =>
  obtain ⟨i,hi,rfl,hok,hbl⟩:=hrel
  by_cases hin:i < n
  ·have hii:(i:Int) < n:=by omega
   obtain ⟨kb,ko,hp,hnd⟩:=(HR.out.keep hbl.out).at_ i (by rw [HN.out]; exact hin)
   subst hp;have HC:=qd (HO.out i hin _ hbl.out kb ko hnd);have hJ:Hid (∀ B,litB (l.getD i qE) o=B→(B=true→∀ j,j < i+1→litB (l.getD j qE) o=true)∧(B=false→BB=false)):=qd (fun B hB=>⟨fun h j hj=>by
    by_cases he:j=i
    ·rw [he,hB,h]
    ·exact hok.out j (by omega),fun h=>by rw [HB.out]; exact HBd.out i hin (by rw [hB,h])⟩)
   generalize hG:litB (l.getD i qE) o=B at *;have hJ2:=qd (hJ.out B rfl);clear hJ hG hok HA HBd HO hnd
   cases B with
   | true =>
    go_wp2_with (go_at_call 104; refine HC.out.mono ?_; rintro e w1 ⟨rfl,b1⟩)
    go_roundw
    case rel=>exact ⟨i+1,by omega,by go_num,hJ2.out.1 (by simp),qd (hbl.out.trans b1)⟩
    case measure=>simp [intOf]; omega
   | false =>
    go_wp2_with (go_at_call 104; refine HC.out.mono ?_; rintro e w1 ⟨rfl,b1⟩)
    go_ret
    exact ⟨by rw [hJ2.out.2 (by simp)]; rfl,hbl.out.trans b1⟩
  ·have hie:¬ (i:Int) < n:=by omega
   have hE:Hid (BB=true):=qd (by rw [HB.out]; exact HA.out.2 fun j hj=>hok.out j (by omega))
   clear HA HBd HO HR
   go_wp2_with fail
   go_ret
   exact ⟨by rw [hE.out]; rfl,hbl.out⟩
theorem isLiteral_ok (n:Nt) (hX:∀ i,i < n.kids.length→CL (n.kids.getD i qE)):CL n:=by
 intro b off o w ho hE h
 obtain ⟨sn,sk,hn⟩:=h.nod
 have c0:=hn.c0
 have HN:=qd (fun V (bl:Bl w V)=>hn.keep bl)
 have HK:=qd (fun k (h1:1≤k) (h2:k≤13)=>jG n b off k h1 h2 w hE.knd h)
 have hsz:(ba n.text).size=n.text.length:=by rw [← qo,qJ]
 have HS:=qd (fun V (bl:Bl w V)=>isSymbol_ok n.text V (hE.mono bl) hn.t)
 have HCo:=qd (fun V=>isConst_ok (ba n.text) V)
 rw [qJ] at HCo
 have HA:=qd (fun (o:Nat) (ho:o≤24) V (bl:Bl w V)=>areElements_ok sk n.kids o V ho (hE.mono bl) (hn.rn.keep bl) hX)
 have hB:=qd (litB_is n o)
 generalize litB n o=BB at *
 clear h hX hn hE
 by_cases h1:n.kind=1
 ·have q1:(n.kind == 1)=true:=beq_iff_eq.2 h1
  have e:Hid (BB=(zd n 1 && (decide (-1073741824≤n.num) && decide (n.num≤1073741823)))):=qd (by rw [hB.out,if_pos h1])
  have HK1:=qd (HK.out 1 (by omega) (by omega))
  generalize zd n 1=K at *;clear h1 hB HK HS HCo HA
  cases K with
  | false =>
   go_enter Tryz.func104,Tryz.ntmps104
   go_wp2_with (go_at_call 64; refine HK1.out.mono ?_; rintro e w1 ⟨rfl,b1⟩)
   go_ret
   exact ⟨by rw [e.out]; rfl,b1⟩
  | true =>
   go_enter Tryz.func104,Tryz.ntmps104
   go_wp2_with (go_at_call 64; refine HK1.out.mono ?_; rintro e w1 ⟨rfl,b1⟩; have c2:=(HN.out _ b1).c2)
   all_goals go_ret
   all_goals exact ⟨by rw [e.out]; first | (rw [decide_eq_false (p:=-1073741824≤n.num) (by omega)]; rfl) | (rw [decide_eq_true (p:=-1073741824≤n.num) (by omega)]; rfl) | (rw [decide_eq_true (p:=-1073741824≤n.num) (by omega),decide_eq_true (p:=n.num≤1073741823) (by omega)]; rfl) | (rw [decide_eq_true (p:=-1073741824≤n.num) (by omega),decide_eq_false (p:=n.num≤1073741823) (by omega)]; rfl),b1⟩
 have q1:(n.kind == 1)=false:=beq_eq_false_iff_ne.2 h1
 rw [if_neg h1] at hB
 by_cases h2:n.kind=2
 ·have q2:(n.kind == 2)=true:=beq_iff_eq.2 h2
  have e:Hid (BB=(zd n 2 && decide (n.text.length≤256))):=qd (by rw [hB.out,if_pos h2])
  have HK1:=qd (HK.out 2 (by omega) (by omega))
  generalize zd n 2=K at *;clear h1 h2 hB HK HS HCo HA
  cases K with
  | false =>
   go_enter Tryz.func104,Tryz.ntmps104
   go_wp2_with (go_at_call 64; refine HK1.out.mono ?_; rintro e w1 ⟨rfl,b1⟩)
   go_ret
   exact ⟨by rw [e.out]; rfl,b1⟩
  | true =>
   have hd:Hid (decide (((n.text.length:Nat):Int)≤256)=decide (n.text.length≤256)):=qd (by rw [Bool.eq_iff_iff]; simp; omega)
   go_enter Tryz.func104,Tryz.ntmps104
   go_wp2_with (go_at_call 64; refine HK1.out.mono ?_; rintro e w1 ⟨rfl,b1⟩; have c1:=(HN.out _ b1).c1)
   all_goals go_ret
   all_goals exact ⟨by rw [e.out,← hd.out]; first | rfl | (simp_all; done),b1⟩
 have q2:(n.kind == 2)=false:=beq_eq_false_iff_ne.2 h2
 rw [if_neg h2] at hB
 by_cases h3:n.kind=3
 ·have q3:(n.kind == 3)=true:=beq_iff_eq.2 h3
  have e:Hid (BB=(zd n 3 && symOk n.text)):=qd (by rw [hB.out,if_pos h3])
  have HK1:=qd (HK.out 3 (by omega) (by omega))
  generalize zd n 3=K at *;generalize symOk n.text=S at *;clear h1 h2 h3 hB HK HCo HA
  cases K with
  | false =>
   go_enter Tryz.func104,Tryz.ntmps104
   go_wp2_with (go_at_call 64; refine HK1.out.mono ?_; rintro e w1 ⟨rfl,b1⟩)
   go_ret
   exact ⟨by rw [e.out]; rfl,b1⟩
  | true =>
   go_enter Tryz.func104,Tryz.ntmps104
   go_wp2_with (first
    | (go_at_call 64; refine HK1.out.mono ?_; rintro e w1 ⟨rfl,b1⟩; have c1:=(HN.out _ b1).c1)
    | (go_at_call 126; refine (HS.out _ b1).mono ?_; rintro e w2 ⟨rfl,b2⟩))
   go_ret
   exact ⟨by rw [e.out]; rfl,b1.trans b2⟩
 have q3:(n.kind == 3)=false:=beq_eq_false_iff_ne.2 h3
 rw [if_neg h3] at hB
 by_cases h5:n.kind=5
 ·have q5:(n.kind == 5)=true:=beq_iff_eq.2 h5
  have e:Hid (BB=(zd n 5 && constB n.text)):=qd (by rw [hB.out,if_pos h5])
  have HK1:=qd (HK.out 5 (by omega) (by omega))
  generalize zd n 5=K at *;generalize constB n.text=S at *;clear h1 h2 h3 h5 hB HK HS HA
  cases K with
  | false =>
   go_enter Tryz.func104,Tryz.ntmps104
   go_wp2_with (go_at_call 64; refine HK1.out.mono ?_; rintro e w1 ⟨rfl,b1⟩)
   go_ret
   exact ⟨by rw [e.out]; rfl,b1⟩
  | true =>
   go_enter Tryz.func104,Tryz.ntmps104
   go_wp2_with (first
    | (go_at_call 64; refine HK1.out.mono ?_; rintro e w1 ⟨rfl,b1⟩; have c1:=(HN.out _ b1).c1)
    | (go_at_call 127; refine (HCo.out _).mono ?_; rintro e w2 ⟨rfl,h2⟩; have h3:=h2.symm; subst h3))
   go_ret
   exact ⟨by rw [e.out]; rfl,b1⟩
 have q5:(n.kind == 5)=false:=beq_eq_false_iff_ne.2 h5
 rw [if_neg h5] at hB
 by_cases h4:n.kind=4
 ·have q4:(n.kind == 4)=true:=beq_iff_eq.2 h4
  have e:Hid (BB=(zd n 4 && (decide (o < 24) && (decide (n.kids.length≤32) && litsB n.kids (o+1))))):=qd (by rw [hB.out,if_pos h4])
  have HK1:=qd (HK.out 4 (by omega) (by omega))
  have HA1:=qd (fun (h:o+1≤24)=>HA.out (o+1) h)
  have hw:IntKind.i64.wrap ((o:Int)+1)=(o:Int)+1:=zP _ (by omega) (by omega)
  have hc:((o+1:Nat):Int)=(o:Int)+1:=by omega
  rw [hc] at HA1;generalize zd n 4=K at *;generalize (decide (n.kids.length≤32) && litsB n.kids (o+1))=S at *;clear h1 h2 h3 h5 h4 hB HK HS HA HCo
  cases K with
  | false =>
   go_enter Tryz.func104,Tryz.ntmps104
   go_wp2_with (go_at_call 64; refine HK1.out.mono ?_; rintro e w1 ⟨rfl,b1⟩)
   go_ret
   exact ⟨by rw [e.out]; rfl,b1⟩
  | true =>
   by_cases h24:o < 24
   ·have d24:=qd (decide_eq_true h24)
    have q24:(o:Int) < 24:=by omega
    have HA2:=qd (HA1.out (by omega))
    clear HA1 h24
    go_enter Tryz.func104,Tryz.ntmps104
    go_wp2_with (first
     | (go_at_call 64; refine HK1.out.mono ?_; rintro e w1 ⟨rfl,b1⟩; have c6:=(HN.out _ b1).c6)
     | (go_at_call 128; refine (HA2.out _ b1).mono ?_; rintro e w2 ⟨rfl,b2⟩))
    go_ret
    exact ⟨by rw [e.out,d24.out]; rfl,b1.trans b2⟩
   ·have d24:=qd (decide_eq_false h24)
    have q24:¬ (o:Int) < 24:=by omega
    clear HA1 h24
    go_enter Tryz.func104,Tryz.ntmps104
    go_wp2_with (go_at_call 64; refine HK1.out.mono ?_; rintro e w1 ⟨rfl,b1⟩)
    go_ret
    exact ⟨by rw [e.out,d24.out]; rfl,b1⟩
 have q4:(n.kind == 4)=false:=beq_eq_false_iff_ne.2 h4
 rw [if_neg h4] at hB
 clear h1 h2 h3 h5 h4 HK HS HA HCo
 go_enter Tryz.func104,Tryz.ntmps104
 go_wp2_with fail
 go_ret
 exact ⟨by rw [hB.out]; rfl,Bl.refl _⟩
theorem lit_all:∀ (N:Nat) (n:Nt),sizN n≤N→CL n:=by
 intro N
 induction N with
 | zero=>intro n h; have:=sizN_pos n; omega
 | succ N ih=>intro n h; exact isLiteral_ok n (fun i hi=>ih _ (by have:=siz_kid n i hi; omega))
theorem ba_self (t:Bs):((ba t).toList == [115,101,108,102])=decide (t=[115,101,108,102]):=by
 rw [tl_lst,qJ,Bool.eq_iff_iff]
 simp
theorem RdN.tail2 {w:World} {kb ko kx n c:Nat} {l:List Nt} (h:RdN w (.slice (some ⟨kb,ko,none⟩) n c) l) (h0:0 < l.length) (hkx:(c=1∧kx=ko)∨(c≠1∧kx=ko+7)):RdN w (.slice (some ⟨kb,kx,none⟩) (l.length - 1) (c - 1)) l.tail:=by
 rcases hkx with ⟨h1,rfl⟩ | ⟨h1,rfl⟩
 ·obtain ⟨p',c',kb',ko',e,q1,q2,hp,hs⟩:=h
  injection e with e1 e2 e3
  have hl:l.length=1:=by omega
  obtain ⟨a,rfl⟩:=List.length_eq_one_iff.1 hl;exact ⟨_,_,kb,kx,rfl,by simp,by simp,fun h=>by simp at h,.nil⟩
 ·exact h.tail h0
theorem exp6 (n:Nt) (b off o:Nat) (w:World) (hE:Env w) (h:NtM w n b off) (h6:n.kind=6):Calls Tryz.prog 65 #[.pointer (some ⟨b,off,none⟩),.int .i64 o] w (RB (zd n 6 && (nmB n.text && (decide (n.text=[115,101,108,102]) || decide (vari n.text=0)))) w):=by
 obtain ⟨sn,sk,hn⟩:=h.nod
 have c0:=hn.c0
 have HK:=qd (jG n b off 6 (by omega) (by omega) w hE.knd h)
 have HN:=qd (fun V (bl:Bl w V)=>hn.keep bl)
 have hsz:(ba n.text).size=n.text.length:=by rw [← qo,qJ]
 have HNm:=qd (isNm_ok n.text)
 have HV:=qd (fun V=>vari_ok (ba n.text) V (by have:=hn.t; omega))
 rw [qJ] at HV
 have hbs:=ba_self n.text
 have hdv:Hid (decide (vari n.text=0)=((vari n.text:Int) == 0)):=qd (by rw [Bool.eq_iff_iff]; simp)
 have q6:(n.kind == 6)=true:=beq_iff_eq.2 h6
 generalize nmB n.text=NB at *
 generalize zd n 6=K at *
 generalize decide (n.text=[115,101,108,102])=D at *
 rw [hdv.out]
 generalize vari n.text=v at *
 clear h hn hE h6 hdv hsz
 cases K with
 | false =>
  go_enter Tryz.func65,Tryz.ntmps65
  go_wp2_with (go_at_call 64; refine HK.out.mono ?_; rintro e w1 ⟨rfl,b1⟩)
  go_ret
  exact ⟨rfl,b1⟩
 | true =>
 cases NB with
 | false =>
  go_enter Tryz.func65,Tryz.ntmps65
  go_wp2_with (first
   | (go_at_call 64; refine HK.out.mono ?_; rintro e w1 ⟨rfl,b1⟩; have c1:=(HN.out _ b1).c1)
   | (go_at_call 63; refine (HNm.out _).mono ?_; rintro e w2 ⟨rfl,b2⟩))
  go_ret
  exact ⟨rfl,b1.trans b2⟩
 | true =>
 cases D with
 | true =>
  go_enter Tryz.func65,Tryz.ntmps65
  go_wp2_with (first
   | (go_at_call 64; refine HK.out.mono ?_; rintro e w1 ⟨rfl,b1⟩; have c1:=(HN.out _ b1).c1)
   | (go_at_call 63; refine (HNm.out _).mono ?_; rintro e w2 ⟨rfl,b2⟩; have d1:=(HN.out _ (b1.trans b2)).c1))
  go_ret
  exact ⟨rfl,b1.trans b2⟩
 | false =>
  go_enter Tryz.func65,Tryz.ntmps65
  go_wp2_with (first
   | (go_at_call 64; refine HK.out.mono ?_; rintro e w1 ⟨rfl,b1⟩; have c1:=(HN.out _ b1).c1)
   | (go_at_call 63; refine (HNm.out _).mono ?_; rintro e w2 ⟨rfl,b2⟩; have d1:=(HN.out _ (b1.trans b2)).c1)
   | (go_at_call 98; refine (HV.out _).mono ?_; rintro e w3 ⟨rfl,b3⟩))
  go_ret
  exact ⟨rfl,(b1.trans b2).trans b3⟩
theorem exp8 (n:Nt) (b off o:Nat) (w:World) (ho:o≤24) (hE:Env w) (h:NtM w n b off) (h8:n.kind=8) (hX:0 < n.kids.length→CE (n.kids.getD 0 qE)):Calls Tryz.prog 65 #[.pointer (some ⟨b,off,none⟩),.int .i64 o] w (RB (zd n 8 && (nmB n.text && oneB n.kids o)) w):=by
 obtain ⟨sn,sk,hn⟩:=h.nod
 obtain ⟨pk,ck,ek,hck,hk2⟩:=hn.rn.slc
 have c0:=hn.c0
 have HK:=qd (jG n b off 8 (by omega) (by omega) w hE.knd h)
 subst ek
 have HN:=qd (fun V (bl:Bl w V)=>hn.keep bl)
 have HNm:=qd (isNm_ok n.text)
 have q6:(n.kind == 6)=false:=beq_eq_false_iff_ne.2 (by omega)
 have q8:(n.kind == 8)=true:=beq_iff_eq.2 h8
 have hO:=oneB_is n.kids o
 have HX:Hid (0 < n.kids.length→∃ kb ko,pk=some ⟨kb,ko,none⟩∧∀ V,Bl w V→Calls Tryz.prog 65 #[.pointer (some ⟨kb,ko,none⟩),.int .i64 o] V (RB (jJ (n.kids.getD 0 qE) o) V)):=qd (fun h0=>by
  obtain ⟨kb,ko,hp,hn0⟩:=hn.rn.at_ 0 h0;rw [show ko+0 * 7=ko by omega] at hn0
  exact ⟨kb,ko,hp,fun V bl=>hX h0 kb ko o V ho (hE.mono bl) (hn0.keep bl)⟩)
 rw [hO]
 generalize jJ (n.kids.getD 0 qE) o=E at *
 generalize nmB n.text=NB at *
 generalize zd n 8=K at *
 generalize n.kids.length=lk at *
 clear h hn hE h8 hO hX
 cases K with
 | false =>
  clear HX
  go_enter Tryz.func65,Tryz.ntmps65
  go_wp2_with (go_at_call 64; refine HK.out.mono ?_; rintro e w1 ⟨rfl,b1⟩)
  go_ret
  exact ⟨rfl,b1⟩
 | true =>
 cases NB with
 | false =>
  clear HX
  go_enter Tryz.func65,Tryz.ntmps65
  go_wp2_with (first
   | (go_at_call 64; refine HK.out.mono ?_; rintro e w1 ⟨rfl,b1⟩; have c1:=(HN.out _ b1).c1)
   | (go_at_call 63; refine (HNm.out _).mono ?_; rintro e w2 ⟨rfl,b2⟩))
  go_ret
  exact ⟨rfl,b1.trans b2⟩
 | true =>
 by_cases h1:lk=1
 ·obtain ⟨kb,ko,hp,HC⟩:=HX.out (by omega)
  subst hp;subst h1;have HC2:=qd HC;clear HX HC
  go_enter Tryz.func65,Tryz.ntmps65
  go_wp2_with (first
   | (go_at_call 64; refine HK.out.mono ?_; rintro e w1 ⟨rfl,b1⟩; have c1:=(HN.out _ b1).c1)
   | (go_at_call 63; refine (HNm.out _).mono ?_; rintro e w2 ⟨rfl,b2⟩; have d6:=(HN.out _ (b1.trans b2)).c6)
   | (go_at_call 65; refine (HC2.out _ (b1.trans b2)).mono ?_; rintro e w3 ⟨rfl,b3⟩))
  go_ret
  exact ⟨rfl,(b1.trans b2).trans b3⟩
 ·have d1:=qd (decide_eq_false h1)
  have q1:((lk:Int) == 1)=false:=beq_eq_false_iff_ne.2 (by omega)
  clear HX h1
  go_enter Tryz.func65,Tryz.ntmps65
  go_wp2_with (first
   | (go_at_call 64; refine HK.out.mono ?_; rintro e w1 ⟨rfl,b1⟩; have c1:=(HN.out _ b1).c1)
   | (go_at_call 63; refine (HNm.out _).mono ?_; rintro e w2 ⟨rfl,b2⟩; have d6:=(HN.out _ (b1.trans b2)).c6))
  go_ret
  exact ⟨by rw [d1.out]; rfl,b1.trans b2⟩
theorem exp9 (hT:CT) (n:Nt) (b off o:Nat) (w:World) (ho:o≤24) (hE:Env w) (h:NtM w n b off) (h9:n.kind=9) (hX:∀ i,i < n.kids.length→CE (n.kids.getD i qE)):Calls Tryz.prog 65 #[.pointer (some ⟨b,off,none⟩),.int .i64 o] w (RB (zd n 9 && sendB n.kids n.text o) w):=by
 obtain ⟨sn,sk,hn⟩:=h.nod
 obtain ⟨pk,ck,ek,hck,hk2⟩:=hn.rn.slc
 have c0:=hn.c0
 have HK1:=qd (fun V (hV:Hid (Bl w V))=>rh_of hV (jG n b off 9 (by omega) (by omega) V (hE.mono hV.out).knd (h.keep hV.out)))
 subst ek
 have hR:Hid (Bl w w):=qd (Bl.refl _)
 have q6:(n.kind == 6)=false:=beq_eq_false_iff_ne.2 (by omega)
 have q8:(n.kind == 8)=false:=beq_eq_false_iff_ne.2 (by omega)
 have q9:(n.kind == 9)=true:=beq_iff_eq.2 h9
 have hS:=sendB_is n.kids n.text o
 have hsz:(ba n.text).size=n.text.length:=by rw [← qo,qJ]
 have HRk:=qd (fun V (hV:Hid (Bl w V))=>ri_of hV (jK (ba n.text) V (by have:=hn.t; omega)))
 rw [qJ] at HRk
 have hC:Hid (∀ V,Hid (Bl w V)→V.cell? ⟨b,off+1,none⟩=some (.string (ba n.text))∧V.cell? ⟨b,off+6,none⟩=some (.slice pk n.kids.length ck)):=qd (fun V hV=>⟨(hn.keep hV.out).c1,(hn.keep hV.out).c6⟩)
 rw [hS]
 by_cases h0:0 < n.kids.length
 rotate_left
 ·have d0:=qd (decide_eq_false h0)
  have q0:(n.kids.length:Int)=0:=by omega
  have hl0:n.kids.length=0:=by omega
  rw [d0.out];generalize n.kids.length=lk at *;subst hl0;generalize n.text=tx at *;generalize zd n 9=K at *;clear h hn hE h9 hS hX HRk hsz hT
  cases K with
  | false =>
   go_enter Tryz.func65,Tryz.ntmps65
   go_wp2_with fail
   refine wp_region_held_drew (S:=fun V=>V.cell? ⟨b,off+1,none⟩=some (.string (ba tx))∧V.cell? ⟨b,off+6,none⟩=some (.slice pk 0 ck)) (by kernel_rfl) (hC.out _ (hbd hR)) (fun hHeld=>?_)
   refine tq (i:=0) ?_
   try simp only [Act.put,qq]
   refine qU (i:=1) (by kernel_rfl) rfl (fun K hK=>?_)
   refine qO (by rfl) 64 Tryz.f64 Tryz.func64 (by kernel_rfl) (by kernel_rfl) _ _ rfl _ (by first | (simp [Act.eval]; done) | (simp [Act.eval]; rfl)) _ (HK1.out _ (hbd hR)) ?_
   rintro _ w1 ⟨rfl,hg1⟩;refine hK.out _ _ (hC.out _ hg1) (fun hHeld=>?_)
   clear hK K
   try simp only [Act.put,qq]
   refine tq (i:=2) ?_
   try simp only [Act.put,qq]
   refine tu (i:=3) ?_
   try simp only [Act.put,qq]
   refine tu (i:=4) ?_
   try simp only [Act.put,qq]
   refine tu (i:=5) ?_
   try simp only [Act.put,qq]
   refine tu (i:=6) ?_
   try simp only [Act.put,qq]
   refine tu (i:=7) ?_
   try simp only [Act.put,qq]
   refine tu (i:=8) ?_
   try simp only [Act.put,qq]
   refine tq (i:=9) ?_
   try simp only [Act.put,qq]
   refine tq (i:=10) ?_
   try simp only [Act.put,qq]
   refine tu (i:=11) ?_
   try simp only [Act.put,qq]
   refine tu (i:=12) ?_
   try simp only [Act.put,qq]
   refine tu (i:=13) ?_
   try simp only [Act.put,qq]
   refine tu (i:=14) ?_
   try simp only [Act.put,qq]
   refine tu (i:=15) ?_
   try simp only [Act.put,qq]
   refine tu (i:=16) ?_
   try simp only [Act.put,qq]
   refine tu (i:=17) ?_
   try simp only [Act.put,qq]
   refine tu (i:=18) ?_
   try simp only [Act.put,qq]
   refine tu (i:=19) ?_
   try simp only [Act.put,qq]
   refine tu (i:=20) ?_
   try simp only [Act.put,qq]
   refine tu (i:=21) ?_
   try simp only [Act.put,qq]
   refine tq (i:=22) ?_
   try simp only [Act.put,qq]
   refine tq (i:=23) ?_
   try simp only [Act.put,qq]
   refine tu (i:=24) ?_
   try simp only [Act.put,qq]
   refine tu (i:=25) ?_
   try simp only [Act.put,qq]
   refine tu (i:=26) ?_
   try simp only [Act.put,qq]
   refine tu (i:=27) ?_
   try simp only [Act.put,qq]
   refine tu (i:=28) ?_
   try simp only [Act.put,qq]
   refine tu (i:=29) ?_
   try simp only [Act.put,qq]
   refine tu (i:=30) ?_
   try simp only [Act.put,qq]
   refine tu (i:=31) ?_
   try simp only [Act.put,qq]
   refine tu (i:=32) ?_
   try simp only [Act.put,qq]
   refine tu (i:=34) ?_
   try simp only [Act.put,qq]
   refine tu (i:=33) ?_
   try simp only [Act.put,qq]
   refine tu (i:=35) ?_
   try simp only [Act.put,qq]
   refine tq (i:=36) ?_
   try simp only [Act.put,qq]
   refine tq (i:=37) ?_
   try simp only [Act.put,qq]
   refine wpAnyH_done (by kernel_rfl) ?_ _
   go_wp2_with fail
   go_ret
   exact ⟨rfl,hg1.out⟩
  | true =>
   go_enter Tryz.func65,Tryz.ntmps65
   go_wp2_with fail
   refine wp_region_held_drew (S:=fun V=>V.cell? ⟨b,off+1,none⟩=some (.string (ba tx))∧V.cell? ⟨b,off+6,none⟩=some (.slice pk 0 ck)) (by kernel_rfl) (hC.out _ (hbd hR)) (fun hHeld=>?_)
   refine tq (i:=0) ?_
   try simp only [Act.put,qq]
   refine qU (i:=1) (by kernel_rfl) rfl (fun K hK=>?_)
   refine qO (by rfl) 64 Tryz.f64 Tryz.func64 (by kernel_rfl) (by kernel_rfl) _ _ rfl _ (by first | (simp [Act.eval]; done) | (simp [Act.eval]; rfl)) _ (HK1.out _ (hbd hR)) ?_
   rintro _ w1 ⟨rfl,hg1⟩;refine hK.out _ _ (hC.out _ hg1) (fun hHeld=>?_)
   clear hK K
   try simp only [Act.put,qq]
   refine tq (i:=2) ?_
   try simp only [Act.put,qq]
   refine tq (i:=3) ?_
   try simp only [Act.put,qq]
   refine tq (i:=4) ?_
   try simp only [Act.put,qq]
   refine tq (i:=5) ?_
   try simp only [Act.put,qq]
   refine tq (i:=6) ?_
   try simp only [Act.put,qq]
   refine tq (i:=7) ?_
   try simp only [Act.put,qq]
   refine tq (i:=8) ?_
   try simp only [Act.put,qq]
   refine tq (i:=9) ?_
   try simp only [Act.put,qq]
   refine tq (i:=10) ?_
   try simp only [Act.put,qq]
   refine tu (i:=11) ?_
   try simp only [Act.put,qq]
   refine tu (i:=12) ?_
   try simp only [Act.put,qq]
   refine tu (i:=13) ?_
   try simp only [Act.put,qq]
   refine tu (i:=14) ?_
   try simp only [Act.put,qq]
   refine tu (i:=15) ?_
   try simp only [Act.put,qq]
   refine tu (i:=16) ?_
   try simp only [Act.put,qq]
   refine tu (i:=17) ?_
   try simp only [Act.put,qq]
   refine tu (i:=18) ?_
   try simp only [Act.put,qq]
   refine tu (i:=19) ?_
   try simp only [Act.put,qq]
   refine tu (i:=20) ?_
   try simp only [Act.put,qq]
   refine tu (i:=21) ?_
   try simp only [Act.put,qq]
   refine tq (i:=22) ?_
   try simp only [Act.put,qq]
   refine tq (i:=23) ?_
   try simp only [Act.put,qq]
   refine tu (i:=24) ?_
   try simp only [Act.put,qq]
   refine tu (i:=25) ?_
   try simp only [Act.put,qq]
   refine tu (i:=26) ?_
   try simp only [Act.put,qq]
   refine tu (i:=27) ?_
   try simp only [Act.put,qq]
   refine tu (i:=28) ?_
   try simp only [Act.put,qq]
   refine tu (i:=29) ?_
   try simp only [Act.put,qq]
   refine tu (i:=30) ?_
   try simp only [Act.put,qq]
   refine tu (i:=31) ?_
   try simp only [Act.put,qq]
   refine tu (i:=32) ?_
   try simp only [Act.put,qq]
   refine tu (i:=34) ?_
   try simp only [Act.put,qq]
   refine tu (i:=33) ?_
   try simp only [Act.put,qq]
   refine tu (i:=35) ?_
   try simp only [Act.put,qq]
   refine tq (i:=36) ?_
   try simp only [Act.put,qq]
   refine tq (i:=37) ?_
   try simp only [Act.put,qq]
   refine wpAnyH_done (by kernel_rfl) ?_ _
   go_wp2_with fail
   go_ret
   exact ⟨rfl,hg1.out⟩
 obtain ⟨kb,ko,hp,hn0⟩:=hn.rn.at_ 0 h0
 subst hp
 rw [show ko+0 * 7=ko by omega] at hn0
 obtain ⟨kx,hkx'⟩:∃ kx,(ck=1∧kx=ko)∨(ck≠1∧kx=ko+7):=by
  by_cases hc:ck=1
  ·exact ⟨ko,Or.inl ⟨hc,rfl⟩⟩
  ·exact ⟨ko+7,Or.inr ⟨hc,rfl⟩⟩
 have hkx:=qd hkx'
 clear hkx'
 have HM:=qd (fun V (hV:Hid (Bl w V))=>rh_of hV (isMessage_ok hT n.text _ n.kids.tail o V ho hn.t (hE.mono hV.out) ((hn.rn.keep hV.out).tail2 h0 hkx.out) (fun i hi=>by rw [getD_tail]; exact hX (i+1) (by rw [List.length_tail] at hi; omega))))
 have HRc:=qd (fun V (hV:Hid (Bl w V))=>rh_of hV (isReceiver_ok (n.kids.getD 0 qE) (hX 0 h0) kb ko (qI n.text) o V ho (rankS_le _) (hE.mono hV.out) (hn0.keep hV.out)))
 have d0:=qd (decide_eq_true h0)
 rw [d0.out]
 obtain ⟨lm,hlm⟩:∃ lm,n.kids.length=lm+1:=⟨n.kids.length - 1,by omega⟩
 rw [hlm] at hck hC HM
 rw [show lm+1 - 1=lm from rfl] at HM
 generalize recvB (n.kids.getD 0 qE) (qI n.text) o=RC at *
 generalize msgB n.text n.kids.tail o=MM at *
 generalize qI n.text=rk at *
 generalize n.text=tx at *
 generalize zd n 9=K at *
 have i0:(0:Int) < (lm:Int)+1:=by omega
 have i1:(1:Int)≤(lm:Int)+1:=by omega
 clear h hn hE h9 hS hX hsz hT hn0 h0 d0 hlm
 cases K with
 | false =>
  go_enter Tryz.func65,Tryz.ntmps65
  go_wp2_with fail
  refine wp_region_held_drew (S:=fun V=>V.cell? ⟨b,off+1,none⟩=some (.string (ba tx))∧V.cell? ⟨b,off+6,none⟩=some (.slice (some ⟨kb,ko,none⟩) (lm+1) ck)) (by kernel_rfl) (hC.out _ (hbd hR)) (fun hHeld=>?_)
  refine tq (i:=0) ?_
  try simp only [Act.put,qq]
  refine qU (i:=1) (by kernel_rfl) rfl (fun K hK=>?_)
  refine qO (by rfl) 64 Tryz.f64 Tryz.func64 (by kernel_rfl) (by kernel_rfl) _ _ rfl _ (by first | (simp [Act.eval]; done) | (simp [Act.eval]; rfl)) _ (HK1.out _ (hbd hR)) ?_
  rintro _ w1 ⟨rfl,hg1⟩;refine hK.out _ _ (hC.out _ hg1) (fun hHeld=>?_)
  clear hK K
  try simp only [Act.put,qq]
  refine tq (i:=2) ?_
  try simp only [Act.put,qq]
  refine tu (i:=3) ?_
  try simp only [Act.put,qq]
  refine tu (i:=4) ?_
  try simp only [Act.put,qq]
  refine tu (i:=5) ?_
  try simp only [Act.put,qq]
  refine tu (i:=6) ?_
  try simp only [Act.put,qq]
  refine tu (i:=7) ?_
  try simp only [Act.put,qq]
  refine tu (i:=8) ?_
  try simp only [Act.put,qq]
  refine tq (i:=9) ?_
  try simp only [Act.put,qq]
  refine tq (i:=10) ?_
  try simp only [Act.put,qq]
  refine tu (i:=11) ?_
  try simp only [Act.put,qq]
  refine tu (i:=12) ?_
  try simp only [Act.put,qq]
  refine tu (i:=13) ?_
  try simp only [Act.put,qq]
  refine tu (i:=14) ?_
  try simp only [Act.put,qq]
  refine tu (i:=15) ?_
  try simp only [Act.put,qq]
  refine tu (i:=16) ?_
  try simp only [Act.put,qq]
  refine tu (i:=17) ?_
  try simp only [Act.put,qq]
  refine tu (i:=18) ?_
  try simp only [Act.put,qq]
  refine tu (i:=19) ?_
  try simp only [Act.put,qq]
  refine tu (i:=20) ?_
  try simp only [Act.put,qq]
  refine tu (i:=21) ?_
  try simp only [Act.put,qq]
  refine tq (i:=22) ?_
  try simp only [Act.put,qq]
  refine tq (i:=23) ?_
  try simp only [Act.put,qq]
  refine tu (i:=24) ?_
  try simp only [Act.put,qq]
  refine tu (i:=25) ?_
  try simp only [Act.put,qq]
  refine tu (i:=26) ?_
  try simp only [Act.put,qq]
  refine tu (i:=27) ?_
  try simp only [Act.put,qq]
  refine tu (i:=28) ?_
  try simp only [Act.put,qq]
  refine tu (i:=29) ?_
  try simp only [Act.put,qq]
  refine tu (i:=30) ?_
  try simp only [Act.put,qq]
  refine tu (i:=31) ?_
  try simp only [Act.put,qq]
  refine tu (i:=32) ?_
  try simp only [Act.put,qq]
  refine tu (i:=34) ?_
  try simp only [Act.put,qq]
  refine tu (i:=33) ?_
  try simp only [Act.put,qq]
  refine tu (i:=35) ?_
  try simp only [Act.put,qq]
  refine tq (i:=36) ?_
  try simp only [Act.put,qq]
  refine tq (i:=37) ?_
  try simp only [Act.put,qq]
  refine wpAnyH_done (by kernel_rfl) ?_ _
  go_wp2_with fail
  go_ret
  exact ⟨rfl,hg1.out⟩
 | true =>
 cases MM with
 | false =>
  go_enter Tryz.func65,Tryz.ntmps65
  go_wp2_with fail
  refine wp_region_held_drew (S:=fun V=>V.cell? ⟨b,off+1,none⟩=some (.string (ba tx))∧V.cell? ⟨b,off+6,none⟩=some (.slice (some ⟨kb,ko,none⟩) (lm+1) ck)) (by kernel_rfl) (hC.out _ (hbd hR)) (fun hHeld=>?_)
  refine tq (i:=0) ?_
  try simp only [Act.put,qq]
  refine qU (i:=1) (by kernel_rfl) rfl (fun K hK=>?_)
  refine qO (by rfl) 64 Tryz.f64 Tryz.func64 (by kernel_rfl) (by kernel_rfl) _ _ rfl _ (by first | (simp [Act.eval]; done) | (simp [Act.eval]; rfl)) _ (HK1.out _ (hbd hR)) ?_
  rintro _ w1 ⟨rfl,hg1⟩;refine hK.out _ _ (hC.out _ hg1) (fun hHeld=>?_)
  clear hK K
  try simp only [Act.put,qq]
  refine tq (i:=2) ?_
  try simp only [Act.put,qq]
  refine tq (i:=3) ?_
  try simp only [Act.put,qq]
  refine tq (i:=4) ?_
  try simp only [Act.put,qq]
  refine tq (i:=5) ?_
  try simp only [Act.put,qq]
  refine tq (i:=6) ?_
  try simp only [Act.put,qq]
  refine tq (i:=7) ?_
  try simp only [Act.put,qq]
  refine tq (i:=8) ?_
  try simp only [Act.put,qq]
  refine tq (i:=9) ?_
  try simp only [Act.put,qq]
  refine tq (i:=10) ?_
  try simp only [Act.put,qq]
  refine tq (i:=11) ?_
  try simp only [Act.put,qq]
  refine tq (i:=12) ?_
  try simp only [Act.put,qq]
  refine tq (i:=13) ?_
  try simp only [Act.put,qq]
  refine tq (i:=14) ?_
  try simp only [Act.put,qq]
  refine tq (i:=15) ?_
  try simp only [Act.put,qq]
  refine tq (i:=16) ?_
  try simp only [Act.put,qq]
  refine tq (i:=17) ?_
  try simp only [Act.put,qq]
  refine tq (i:=18) ?_
  try simp only [Act.put,qq]
  refine wpAnyH_take (i:=19) (v:=.slice (some ⟨kb,kx,none⟩) lm (ck - 1)) rfl (by kernel_rfl) (by kernel_rfl) (by kernel_rfl) (fun _ _ _ h=>h) (Or.inl ⟨by rfl,?_⟩) (by assumption) ?_
  ·(intro w hSw; (try dsimp only at hSw); (try go_split_ands); (rcases hkx.out with ⟨hx1,hx2⟩ | ⟨hx1,hx2⟩ <;> (rw [hx2]; go_simp; try first | omega | rfl | (simp [hx1]; done))))
  try simp only [Act.put,qq]
  refine tq (i:=20) ?_
  try simp only [Act.put,qq]
  refine qU (i:=21) (by kernel_rfl) rfl (fun K hK=>?_)
  refine qO (by rfl) 99 Tryz.f99 Tryz.func99 (by kernel_rfl) (by kernel_rfl) _ _ rfl _ (by first | (simp [Act.eval]; done) | (simp [Act.eval]; rfl)) _ (HM.out _ hg1) ?_
  rintro _ w2 ⟨rfl,hg2⟩;refine hK.out _ _ (hC.out _ hg2) (fun hHeld=>?_)
  clear hK K
  try simp only [Act.put,qq]
  refine tq (i:=22) ?_
  try simp only [Act.put,qq]
  refine tq (i:=23) ?_
  try simp only [Act.put,qq]
  refine tu (i:=24) ?_
  try simp only [Act.put,qq]
  refine tu (i:=25) ?_
  try simp only [Act.put,qq]
  refine tu (i:=26) ?_
  try simp only [Act.put,qq]
  refine tu (i:=27) ?_
  try simp only [Act.put,qq]
  refine tu (i:=28) ?_
  try simp only [Act.put,qq]
  refine tu (i:=29) ?_
  try simp only [Act.put,qq]
  refine tu (i:=30) ?_
  try simp only [Act.put,qq]
  refine tu (i:=31) ?_
  try simp only [Act.put,qq]
  refine tu (i:=32) ?_
  try simp only [Act.put,qq]
  refine tu (i:=34) ?_
  try simp only [Act.put,qq]
  refine tu (i:=33) ?_
  try simp only [Act.put,qq]
  refine tu (i:=35) ?_
  try simp only [Act.put,qq]
  refine tq (i:=36) ?_
  try simp only [Act.put,qq]
  refine tq (i:=37) ?_
  try simp only [Act.put,qq]
  refine wpAnyH_done (by kernel_rfl) ?_ _
  go_wp2_with fail
  go_ret
  exact ⟨rfl,hg2.out⟩
 | true =>
  go_enter Tryz.func65,Tryz.ntmps65
  go_wp2_with fail
  refine wp_region_held_drew (S:=fun V=>V.cell? ⟨b,off+1,none⟩=some (.string (ba tx))∧V.cell? ⟨b,off+6,none⟩=some (.slice (some ⟨kb,ko,none⟩) (lm+1) ck)) (by kernel_rfl) (hC.out _ (hbd hR)) (fun hHeld=>?_)
  refine tq (i:=0) ?_
  try simp only [Act.put,qq]
  refine qU (i:=1) (by kernel_rfl) rfl (fun K hK=>?_)
  refine qO (by rfl) 64 Tryz.f64 Tryz.func64 (by kernel_rfl) (by kernel_rfl) _ _ rfl _ (by first | (simp [Act.eval]; done) | (simp [Act.eval]; rfl)) _ (HK1.out _ (hbd hR)) ?_
  rintro _ w1 ⟨rfl,hg1⟩;refine hK.out _ _ (hC.out _ hg1) (fun hHeld=>?_)
  clear hK K
  try simp only [Act.put,qq]
  refine tq (i:=2) ?_
  try simp only [Act.put,qq]
  refine tq (i:=3) ?_
  try simp only [Act.put,qq]
  refine tq (i:=4) ?_
  try simp only [Act.put,qq]
  refine tq (i:=5) ?_
  try simp only [Act.put,qq]
  refine tq (i:=6) ?_
  try simp only [Act.put,qq]
  refine tq (i:=7) ?_
  try simp only [Act.put,qq]
  refine tq (i:=8) ?_
  try simp only [Act.put,qq]
  refine tq (i:=9) ?_
  try simp only [Act.put,qq]
  refine tq (i:=10) ?_
  try simp only [Act.put,qq]
  refine tq (i:=11) ?_
  try simp only [Act.put,qq]
  refine tq (i:=12) ?_
  try simp only [Act.put,qq]
  refine tq (i:=13) ?_
  try simp only [Act.put,qq]
  refine tq (i:=14) ?_
  try simp only [Act.put,qq]
  refine tq (i:=15) ?_
  try simp only [Act.put,qq]
  refine tq (i:=16) ?_
  try simp only [Act.put,qq]
  refine tq (i:=17) ?_
  try simp only [Act.put,qq]
  refine tq (i:=18) ?_
  try simp only [Act.put,qq]
  refine wpAnyH_take (i:=19) (v:=.slice (some ⟨kb,kx,none⟩) lm (ck - 1)) rfl (by kernel_rfl) (by kernel_rfl) (by kernel_rfl) (fun _ _ _ h=>h) (Or.inl ⟨by rfl,?_⟩) (by assumption) ?_
  ·(intro w hSw; (try dsimp only at hSw); (try go_split_ands); (rcases hkx.out with ⟨hx1,hx2⟩ | ⟨hx1,hx2⟩ <;> (rw [hx2]; go_simp; try first | omega | rfl | (simp [hx1]; done))))
  try simp only [Act.put,qq]
  refine tq (i:=20) ?_
  try simp only [Act.put,qq]
  refine qU (i:=21) (by kernel_rfl) rfl (fun K hK=>?_)
  refine qO (by rfl) 99 Tryz.f99 Tryz.func99 (by kernel_rfl) (by kernel_rfl) _ _ rfl _ (by first | (simp [Act.eval]; done) | (simp [Act.eval]; rfl)) _ (HM.out _ hg1) ?_
  rintro _ w2 ⟨rfl,hg2⟩;refine hK.out _ _ (hC.out _ hg2) (fun hHeld=>?_)
  clear hK K
  try simp only [Act.put,qq]
  refine tq (i:=22) ?_
  try simp only [Act.put,qq]
  refine tq (i:=23) ?_
  try simp only [Act.put,qq]
  refine tq (i:=24) ?_
  try simp only [Act.put,qq]
  refine tq (i:=25) ?_
  try simp only [Act.put,qq]
  refine tq (i:=26) ?_
  try simp only [Act.put,qq]
  refine tq (i:=27) ?_
  try simp only [Act.put,qq]
  refine tq (i:=28) ?_
  try simp only [Act.put,qq]
  refine tq (i:=29) ?_
  try simp only [Act.put,qq]
  refine tq (i:=30) ?_
  try simp only [Act.put,qq]
  refine tq (i:=31) ?_
  try simp only [Act.put,qq]
  refine tq (i:=32) ?_
  try simp only [Act.put,qq]
  refine tq (i:=34) ?_
  try simp only [Act.put,qq]
  refine qU (i:=33) (by kernel_rfl) rfl (fun K hK=>?_)
  refine qO (by rfl) 101 Tryz.f101 Tryz.func101 (by kernel_rfl) (by kernel_rfl) _ _ rfl _ (by first | (simp [Act.eval]; done) | (simp [Act.eval]; rfl)) _ (HRk.out _ hg2) ?_
  rintro _ w3 ⟨rfl,hg3⟩;refine hK.out _ _ (hC.out _ hg3) (fun hHeld=>?_)
  clear hK K
  try simp only [Act.put,qq]
  refine qU (i:=35) (by kernel_rfl) rfl (fun K hK=>?_)
  refine qO (by rfl) 100 Tryz.f100 Tryz.func100 (by kernel_rfl) (by kernel_rfl) _ _ rfl _ (by first | (simp [Act.eval]; done) | (simp [Act.eval]; rfl)) _ (HRc.out _ hg3) ?_
  rintro _ w4 ⟨rfl,hg4⟩;refine hK.out _ _ (hC.out _ hg4) (fun hHeld=>?_)
  clear hK K
  try simp only [Act.put,qq]
  refine tq (i:=36) ?_
  try simp only [Act.put,qq]
  refine tq (i:=37) ?_
  try simp only [Act.put,qq]
  refine wpAnyH_done (by kernel_rfl) ?_ _
  go_wp2_with fail
  go_ret
  exact ⟨rfl,hg4.out⟩
theorem isExpression_ok (hT:CT) (n:Nt) (hX:∀ i,i < n.kids.length→CE (n.kids.getD i qE)) (hX2:∀ i j,i < n.kids.length→j < (n.kids.getD i qE).kids.length→CE ((n.kids.getD i qE).kids.getD j qE)):CE n:=by
 intro b off o w ho hE h
 have hB:=exprB_is n o
 rw [hB]
 by_cases h6:n.kind=6
 ·rw [if_pos h6]; exact exp6 n b off o w hE h h6
 rw [if_neg h6]
 by_cases h8:n.kind=8
 ·rw [if_pos h8]; exact exp8 n b off o w ho hE h h8 (fun h0=>hX 0 h0)
 rw [if_neg h8]
 by_cases h9:n.kind=9
 ·rw [if_pos h9]; exact exp9 hT n b off o w ho hE h h9 hX
 rw [if_neg h9]
 obtain ⟨sn,sk,hn⟩:=h.nod
 have c0:=hn.c0
 have q6:(n.kind == 6)=false:=beq_eq_false_iff_ne.2 h6
 have q8:(n.kind == 8)=false:=beq_eq_false_iff_ne.2 h8
 have q9:(n.kind == 9)=false:=beq_eq_false_iff_ne.2 h9
 by_cases h10:n.kind=10
 ·rw [if_pos h10]
  have q10:(n.kind == 10)=true:=beq_iff_eq.2 h10;have HC:=qd (isCascade_ok hT n b off o w ho hE h hX hX2);generalize (zd n 10 && (decide (3≤n.kids.length) && cascB n.kids o))=B at *;clear hB hn hE h hX hX2 hT h6 h8 h9 h10
  go_enter Tryz.func65,Tryz.ntmps65
  go_wp2_with (go_at_call 102; refine HC.out.mono ?_; rintro e w1 ⟨rfl,b1⟩)
  go_ret
  exact ⟨rfl,b1⟩
 rw [if_neg h10]
 have q10:(n.kind == 10)=false:=beq_eq_false_iff_ne.2 h10
 by_cases h12:n.kind=12
 ·rw [if_pos h12]
  have q12:(n.kind == 12)=true:=beq_iff_eq.2 h12;have HC:=qd (isBlock_ok n b off o w ho hE h hX (fun i hi h0=>hX2 i 0 hi h0))
  generalize (zd n 12 && (decide (o < 24) && (decide (0≤n.num∧n.num≤8∧n.num≤n.names.length) && (nmsB n.names && jF n.kids (o+1)))))=B at *;clear hB hn hE h hX hX2 hT h6 h8 h9 h10 h12
  go_enter Tryz.func65,Tryz.ntmps65
  go_wp2_with (go_at_call 103; refine HC.out.mono ?_; rintro e w1 ⟨rfl,b1⟩)
  go_ret
  exact ⟨rfl,b1⟩
 rw [if_neg h12]
 have q12:(n.kind == 12)=false:=beq_eq_false_iff_ne.2 h12
 have HC:=qd (lit_all (sizN n) n (Nat.le_refl _) b off o w ho hE h)
 generalize litB n o=B at *
 clear hB hn hE h hX hX2 hT h6 h8 h9 h10 h12
 go_enter Tryz.func65,Tryz.ntmps65
 go_wp2_with (go_at_call 104; refine HC.out.mono ?_; rintro e w1 ⟨rfl,b1⟩)
 go_ret
 exact ⟨rfl,b1⟩
theorem expr_all (hT:CT):∀ (N:Nat) (n:Nt),sizN n≤N→CE n:=by
 intro N
 induction N with
 | zero=>intro n h; have:=sizN_pos n; omega
 | succ N ih =>
  intro n h;exact isExpression_ok hT n (fun i hi=>ih _ (by have:=siz_kid n i hi; omega)) (fun i j hi hj=>ih _ (by have:=siz_kid n i hi; have:=siz_kid (n.kids.getD i qE) j hj; omega))
theorem body_all (hT:CT) (v:Value) (l:List Nt) (o:Nat) (w:World) (ho:o≤24) (hE:Env w) (hr:RdN w v l):Calls Tryz.prog 37 #[v,.int .i64 o] w (RB (jF l o) w) :=
 isBody_ok v l o w ho hE hr (fun i hi=>expr_all hT _ _ (Nat.le_refl _)) (fun i hi h0=>expr_all hT _ _ (Nat.le_refl _))
end Go.Proofs.YtfhkhmgodkheaaaGreatDoor
