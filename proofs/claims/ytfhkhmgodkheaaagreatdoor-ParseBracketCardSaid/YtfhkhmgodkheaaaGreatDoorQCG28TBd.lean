import Derived.Test.YtfhkhmgodkheaaaGreatDoorQCG27TNm
import Derived.Test.YtfhkhmgodkheaaaGreatDoorQCG08TSym
import Derived.Test.YtfhkhmgodkheaaaGreatDoorQCG21PMes
set_option linter.unusedSimpArgs false
set_option linter.unusedVariables false
set_option maxRecDepth 1000000
set_option maxHeartbeats 16000000
namespace Go.Proofs.YtfhkhmgodkheaaaGreatDoor
open Go.RowKit Go.Maps
def RB (B:Bool) (w:World) (e:Ending) (w':World):Prop:=e=.returned (.bool B)∧Bl w w'
theorem rankOf_ok (n:Nt) (b off:Nat) (w:World) (h:NtM w n b off):Calls Tryz.prog 143 #[.pointer (some ⟨b,off,none⟩)] w fun e w'=>e=.returned (.int .i64 (rankN n))∧Bl w w':=by
 obtain ⟨sn,sk,hn⟩:=h.nod
 have c0:=hn.c0
 have c1:=hn.c1
 have hsz:(ba n.text).size=n.text.length:=by rw [← qo,qJ]
 have HR:=qd (fun V=>jK (ba n.text) V (by have:=hn.t; omega))
 rw [qJ] at HR
 have hE:Hid (rankN n=if n.kind=9 then qI n.text else if n.kind=8∨n.kind=10 then 4 else 0):=qd rfl
 generalize n.kind=k at *
 generalize n.text=t at *
 generalize rankN n=R at *
 clear h hn hsz
 by_cases h9:k=9
 ·have q9:(k == 9)=true:=beq_iff_eq.2 h9
  have e:Hid (R=qI t):=qd (by rw [hE.out,if_pos h9])
  clear h9 hE
  go_enter Tryz.func143,Tryz.ntmps143
  go_wp2_with (go_at_call 101; refine (HR.out _).mono ?_; rintro e w1 ⟨rfl,b1⟩)
  go_ret
  exact ⟨by rw [e.out]; rfl,b1⟩
 ·have q9:(k == 9)=false:=beq_eq_false_iff_ne.2 h9
  by_cases h8:k=8
  ·have q8:(k == 8)=true:=beq_iff_eq.2 h8
   have e:Hid (R=4):=qd (by rw [hE.out,if_neg h9,if_pos (Or.inl h8)])
   clear h9 hE h8
   go_enter Tryz.func143,Tryz.ntmps143
   go_wp2_with fail
   go_ret
   exact ⟨by rw [e.out]; rfl,Bl.refl _⟩
  ·have q8:(k == 8)=false:=beq_eq_false_iff_ne.2 h8
   by_cases h10:k=10
   ·have q10:(k == 10)=true:=beq_iff_eq.2 h10
    have e:Hid (R=4):=qd (by rw [hE.out,if_neg h9,if_pos (Or.inr h10)])
    clear h9 hE h8 h10
    go_enter Tryz.func143,Tryz.ntmps143
    go_wp2_with fail
    go_ret
    exact ⟨by rw [e.out]; rfl,Bl.refl _⟩
   ·have q10:(k == 10)=false:=beq_eq_false_iff_ne.2 h10
    have e:Hid (R=0):=qd (by rw [hE.out,if_neg h9,if_neg (by omega)])
    clear h9 hE h8 h10
    go_enter Tryz.func143,Tryz.ntmps143
    go_wp2_with fail
    go_ret
    exact ⟨by rw [e.out]; rfl,Bl.refl _⟩
theorem rankN_le (n:Nt):rankN n≤4:=by
 unfold rankN qI
 (repeat' split); all_goals omega
theorem mostRecv_ok (k:Nat) (hk:k≤4) (w:World):Calls Tryz.prog 124 #[.int .i64 k] w fun e w'=>e=.returned (.int .i64 ((min k 2:Nat):Int))∧w'=w:=by
 have e:Hid (((min k 2:Nat):Int)=min (k:Int) 2):=qd (by omega)
 by_cases h:(k:Int)≤2
 ·have e2:Hid (((min k 2:Nat):Int)=k):=qd (by omega)
  go_enter Tryz.func124,Tryz.ntmps124
  go_wp2_with fail
  go_ret
  exact ⟨by first | (rw [e.out]; rfl) | (rw [e2.out]; rfl),rfl⟩
 ·have e2:Hid (((min k 2:Nat):Int)=2):=qd (by omega)
  go_enter Tryz.func124,Tryz.ntmps124
  go_wp2_with fail
  go_ret
  exact ⟨by first | (rw [e.out]; rfl) | (rw [e2.out]; rfl),rfl⟩
def CE (n:Nt):Prop:=∀ (b off o:Nat) (w:World),o≤24→Env w→NtM w n b off→Calls Tryz.prog 65 #[.pointer (some ⟨b,off,none⟩),.int .i64 o] w (RB (jJ n o) w)
theorem isOperand_ok (n:Nt) (hX:CE n) (b off most o:Nat) (w:World) (ho:o≤24) (hm:most≤4) (hE:Env w) (h:NtM w n b off):Calls Tryz.prog 123 #[.pointer (some ⟨b,off,none⟩),.int .i64 most,.int .i64 o] w (RB (operB n most o) w):=by
 have HR:=qd (rankOf_ok n b off w h)
 have hr:=rankN_le n
 have HX:=qd (fun o' V (ho':o'≤24) (bl:Bl w V)=>hX b off o' V ho' (hE.mono bl) (h.keep bl))
 have hB:Hid (operB n most o=(decide (opnN n most o≤24) && jJ n (opnN n most o))):=qd rfl
 have hO:Hid (opnN n most o=if most < rankN n then o+1 else o):=qd rfl
 generalize rankN n=R at *
 generalize opnN n most o=O at *
 generalize operB n most o=BB at *
 clear hX hE h
 by_cases hl:most < R
 ·have q:(most:Int) < R:=by omega
  have eO:O=o+1:=by rw [hO.out,if_pos hl]
  subst eO
  by_cases h24:o+1≤24
  ·have HX1:=qd (fun V bl=>HX.out (o+1) V h24 bl)
   have q24:(o:Int)+1≤24:=by omega
   have d24:=qd (decide_eq_true h24);have hw:IntKind.i64.wrap ((o:Int)+1)=(o:Int)+1:=zP _ (by omega) (by omega)
   have hc:((o+1:Nat):Int)=(o:Int)+1:=by omega
   rw [hc] at HX1;clear HX hl h24 hO;generalize jJ n (o+1)=E at *
   go_enter Tryz.func123,Tryz.ntmps123
   go_wp2_with (first
    | (go_at_call 143; refine HR.out.mono ?_; rintro e w1 ⟨rfl,b1⟩)
    | (go_at_call 65; refine (HX1.out _ b1).mono ?_; rintro e w2 ⟨rfl,b2⟩))
   go_ret
   exact ⟨by rw [hB.out,d24.out]; rfl,b1.trans b2⟩
  ·have q24:¬ (o:Int)+1≤24:=by omega
   have d24:=qd (decide_eq_false h24);have hw:IntKind.i64.wrap ((o:Int)+1)=(o:Int)+1:=zP _ (by omega) (by omega)
   clear HX hl h24 hO
   go_enter Tryz.func123,Tryz.ntmps123
   go_wp2_with (go_at_call 143; refine HR.out.mono ?_; rintro e w1 ⟨rfl,b1⟩)
   go_ret
   exact ⟨by rw [hB.out,d24.out]; rfl,b1⟩
 ·have q:¬ (most:Int) < R:=by omega
  have eO:O=o:=by rw [hO.out,if_neg hl]
  subst eO;have HX1:=qd (fun V bl=>HX.out O V ho bl)
  have q24:(O:Int)≤24:=by omega
  have d24:=qd (decide_eq_true ho);clear HX hl hO;generalize jJ n O=E at *
  go_enter Tryz.func123,Tryz.ntmps123
  go_wp2_with (first
   | (go_at_call 143; refine HR.out.mono ?_; rintro e w1 ⟨rfl,b1⟩)
   | (go_at_call 65; refine (HX1.out _ b1).mono ?_; rintro e w2 ⟨rfl,b2⟩))
  go_ret
  exact ⟨by rw [hB.out,d24.out]; rfl,b1.trans b2⟩
theorem isReceiver_ok (n:Nt) (hX:CE n) (b off rank o:Nat) (w:World) (ho:o≤24) (hm:rank≤4) (hE:Env w) (h:NtM w n b off):Calls Tryz.prog 100 #[.pointer (some ⟨b,off,none⟩),.int .i64 rank,.int .i64 o] w (RB (recvB n rank o) w):=by
 have HK:=qd (jG n b off 7 (by omega) (by omega) w hE.knd h)
 have HM:=qd (mostRecv_ok rank hm)
 have HO:=qd (fun V (bl:Bl w V)=>isOperand_ok n hX b off (min rank 2) o V ho (by omega) (hE.mono bl) (h.keep bl))
 have hB:Hid (recvB n rank o=(zd n 7 || operB n (min rank 2) o)):=qd rfl
 generalize recvB n rank o=BB at *
 generalize operB n (min rank 2) o=OO at *
 generalize min rank 2=MM at *
 generalize zd n 7=KK at *
 clear hX hE h
 cases KK with
 | true =>
  go_enter Tryz.func100,Tryz.ntmps100
  go_wp2_with (go_at_call 64; refine HK.out.mono ?_; rintro e w1 ⟨rfl,b1⟩)
  go_ret
  exact ⟨by rw [hB.out]; rfl,b1⟩
 | false =>
  go_enter Tryz.func100,Tryz.ntmps100
  go_wp2_with (first
   | (go_at_call 64; refine HK.out.mono ?_; rintro e w1 ⟨rfl,b1⟩)
   | (go_at_call 124; refine (HM.out _).mono ?_; rintro e w2 ⟨rfl,h2⟩; have h3:=h2.symm; subst h3)
   | (go_at_call 123; refine (HO.out _ b1).mono ?_; rintro e w3 ⟨rfl,b3⟩))
  go_ret
  exact ⟨by rw [hB.out]; rfl,b1.trans b3⟩
def tkV (t:Bs):Array Value:=match jB t with
 | some c=>#[.int .i64 (c:Nat),.bool true]
 | none=>#[.int .i64 0,.bool false]
def CT:Prop:=∀ (t:Bs) (w:World),t.length≤268435456→Calls Tryz.prog 35 #[.string (ba t)] w fun e w'=>e=.returned (.tuple (tkV t))∧Bl w w'
theorem takes_rank {t:Bs} {c:Nat} (h:jB t=some c):1≤qI t∧qI t≤3∧c≤8:=by
 unfold jB at h
 split at h
 ·cases h
 split at h
 ·cases h
 rename_i h1 h2
 split at h
 ·injection h with h
  subst h;unfold qI;rw [if_neg (by omega)]
  refine ⟨?_,?_,by omega⟩ <;> (repeat' split) <;> omega
 ·cases h
theorem RdN.at_ {w:World} {p:Option Addr} {n c:Nat} {l:List Nt} (h:RdN w (.slice p n c) l) (i:Nat) (hi:i < l.length):∃ kb ko,p=some ⟨kb,ko,none⟩∧NtM w (l.getD i qE) kb (ko+i * 7):=by
 obtain ⟨p',c',kb,ko,e,_,_,hp,hs⟩:=h
 injection e with e1 e2 e3
 exact ⟨kb,ko,by rw [e1]; exact hp (by omega),hs.get i hi⟩
theorem RdN.slc {w:World} {v:Value} {l:List Nt} (h:RdN w v l):∃ p c,v=.slice p l.length c∧l.length≤c∧l.length≤268435456:=by
 obtain ⟨p',c',kb,ko,e,h1,h2,hp,hs⟩:=h
 exact ⟨p',c',e,h1,h2⟩
theorem isMessage_ok (hT:CT) (t:Bs) (v:Value) (l:List Nt) (o:Nat) (w:World) (ho:o≤24) (ht:t.length≤268435456) (hE:Env w) (hr:RdN w v l) (hX:∀ i,i < l.length→CE (l.getD i qE)):Calls Tryz.prog 99 #[.string (ba t),v,.int .i64 o] w (RB (msgB t l o) w):=by
 obtain ⟨p,c,rfl,hc1,hc2⟩:=hr.slc
 have hsz:(ba t).size=t.length:=by rw [← qo,qJ]
 have HK:=qd (hT t w ht)
 have HS:=qd (fun V=>jK (ba t) V (by omega))
 rw [qJ] at HS
 unfold tkV at HK
 cases hk:jB t with
 | none =>
  rw [hk] at HK;have hB:Hid (msgB t l o=false):=qd (by unfold msgB; rw [hk]; rfl)
  clear hr hX hE hT ht hk
  go_enter Tryz.func99,Tryz.ntmps99
  go_wp2_with (go_at_call 35; refine HK.out.mono ?_; rintro e w1 ⟨rfl,b1⟩)
  go_ret
  exact ⟨by rw [hB.out]; rfl,b1⟩
 | some m =>
  rw [hk] at HK;dsimp only at HK;obtain ⟨k1,k2,k3⟩:=takes_rank hk
  by_cases hm:m=l.length
  rotate_left
  ·have hB:Hid (msgB t l o=false):=qd (by unfold msgB; rw [hk,decide_eq_false (by intro h; injection h with h; exact hm h)]; rfl)
   have q:((l.length:Int) != m)=true:=by rw [bne_iff_ne]; omega
   clear hr hX hE hT ht hk hm
   go_enter Tryz.func99,Tryz.ntmps99
   go_wp2_with (go_at_call 35; refine HK.out.mono ?_; rintro e w1 ⟨rfl,b1⟩)
   go_ret
   exact ⟨by rw [hB.out]; rfl,b1⟩
  subst hm;have HB:Hid (msgB t l o=l.all (fun n=>operB n (qI t - 1) o)):=qd (by unfold msgB; rw [hk,decide_eq_true rfl,opersB_all]; rfl)
  have HA:=qd (all_getD qE (fun n=>operB n (qI t - 1) o) l)
  have HBd:=qd (all_bad qE (fun n=>operB n (qI t - 1) o) l)
  have HM:=qd (most_arg (qI t) ⟨k1,k2⟩);have HO:=qd (fun i (hi:i < l.length) (V:World) (bl:Bl w V) kb ko (hn:NtM V (l.getD i qE) kb (ko+i * 7))=>isOperand_ok (l.getD i qE) (hX i hi) kb (ko+i * 7) (qI t - 1) o V ho (by omega) (hE.mono bl) hn)
  have HR:=qd hr;generalize qI t - 1=mo at *;generalize qI t=rk at *;generalize msgB t l o=BB at *;obtain ⟨n,hn⟩:∃ n,l.length=n:=⟨_,rfl⟩;rw [hn] at hc1 hc2 k3 HK HA HBd HO;rw [hn];have HN:=qd hn;clear hr hX hE hT ht hk hn
  go_enter Tryz.func99,Tryz.ntmps99
  go_wp2_with (first
   | (go_at_call 35; refine HK.out.mono ?_; rintro e w1 ⟨rfl,b1⟩)
   | (go_at_call 101; refine (HS.out _).mono ?_; rintro e w2 ⟨rfl,b2⟩)
   | (go_at_call 122; refine (HM.out _).mono ?_; rintro e w3 ⟨rfl,h2⟩; have h3:=h2.symm; subst h3))
  have BB1:=qd (b1.trans b2)
  go_loopw [29] (fun q wr=>∃ i:Nat,i≤n∧q=.int .i64 i∧Hid (∀ j,j < i→operB (l.getD j qE) mo o=true)∧Hid (Bl w wr)) (fun q _=>n - (intOf q).toNat)
  case atStart=>exact ⟨0,Nat.zero_le _,rfl,(fun j hj=>by omega),BB1.out⟩
  case round =>
   obtain ⟨i,hi,rfl,hok,hbl⟩:=hrel
   by_cases hin:i < n
   ·have hii:(i:Int) < n:=by omega
    obtain ⟨kb,ko,hp,hnd⟩:=(HR.out.keep hbl.out).at_ i (by rw [HN.out]; exact hin)
    subst hp;have HC:=qd (HO.out i hin _ hbl.out kb ko hnd);have hJ:Hid (∀ B,operB (l.getD i qE) mo o=B→(B=true→∀ j,j < i+1→operB (l.getD j qE) mo o=true)∧(B=false→BB=false)):=qd (fun B hB=>⟨fun h j hj=>by
     by_cases he:j=i
     ·rw [he,hB,h]
     ·exact hok.out j (by omega),fun h=>by rw [HB.out]; exact HBd.out i hin (by rw [hB,h])⟩)
    generalize hG:operB (l.getD i qE) mo o=B at *;have hJ2:=qd (hJ.out B rfl);clear hJ hG hok HA HBd HO hnd HK HS HM
    cases B with
    | true =>
     go_wp2_with (go_at_call 123; refine HC.out.mono ?_; rintro e w1 ⟨rfl,b1⟩)
     go_roundw
     case rel=>exact ⟨i+1,by omega,by go_num,hJ2.out.1 (by simp),qd (hbl.out.trans b1)⟩
     case measure=>simp [intOf]; omega
    | false =>
     go_wp2_with (go_at_call 123; refine HC.out.mono ?_; rintro e w1 ⟨rfl,b1⟩)
     go_ret
     exact ⟨by rw [hJ2.out.2 (by simp)]; rfl,hbl.out.trans b1⟩
   ·have hie:¬ (i:Int) < n:=by omega
    have hE:Hid (BB=true):=qd (by rw [HB.out]; exact HA.out.2 fun j hj=>hok.out j (by omega))
    clear HA HBd HO HR HK HS HM
    go_wp2_with fail
    go_ret
    exact ⟨by rw [hE.out]; rfl,hbl.out⟩
theorem isBody_ok (v:Value) (l:List Nt) (o:Nat) (w:World) (ho:o≤24) (hE:Env w) (hr:RdN w v l) (hX:∀ i,i < l.length→CE (l.getD i qE)) (hX2:∀ i,i < l.length→0 < (l.getD i qE).kids.length→CE ((l.getD i qE).kids.getD 0 qE)):Calls Tryz.prog 37 #[v,.int .i64 o] w (RB (jF l o) w):=by
 obtain ⟨p,c,rfl,hc1,hc2⟩:=hr.slc
 have HA:=qd (bodyB_true l o)
 have HBd:Hid (∀ j,j < l.length→stmB (l.getD j qE) (decide (j+1=l.length)) o=false→jF l o=false):=qd (fun j hj h=>by
  cases e:jF l o with
  | false=>rfl
  | true=>rw [(bodyB_true l o).1 e j hj] at h; cases h)
 have HR:=qd hr
 have HX:=qd (fun i (hi:i < l.length) (V:World) (bl:Bl w V) kb ko (hn:NtM V (l.getD i qE) kb ko)=>hX i hi kb ko o V ho (hE.mono bl) hn)
 have HX2:=qd (fun i (hi:i < l.length) (V:World) (bl:Bl w V) (h0:0 < (l.getD i qE).kids.length) kb ko (hn:NtM V ((l.getD i qE).kids.getD 0 qE) kb ko)=>hX2 i hi h0 kb ko o V ho (hE.mono bl) hn)
 have HK:=qd (fun i (hi:i < l.length) (V:World) (bl:Bl w V) kb ko (hn:NtM V (l.getD i qE) kb ko)=>jG (l.getD i qE) kb ko 13 (by omega) (by omega) V (hE.mono bl).knd hn)
 generalize jF l o=BB at *
 obtain ⟨n,hn⟩:∃ n,l.length=n:=⟨_,rfl⟩
 rw [hn] at hc1 hc2 HA HBd HX HX2 HK
 rw [hn]
 have HN:=qd hn
 clear hr hX hX2 hE hn
 have hw0:IntKind.i64.wrap ((n:Int) - 1)=(n:Int) - 1:=zP _ (by omega) (by omega)
 go_enter Tryz.func37,Tryz.ntmps37
 go_wp2_with fail
 go_loopw [9] (fun q wr=>∃ i:Nat,i≤n∧q=.int .i64 i∧Hid (∀ j,j < i→stmB (l.getD j qE) (decide (j+1=n)) o=true)∧Hid (Bl w wr)) (fun q _=>n - (intOf q).toNat)
 case atStart=>exact ⟨0,Nat.zero_le _,rfl,(fun j hj=>by omega),Bl.refl _⟩
 case round =>
  obtain ⟨i,hi,rfl,hok,hbl⟩:=hrel
  by_cases hin:i < n
  rotate_left
  ·have hie:¬ (i:Int) < n:=by omega
   have hE:Hid (BB=true):=qd (HA.out.2 fun j hj=>hok.out j (by omega))
   clear HA HBd HX HX2 HK HR
   go_wp2_with fail
   go_ret
   exact ⟨by rw [hE.out]; rfl,hbl.out⟩
  have hii:(i:Int) < n:=by omega
  obtain ⟨kb,ko,hp,hnd⟩:=(HR.out.keep hbl.out).at_ i (by rw [HN.out]; exact hin)
  subst hp;obtain ⟨sn,sk,nd⟩:=hnd.nod;have c0:=nd.c0;have HND:=qd (fun V (bl:Bl wr V)=>nd.keep bl)
  have HKi:=qd (fun V (bl:Bl wr V)=>HK.out i hin V (hbl.out.trans bl) kb _ (hnd.keep bl))
  have HXi:=qd (fun V (bl:Bl wr V)=>HX.out i hin V (hbl.out.trans bl) kb _ (hnd.keep bl))
  have HX2i:=qd (fun V (bl:Bl wr V)=>HX2.out i hin V (hbl.out.trans bl))
  have hS:Hid (stmB (l.getD i qE) (decide (i+1=n)) o=if (l.getD i qE).kind=13∧decide (i+1=n)=true then zd (l.getD i qE) 13 && oneB (l.getD i qE).kids o else jJ (l.getD i qE) o):=qd rfl
  have hJ:Hid (∀ B,stmB (l.getD i qE) (decide (i+1=n)) o=B→(B=true→∀ j,j < i+1→stmB (l.getD j qE) (decide (j+1=n)) o=true)∧(B=false→BB=false)):=qd (fun B hB=>⟨fun h j hj=>by
   by_cases he:j=i
   ·rw [he,hB,h]
   ·exact hok.out j (by omega),fun h=>HBd.out i hin (by rw [hB,h])⟩)
  generalize hG:stmB (l.getD i qE) (decide (i+1=n)) o=B at *;have hJ2:=qd (hJ.out B rfl);generalize l.getD i qE=d at *;have hO:=qd (oneB_is d.kids o);clear hJ hG hok HA HBd HX HX2 HK hnd nd HR;have hsub:decide ((i:Int)=(n:Int) - 1)=decide (i+1=n):=by rw [Bool.eq_iff_iff]; simp; omega
  by_cases h13:d.kind=13∧i+1=n
  ·have q13:(d.kind == 13)=true:=beq_iff_eq.2 h13.1
   have ql:((i:Int) == (n:Int) - 1)=true:=beq_iff_eq.2 (by omega)
   rw [if_pos ⟨h13.1,decide_eq_true h13.2⟩] at hS;have HK1:=qd (HKi.out _ (Bl.refl _));generalize zd d 13=K at *;clear h13 hsub HKi HXi
   cases K with
   | false =>
    have eB:Hid (B=false):=qd (by rw [hS.out]; rfl)
    go_wp2_with (go_at_call 64; refine HK1.out.mono ?_; rintro e w1 ⟨rfl,b1⟩)
    go_ret
    exact ⟨by rw [hJ2.out.2 eB.out]; rfl,hbl.out.trans b1⟩
   | true =>
    obtain ⟨pk,ck,ek,_,_⟩:=(HND.out _ (Bl.refl _)).rn.slc;subst ek
    by_cases h1:d.kids.length=1
    ·have q1:((d.kids.length:Int) != 1)=false:=by rw [bne_eq_false_iff_eq]; omega
     have HX3:=qd (fun V bl=>HX2i.out V bl (by omega))
     have eB:Hid (B=jJ (d.kids.getD 0 qE) o):=qd (by rw [hS.out,hO.out,decide_eq_true h1]; rfl)
     generalize jJ (d.kids.getD 0 qE) o=E at *;clear HX2i hS hO;obtain ⟨kb2,ko2,hp2,hn2⟩:=(HND.out _ (Bl.refl _)).rn.at_ 0 (by omega)
     subst hp2;have HX4:=qd (fun V bl=>HX3.out V bl kb2 (ko2+0 * 7) (hn2.keep bl))
     rw [show ko2+0 * 7=ko2 by omega] at HX4
     have i0:(0:Int) < (d.kids.length:Int):=by omega
     clear HX3 hn2;generalize hdl:d.kids.length=dl at *;subst h1;have eE:Hid (B=E):=eB
     cases E with
     | true =>
      go_wp2_with (first
       | (go_at_call 64; refine HK1.out.mono ?_; rintro e w1 ⟨rfl,b1⟩; have c6:=(HND.out _ b1).c6)
       | (go_at_call 65; refine (HX4.out _ b1).mono ?_; rintro e w2 ⟨rfl,b2⟩))
      go_roundw
      case rel=>exact ⟨i+1,by omega,by go_num,hJ2.out.1 eE.out,qd ((hbl.out.trans b1).trans b2)⟩
      case measure=>simp [intOf]; omega
     | false =>
      go_wp2_with (first
       | (go_at_call 64; refine HK1.out.mono ?_; rintro e w1 ⟨rfl,b1⟩; have c6:=(HND.out _ b1).c6)
       | (go_at_call 65; refine (HX4.out _ b1).mono ?_; rintro e w2 ⟨rfl,b2⟩))
      go_ret
      exact ⟨by rw [hJ2.out.2 eE.out]; rfl,(hbl.out.trans b1).trans b2⟩
    ·have q1:((d.kids.length:Int) != 1)=true:=by rw [bne_iff_ne]; omega
     have eB:Hid (B=false):=qd (by rw [hS.out,hO.out,decide_eq_false h1]; rfl)
     clear HX2i hS hO h1
     go_wp2_with (go_at_call 64; refine HK1.out.mono ?_; rintro e w1 ⟨rfl,b1⟩; have c6:=(HND.out _ b1).c6)
     go_ret
     exact ⟨by rw [hJ2.out.2 eB.out]; rfl,hbl.out.trans b1⟩
  ·have HX1:=qd (HXi.out _ (Bl.refl _))
   rw [if_neg (fun h=>h13 ⟨h.1,of_decide_eq_true h.2⟩)] at hS
   generalize jJ d o=E at *;clear HKi HX2i HXi hO hsub;have hq:Hid ((d.kind == 13)=false∨((d.kind == 13)=true∧((i:Int) == (n:Int) - 1)=false)):=qd (by
    by_cases hk:d.kind=13
    ·refine Or.inr ⟨beq_iff_eq.2 hk,beq_eq_false_iff_ne.2 ?_⟩
     intro hh;exact h13 ⟨hk,by omega⟩
    ·exact Or.inl (beq_eq_false_iff_ne.2 hk))
   clear h13;have eB:Hid (B=E):=hS
   rcases hq.out with q13 | ⟨q13,ql⟩
   ·cases E with
    | true =>
     go_wp2_with (go_at_call 65; refine HX1.out.mono ?_; rintro e w2 ⟨rfl,b2⟩)
     go_roundw
     case rel=>exact ⟨i+1,by omega,by go_num,hJ2.out.1 eB.out,qd (hbl.out.trans b2)⟩
     case measure=>simp [intOf]; omega
    | false =>
     go_wp2_with (go_at_call 65; refine HX1.out.mono ?_; rintro e w2 ⟨rfl,b2⟩)
     go_ret
     exact ⟨by rw [hJ2.out.2 eB.out]; rfl,hbl.out.trans b2⟩
   ·cases E with
    | true =>
     go_wp2_with (go_at_call 65; refine HX1.out.mono ?_; rintro e w2 ⟨rfl,b2⟩)
     go_roundw
     case rel=>exact ⟨i+1,by omega,by go_num,hJ2.out.1 eB.out,qd (hbl.out.trans b2)⟩
     case measure=>simp [intOf]; omega
    | false =>
     go_wp2_with (go_at_call 65; refine HX1.out.mono ?_; rintro e w2 ⟨rfl,b2⟩)
     go_ret
     exact ⟨by rw [hJ2.out.2 eB.out]; rfl,hbl.out.trans b2⟩
end Go.Proofs.YtfhkhmgodkheaaaGreatDoor
