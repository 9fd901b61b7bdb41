import Derived.Test.YtfhkhmgodkheaaaGreatDoorQCG41UGa
set_option linter.unusedSimpArgs false
set_option linter.unusedVariables false
set_option maxRecDepth 1000000
set_option maxHeartbeats 16000000
namespace Go.Proofs.YtfhkhmgodkheaaaGreatDoor
open Go.RowKit Go.Maps
def outB (ca:Nat) (BR:Bool) (L:Nat) (k:Int) (n:Nat):Bool:=decide (ca≠0∨BR=true∨L≠1∨k=13∨4096 < n+20)
theorem outB_no {ca:Nat} {BR:Bool} {L:Nat} {k:Int} {n:Nat} (h:outB ca BR L k n=false):ca=0∧BR=false∧L=1∧k≠13∧n+20≤4096:=by
 have h:=of_decide_eq_false h
 refine ⟨by omega,?_,by omega,by omega,by omega⟩
 cases BR with
 | false=>rfl
 | true=>exact absurd (Or.inr (Or.inl rfl)) h
def bodyO:Option Src→List Nt
 | some t=>(trS t).body
 | none=>[]
def hdA (i:Nat):ByteArray:=ba (jQ i)
def tlA (i:Nat):ByteArray:=ba (tailB i)
theorem hd_cell (i:Nat) (hi:i < 6):(#[.string ⟨#[40]⟩,.string ⟨#[40]⟩,.string ⟨#[40]⟩,.string ⟨#[116,32,43,32,40]⟩,.string ⟨#[116,32,97,116,58,32,40]⟩,.string ⟨#[116,32,58,61,32,40]⟩]:Array Value)[i]?=some (.string (hdA i)):=by
 have h:i=0∨i=1∨i=2∨i=3∨i=4∨i=5:=by omega
 rcases h with rfl | rfl | rfl | rfl | rfl | rfl <;> rfl
theorem tl_cell (i:Nat) (hi:i < 6):(#[.string ⟨#[41]⟩,.string ⟨#[41,32,102,111,111]⟩,.string ⟨#[41,32,43,32,116]⟩,.string ⟨#[41]⟩,.string ⟨#[41]⟩,.string ⟨#[41]⟩]:Array Value)[i]?=some (.string (tlA i)):=by
 have h:i=0∨i=1∨i=2∨i=3∨i=4∨i=5:=by omega
 rcases h with rfl | rfl | rfl | rfl | rfl | rfl <;> rfl
theorem hd_size (i:Nat):(hdA i).size≤7:=by rw [← qo]; unfold hdA; rw [qJ]; exact head_le i
theorem tl_size (i:Nat):(tlA i).size≤5:=by rw [← qo]; unfold tlA; rw [qJ]; exact tail_le i
def atV (i:Nat):Int:=if i=0 then -1 else if i=3∨i=4 then 1 else 0
theorem at_cell (i:Nat) (hi:i < 6):(#[.int .i64 (-1),.int .i64 0,.int .i64 0,.int .i64 1,.int .i64 1,.int .i64 0]:Array Value)[i]?=some (.int .i64 (atV i)):=by
 have h:i=0∨i=1∨i=2∨i=3∨i=4∨i=5:=by omega
 rcases h with rfl | rfl | rfl | rfl | rfl | rfl <;> rfl
theorem bracket_any (s:ByteArray) (z:Int) (w:World) (hE:Env w) (h1:s.size≤140737488355328) (hz:-9223372036854775808≤z∧z≤9223372036854775807) :
  Calls Tryz.prog 4 #[.string s,.int .i64 z] w fun e w'=>e=.returned (.bool true)∧Bl w w':=by
 obtain ⟨ra,ca,aa,hra⟩:=reads_total false (lst s)
 obtain ⟨ts,cB,aB,hlb,_⟩:=LexR.total (lst s)
 have HK:=qd (pknown_ok w hE)
 have CA:=qd (fun W (b:Bl w W)=>doit_v s ra ca aa W (hE.mono b) h1 hra)
 have CX:=qd (fun W (b:Bl w W)=>barred_ok s ts cB aB W (hE.mono b) h1 hlb)
 have HE:=qd hE
 have RA:=qd hra
 have LB:=qd hlb
 obtain ⟨OUT,hO⟩:∃ OUT,OUT=outB ca (barB ts cB) (bodyO ra).length ((bodyO ra).getD 0 qE).kind s.size:=⟨_,rfl⟩
 have HO:=qd hO
 clear hO hE hra hlb
 go_enter Tryz.func4,Tryz.ntmps4
 go_upto_region 5 with (first
  | (
   go_at_call 9; refine HK.out.mono ?_; rintro e w1 ⟨rfl,b1⟩
   have B1:=qd b1;clear b1)
  | (
   go_at_call 10; refine (CA.out _ B1.out).mono ?_; rintro e wA ⟨bA,t0A,t1A,t2A,t3A,t4A,t5A,rfl,hallA,hTA⟩
   have HAllA:=qd hallA;have HTA:=qd hTA;have HBA:=qd bA;obtain ⟨X7A,hX7A⟩:∃ X,(wA.alloc (.cells #[.string ⟨#[]⟩,.int .i64 0,.int .i64 0,.slice none 0 0,.slice none 0 0,.slice none 0 0] 27)).alloc (.cells #[.int .i64 0,.int .i64 0] 30)=X:=⟨_,rfl⟩;obtain ⟨b7,s7,h0,h1⟩:=two_boxes hX7A;have H0A:Hid (X7A.heap[wA.heap.size]?=some (.cells #[.string ⟨#[]⟩,.int .i64 0,.int .i64 0,.slice none 0 0,.slice none 0 0,.slice none 0 0] 27 (0,0))):=qd h0;obtain ⟨X8A,hX8A⟩:∃ X,X7A.setRow wA.heap.size #[t0A,t1A,t2A,t3A,t4A,t5A]=X:=⟨_,rfl⟩;have f8:Fr [wA.heap.size] X7A X8A:=hX8A▸qG _ _ _;have H1A:Hid (X8A.heap[wA.heap.size+1]?=some (.cells #[.int .i64 0,.int .i64 0] 30 (0,0))):=qd ((f8.block _ (qf h1) (by simp)).trans h1)
   have k8:X8A.heap[wA.heap.size]?=some (.cells #[t0A,t1A,t2A,t3A,t4A,t5A] 27 (0,0)):=hX8A▸setRow_heap _ _ _ _ 27 (0,0) H0A.out;obtain ⟨X9A,hX9A⟩:∃ X,X8A.setRow (wA.heap.size+1) #[.int .i64 ca,.int .i64 aa]=X:=⟨_,rfl⟩;have f9:Fr [wA.heap.size+1] X8A X9A:=hX9A▸qG _ _ _;have m1A:Hid (X9A.heap[wA.heap.size+1]?=some (.cells #[.int .i64 ca,.int .i64 aa] 30 (0,0))):=qd (hX9A▸setRow_heap _ _ _ _ 30 (0,0) H1A.out);have m0A:=qd ((f9.block _ (qf k8) (by simp)).trans k8)
   have B9A:Hid (Bl wA X9A):=qd ((((Fr.ofBl b7 []).trans f8 (by simp)).trans f9 (by simp)).bl (by simp))
   have y0A:X9A.cell? ⟨wA.heap.size+1,0,none⟩=some (.int .i64 ca):=by (rw [qh m1A.out]; rfl)
   have y1A:X9A.cell? ⟨wA.heap.size+1,1,none⟩=some (.int .i64 aa):=by (rw [qh m1A.out]; rfl)
   have BA:=qd (B1.out.trans (HBA.out.trans B9A.out));clear b7 s7 h0 h1 f8 f9 k8 hallA hTA bA)
  | (refine wpList_store_row rfl 27 _ _ rfl wA.heap.size #[t0A,t1A,t2A,t3A,t4A,t5A] rfl rfl 27 _ H0A.out (by kernel_rfl) rfl HAllA.out ?_; rw [hX8A])
  | (refine wpList_store_row rfl 30 _ _ rfl (wA.heap.size+1) #[.int .i64 ca,.int .i64 aa] rfl rfl 30 _ H1A.out (by kernel_rfl) rfl (by kernel_rfl) ?_; rw [hX9A]))
 have hA5:Hid (∀ t,ra=some t→TsV X9A t t0A t1A t2A t3A t4A t5A):=qd (fun t ht=>by
  obtain ⟨ft,h,_⟩:=HTA.out t ht;have:=RA.out;rw [ht] at this;exact (ts_of this h).keep B9A.out)
 try simp only [Act.put]
 go_cut [51] (fun q wx=>q=.bool OUT∧Hid (Bl X9A wx))
 case first =>
  clear CA HK HE LB HTA hX7A hX8A hX9A
  by_cases hca:ca=0
  rotate_left
  ·have q:((ca:Int) != 0)=true:=by simp; omega
   have e:Hid (OUT=true):=qd (by rw [HO.out]; exact decide_eq_true (Or.inl hca))
   clear HO hca hA5 RA CX
   go_wp2_with fail
   go_meet
   case rel=>exact ⟨by rw [e.out],qd (Bl.refl _)⟩
  have q:((ca:Int) != 0)=false:=by simp; omega
  have hra:=RA.out;rw [hca] at hra;obtain ⟨ta,hta,_⟩:=reads_c0 hra;obtain ⟨pa,ka,kba,koa,ea,hc,hl,hp,hs⟩:=(hA5.out ta hta).tv.body;have hbo:bodyO ra=(trS ta).body:=by rw [hta]; rfl
  rw [hbo] at HO;have CX3:=qd (CX.out X9A BA.out);generalize barB ts cB=BR at *;generalize (trS ta).body=bd at *;subst ea;obtain ⟨g0,g1,g2,g3,g4,g5⟩:=jo m0A.out;clear g0 g1 g2 g3 g4 hra hta hbo RA CX hA5
  cases BR with
  | true =>
   have e:Hid (OUT=true):=qd (by rw [HO.out]; exact decide_eq_true (Or.inr (Or.inl rfl)))
   clear HO hca hp hs;obtain ⟨L,hL⟩:∃ L,bd.length=L:=⟨_,rfl⟩;rw [hL] at g5 m0A HAllA
   go_wp2_with (go_at_call 11; refine CX3.out.mono ?_; rintro e w5 ⟨rfl,b5⟩; have m0w:=(b5.block _ (qf m0A.out)).trans m0A.out; have g5w:w5.cell? ⟨wA.heap.size,5,none⟩=some (.slice pa L ka):=(by rw [qh m0w]; rfl); clear m0w)
   go_meet
   case rel=>exact ⟨by rw [e.out],qd b5⟩
  | false =>
   by_cases hL1:bd.length=1
   rotate_left
   ·have e:Hid (OUT=true):=qd (by rw [HO.out]; exact decide_eq_true (Or.inr (Or.inr (Or.inl hL1))))
    have q3:((bd.length:Int) != 1)=true:=by simp; omega
    clear HO hca hp hs;obtain ⟨L,hL⟩:∃ L,bd.length=L:=⟨_,rfl⟩;rw [hL] at g5 m0A HAllA q3
    go_wp2_with (go_at_call 11; refine CX3.out.mono ?_; rintro e w5 ⟨rfl,b5⟩; have m0w:=(b5.block _ (qf m0A.out)).trans m0A.out; have g5w:w5.cell? ⟨wA.heap.size,5,none⟩=some (.slice pa L ka):=(by rw [qh m0w]; rfl); clear m0w)
    go_meet
    case rel=>exact ⟨by rw [e.out],qd b5⟩
   ·have hp':=hp (by omega)
    subst hp';obtain ⟨a,sn,sp,sk,lb,x0,_,_,_,_,_,_,_⟩:=(hs.get 0 (by omega)).cells
    rw [show koa+0 * 7=koa by omega] at x0
    have LBk:=qd lb;generalize (bd.getD 0 qE).kind=k at *;rw [hL1] at g5 m0A HAllA HO;clear hs hl hp hc lb
    by_cases hk:k=13
    ·have e:Hid (OUT=true):=qd (by rw [HO.out]; exact decide_eq_true (Or.inr (Or.inr (Or.inr (Or.inl hk)))))
     have q4:(k == 13)=true:=by simp [hk]
     clear HO hca hk hL1
     go_wp2_with (go_at_call 11; refine CX3.out.mono ?_; rintro e w5 ⟨rfl,b5⟩; have m0w:=(b5.block _ (qf m0A.out)).trans m0A.out; have g5w:w5.cell? ⟨wA.heap.size,5,none⟩=some (.slice (some ⟨kba,koa,none⟩) 1 ka):=(by rw [qh m0w]; rfl); have x0w:w5.cell? ⟨kba,koa,none⟩=some (.int .i64 k):=(by rw [World.cell?_of_block (w:=X9A) (b5.block kba LBk.out)]; exact x0); clear m0w)
     go_meet
     case rel=>exact ⟨by rw [e.out],qd b5⟩
    ·have q4:(k == 13)=false:=by simp [hk]
     have hws:IntKind.i64.wrap ((s.size:Int)+20)=(s.size:Int)+20:=zP _ (by omega) (by omega)
     by_cases h4:4096 < s.size+20
     ·have h4i:(4096:Int) < (s.size:Int)+20:=by omega
      have e:Hid (OUT=true):=qd (by rw [HO.out]; exact decide_eq_true (Or.inr (Or.inr (Or.inr (Or.inr h4)))))
      clear HO hca hk hL1 h4
      go_wp2_with (go_at_call 11; refine CX3.out.mono ?_; rintro e w5 ⟨rfl,b5⟩; have m0w:=(b5.block _ (qf m0A.out)).trans m0A.out; have g5w:w5.cell? ⟨wA.heap.size,5,none⟩=some (.slice (some ⟨kba,koa,none⟩) 1 ka):=(by rw [qh m0w]; rfl); have x0w:w5.cell? ⟨kba,koa,none⟩=some (.int .i64 k):=(by rw [World.cell?_of_block (w:=X9A) (b5.block kba LBk.out)]; exact x0); clear m0w)
      go_meet
      case rel=>exact ⟨by first | (rw [e.out]; done) | (rw [e.out]; simp; omega),qd b5⟩
     ·have h4i:¬ (4096:Int) < (s.size:Int)+20:=by omega
      have e:Hid (OUT=false):=qd (by rw [HO.out]; exact decide_eq_false (by rintro (h | h | h | h | h) <;> first | exact h hca | (cases h; done) | exact h rfl | exact hk h | exact h4 h))
      clear HO hca hk hL1 h4
      go_wp2_with (go_at_call 11; refine CX3.out.mono ?_; rintro e w5 ⟨rfl,b5⟩; have m0w:=(b5.block _ (qf m0A.out)).trans m0A.out; have g5w:w5.cell? ⟨wA.heap.size,5,none⟩=some (.slice (some ⟨kba,koa,none⟩) 1 ka):=(by rw [qh m0w]; rfl); have x0w:w5.cell? ⟨kba,koa,none⟩=some (.int .i64 k):=(by rw [World.cell?_of_block (w:=X9A) (b5.block kba LBk.out)]; exact x0); clear m0w)
      go_meet
      case rel=>exact ⟨by first | (rw [e.out]; done) | (rw [e.out]; simp; omega),qd b5⟩
 case rest =>
  obtain ⟨rfl,hbc⟩:=hcut;obtain ⟨V0,hV0⟩:∃ V,V=wc:=⟨_,rfl⟩;subst hV0
  cases OUT with
  | true =>
   clear CA CX HK HE LB HTA hA5 RA HO
   go_wp2_with fail
   go_ret
   exact ⟨rfl,BA.out.trans hbc.out⟩
  | false =>
   obtain ⟨rfl,hbar,hL1,hk13,h4⟩:=outB_no HO.out.symm;obtain ⟨ta,rfl,rfl⟩:=reads_c0 RA.out;have TA:=qd ((hA5.out ta rfl).keep hbc.out);obtain ⟨rx,cx,ax,hrx⟩:=reads_total false (lst (s++⟨#[32,46,32,120]⟩));have BW0:=qd (BA.out.trans hbc.out);have HX:=qd (fun V (b:Bl w V)=>doit_v (s++⟨#[32,46,32,120]⟩) rx cx ax V (HE.out.mono b) (by rw [sz_app]; show s.size+4≤_; omega) hrx)
   have HRx:=qd hrx;have n0A:=qd ((hbc.out.block _ (qf m0A.out)).trans m0A.out);have hqx:s.size+4≤9223372036854775807:=by omega
   have hqx':¬ 9223372036854775807 < s.size+4:=by omega
   have HHb:=qd hbar;have HH1:=qd hL1;have HHk:=qd hk13;clear CA CX HK hA5 HO HTA hrx hbar hL1 hk13 hX7A hX8A hX9A y0A y1A
   go_upto_if 60 with (first
    | (
     go_at_call 10; refine (HX.out _ BW0.out).mono ?_; rintro e wX ⟨bX,t0X,t1X,t2X,t3X,t4X,t5X,rfl,hallX,hTX⟩
     have HAllX:=qd hallX;have HTX:=qd hTX;have HBX:=qd bX;obtain ⟨X7X,hX7X⟩:∃ X,(wX.alloc (.cells #[.string ⟨#[]⟩,.int .i64 0,.int .i64 0,.slice none 0 0,.slice none 0 0,.slice none 0 0] 27)).alloc (.cells #[.int .i64 0,.int .i64 0] 30)=X:=⟨_,rfl⟩;obtain ⟨b7,s7,h0,h1⟩:=two_boxes hX7X;have H0X:Hid (X7X.heap[wX.heap.size]?=some (.cells #[.string ⟨#[]⟩,.int .i64 0,.int .i64 0,.slice none 0 0,.slice none 0 0,.slice none 0 0] 27 (0,0))):=qd h0;obtain ⟨X8X,hX8X⟩:∃ X,X7X.setRow wX.heap.size #[t0X,t1X,t2X,t3X,t4X,t5X]=X:=⟨_,rfl⟩;have f8:Fr [wX.heap.size] X7X X8X:=hX8X▸qG _ _ _;have H1X:Hid (X8X.heap[wX.heap.size+1]?=some (.cells #[.int .i64 0,.int .i64 0] 30 (0,0))):=qd ((f8.block _ (qf h1) (by simp)).trans h1)
     have k8:X8X.heap[wX.heap.size]?=some (.cells #[t0X,t1X,t2X,t3X,t4X,t5X] 27 (0,0)):=hX8X▸setRow_heap _ _ _ _ 27 (0,0) H0X.out;obtain ⟨X9X,hX9X⟩:∃ X,X8X.setRow (wX.heap.size+1) #[.int .i64 cx,.int .i64 ax]=X:=⟨_,rfl⟩;have f9:Fr [wX.heap.size+1] X8X X9X:=hX9X▸qG _ _ _;have m1X:Hid (X9X.heap[wX.heap.size+1]?=some (.cells #[.int .i64 cx,.int .i64 ax] 30 (0,0))):=qd (hX9X▸setRow_heap _ _ _ _ 30 (0,0) H1X.out);have m0X:=qd ((f9.block _ (qf k8) (by simp)).trans k8)
     have B9X:Hid (Bl wX X9X):=qd ((((Fr.ofBl b7 []).trans f8 (by simp)).trans f9 (by simp)).bl (by simp))
     have y0X:X9X.cell? ⟨wX.heap.size+1,0,none⟩=some (.int .i64 cx):=by (rw [qh m1X.out]; rfl)
     have y1X:X9X.cell? ⟨wX.heap.size+1,1,none⟩=some (.int .i64 ax):=by (rw [qh m1X.out]; rfl)
     have BX9:=qd (HBX.out.trans B9X.out);clear b7 s7 h0 h1 f8 f9 k8 hallX hTX bX)
    | (refine wpList_store_row rfl 27 _ _ rfl wX.heap.size #[t0X,t1X,t2X,t3X,t4X,t5X] rfl rfl 27 _ H0X.out (by kernel_rfl) rfl HAllX.out ?_; rw [hX8X])
    | (refine wpList_store_row rfl 30 _ _ rfl (wX.heap.size+1) #[.int .i64 cx,.int .i64 ax] rfl rfl 30 _ H1X.out (by kernel_rfl) rfl (by kernel_rfl) ?_; rw [hX9X]))
   by_cases hcx:cx=0
   rotate_left
   ·have q:((cx:Int) != 0)=true:=by simp; omega
    go_wp2_with fail
    go_ret
    exact ⟨rfl,BW0.out.trans BX9.out⟩
   subst hcx;have q0:(((0:Nat):Int) != 0)=false:=rfl;obtain ⟨n,hn⟩:∃ n,ta.body=[n]:=by
    have h:=HH1.out;have h2:ta.body.length=1:=by rw [← jA]; exact h
    obtain ⟨n,hn⟩:=List.length_eq_one_iff.1 h2;exact ⟨n,hn⟩
   obtain ⟨rr,hr1,hr2,i,hi,hr3⟩:=rem_place z 6 (by omega) (by omega)
   have HB:Hid (∃ r c a,Reads false (jQ i++(lst s++(32 :: tailB i))) r c a∧(c=72∨(c=0∧∃ t m,r=some t∧t.body=[m]∧whereB i (trN m) (trN n)))):=qd (by
    obtain ⟨ts1,hl1⟩:=RA.out.lexd;obtain ⟨rfl,rfl,rfl⟩:=hl1.unique LB.out;have hbar:=of_decide_eq_false HHb.out;refine brack_pure hl1 RA.out hn ?_ (fun h=>hbar ⟨rfl,h⟩) (by have h:=HRx.out; rw [append_lst] at h; exact h) (by rw [qo]; exact h4) i hi
    have h:=HHk.out;have h3:(bodyO (some ta)).getD 0 qE=trN n:=by show (trL ta.body).getD 0 qE=_; rw [hn]; rfl
    rw [h3] at h
    cases n with
    | mk k t v p ns ps ks =>
     rw [jd] at h
     show k≠13
     intro e;exact h (by show (k:Int)=13; omega))
   obtain ⟨r',c',a',hr',hcr⟩:=HB.out;have hrb:Reads false (lst (hdA i++s++⟨#[32]⟩++tlA i)) r' c' a':=by
    have e:lst (hdA i++s++⟨#[32]⟩++tlA i)=jQ i++(lst s++(32 :: tailB i)):=by
     rw [append_lst,append_lst,append_lst];unfold hdA tlA;rw [qJ,qJ,List.append_assoc,List.append_assoc];rfl
    rw [e]; exact hr'
   have hh1:=hd_size i;have hh2:=tl_size i;have BW1:=qd (BW0.out.trans BX9.out);have HC:=qd (fun V (b:Bl w V)=>doit_v (hdA i++s++⟨#[32]⟩++tlA i) r' c' a' V (HE.out.mono b) (by rw [sz_app,sz_app,sz_app]; show (hdA i).size+s.size+1+(tlA i).size≤_; omega) hrb)
   have HRb:=qd hrb;have HCr:=qd hcr;have n0A2:=qd ((BX9.out.block _ (qf n0A.out)).trans n0A.out);have TA2:=qd (TA.out.keep BX9.out);have HN:=qd hn;clear HB hr' hrb hcr TA n0A HX HRx HHb HH1 HHk LB RA hn hX7X hX8X hX9X y1X;obtain ⟨Y1,hY1⟩:∃ X,X9X.alloc (.cells #[.string ⟨#[]⟩,.string ⟨#[]⟩,.string ⟨#[]⟩,.string ⟨#[]⟩,.string ⟨#[]⟩,.string ⟨#[]⟩] 37)=X:=⟨_,rfl⟩;have by1:Bl X9X Y1:=hY1▸Bl.alloc _ _;have K1:Hid (Y1.heap[X9X.heap.size]?=some (.cells #[.string ⟨#[]⟩,.string ⟨#[]⟩,.string ⟨#[]⟩,.string ⟨#[]⟩,.string ⟨#[]⟩,.string ⟨#[]⟩] 37 (0,0))):=qd (by rw [← hY1]; exact heap_alloc_new _ _)
   obtain ⟨Y2,hY2⟩:∃ X,Y1.setRow X9X.heap.size #[.string ⟨#[40]⟩,.string ⟨#[40]⟩,.string ⟨#[40]⟩,.string ⟨#[116,32,43,32,40]⟩,.string ⟨#[116,32,97,116,58,32,40]⟩,.string ⟨#[116,32,58,61,32,40]⟩]=X:=⟨_,rfl⟩;have f2:Fr [X9X.heap.size] Y1 Y2:=hY2▸qG _ _ _;have k2:Y2.heap[X9X.heap.size]?=some (.cells #[.string ⟨#[40]⟩,.string ⟨#[40]⟩,.string ⟨#[40]⟩,.string ⟨#[116,32,43,32,40]⟩,.string ⟨#[116,32,97,116,58,32,40]⟩,.string ⟨#[116,32,58,61,32,40]⟩] 37 (0,0)):=hY2▸setRow_heap _ _ _ _ 37 (0,0) K1.out;obtain ⟨Y3,hY3⟩:∃ X,Y2.alloc (.cells #[.string ⟨#[]⟩,.string ⟨#[]⟩,.string ⟨#[]⟩,.string ⟨#[]⟩,.string ⟨#[]⟩,.string ⟨#[]⟩] 37)=X:=⟨_,rfl⟩;have by3:Bl Y2 Y3:=hY3▸Bl.alloc _ _;have K3:Hid (Y3.heap[Y2.heap.size]?=some (.cells #[.string ⟨#[]⟩,.string ⟨#[]⟩,.string ⟨#[]⟩,.string ⟨#[]⟩,.string ⟨#[]⟩,.string ⟨#[]⟩] 37 (0,0))):=qd (by rw [← hY3]; exact heap_alloc_new _ _)
   obtain ⟨Y4,hY4⟩:∃ X,Y3.setRow Y2.heap.size #[.string ⟨#[41]⟩,.string ⟨#[41,32,102,111,111]⟩,.string ⟨#[41,32,43,32,116]⟩,.string ⟨#[41]⟩,.string ⟨#[41]⟩,.string ⟨#[41]⟩]=X:=⟨_,rfl⟩;have f4:Fr [Y2.heap.size] Y3 Y4:=hY4▸qG _ _ _;have k4:Y4.heap[Y2.heap.size]?=some (.cells #[.string ⟨#[41]⟩,.string ⟨#[41,32,102,111,111]⟩,.string ⟨#[41,32,43,32,116]⟩,.string ⟨#[41]⟩,.string ⟨#[41]⟩,.string ⟨#[41]⟩] 37 (0,0)):=hY4▸setRow_heap _ _ _ _ 37 (0,0) K3.out;have hne:X9X.heap.size < Y2.heap.size:=qf k2;have k2b:Y4.heap[X9X.heap.size]?=some (.cells #[.string ⟨#[40]⟩,.string ⟨#[40]⟩,.string ⟨#[40]⟩,.string ⟨#[116,32,43,32,40]⟩,.string ⟨#[116,32,97,116,58,32,40]⟩,.string ⟨#[116,32,58,61,32,40]⟩] 37 (0,0)):=(f4.block _ (Nat.lt_of_lt_of_le hne by3.size) (by simp; omega)).trans ((by3.block _ hne).trans k2)
   have B2:Bl X9X Y2:=((Fr.ofBl by1 []).trans f2 (by simp)).bl (by simp)
   have B4:=qd (B2.trans (((Fr.ofBl by3 []).trans f4 (by simp)).bl (by simp)))
   have K2:=qd k2b;have K4:=qd k4;clear by1 f2 k2 by3 f4 k4 hne k2b B2
   go_upto_if 66 with (first
    | (refine wpList_store_row rfl 37 _ _ rfl X9X.heap.size #[.string ⟨#[40]⟩,.string ⟨#[40]⟩,.string ⟨#[40]⟩,.string ⟨#[116,32,43,32,40]⟩,.string ⟨#[116,32,97,116,58,32,40]⟩,.string ⟨#[116,32,58,61,32,40]⟩] rfl rfl 37 _ K1.out (by kernel_rfl) rfl (by kernel_rfl) ?_; rw [hY2])
    | (refine wpList_store_row rfl 37 _ _ rfl Y2.heap.size #[.string ⟨#[41]⟩,.string ⟨#[41,32,102,111,111]⟩,.string ⟨#[41,32,43,32,116]⟩,.string ⟨#[41]⟩,.string ⟨#[41]⟩,.string ⟨#[41]⟩] rfl rfl 37 _ K3.out (by kernel_rfl) rfl (by kernel_rfl) ?_; rw [hY4]))
   have hr1':IntKind.i64.wrap (z.tmod 6)=rr:=hr1;have hr2':z.tmod 6=rr:=hr2
   try simp only [Act.put]
   go_cut [12] (fun q wx=>q=.int .i64 i∧Y4=wx)
   case first =>
    clear HC HRb HCr n0A2 TA2 HN HE
    rcases hr3 with ⟨c1,c2⟩ | ⟨c1,c2⟩
    ·have c2':IntKind.i64.wrap (rr+6)=(i:Int):=c2
     go_wp2_with fail
     all_goals first
      | (exfalso; omega)
      | (
       go_meet
       case rel=>exact ⟨rfl,rfl⟩)
    ·go_wp2_with fail
     all_goals first
      | (exfalso; omega)
      | (
       go_meet
       case rel=>exact ⟨by first | rfl | rw [c2],rfl⟩)
   case rest =>
    obtain ⟨rfl,hwc⟩:=hcut;subst hwc;have BW4:=qd (BW1.out.trans B4.out);have n0A4:=qd ((B4.out.block _ (qf n0A2.out)).trans n0A2.out);have TA4:=qd (TA2.out.keep B4.out);have HC2:=qd (fun V (b:Bl Y4 V)=>HC.out V (BW4.out.trans b))
    have HCC:Hid (∀ V,Bl Y4 V→V.cell? ⟨X9X.heap.size,i,none⟩=some (.string (hdA i))∧V.cell? ⟨Y2.heap.size,i,none⟩=some (.string (tlA i))):=qd (fun V b=>by
     have i1:=(b.block _ (qf K2.out)).trans K2.out;have i2:=(b.block _ (qf K4.out)).trans K4.out;exact ⟨by rw [qh i1]; exact hd_cell i hi,by rw [qh i2]; exact tl_cell i hi⟩)
    have HTs:Hid (∀ V t u0 u1 u2 u3 u4 u5 ft,r'=some t→SrM V t (.agg #[u0,u1,u2,u3,u4,u5]) ft→TsV V t u0 u1 u2 u3 u4 u5):=qd (fun V t u0 u1 u2 u3 u4 u5 ft ht hs=>by
     have h:=HRb.out;rw [ht] at h;exact ts_of h hs)
    clear HC K2 K4 K1 K3 hY1 hY2 hY3 hY4 n0A2 TA2 BW0 BX9 BW1 B4 HRb;generalize hdA i=hd at *;generalize tlA i=tl at *;generalize X9X.heap.size=P1 at *;generalize Y2.heap.size=P2 at *;have hii:(i:Int) < 6:=by omega
    have hp1:hd.size+s.size≤9223372036854775807:=by omega
    have hp2:hd.size+s.size+1≤9223372036854775807:=by omega
    have hp3:hd.size+s.size+1+tl.size≤9223372036854775807:=by omega
    have hp1':¬ 9223372036854775807 < hd.size+s.size:=by omega
    have hp2':¬ 9223372036854775807 < hd.size+s.size+1:=by omega
    have hp3':¬ 9223372036854775807 < hd.size+s.size+1+tl.size:=by omega
    go_upto_region 15 with fail
    try simp only [Act.put]
    go_cut [13,14] (fun v f V=>∃ A B u0 u1 u2 u3 u4 u5,v=.pointer (some ⟨A,0,none⟩)∧f=.pointer (some ⟨B,0,none⟩)∧Hid (V.heap[A]?=some (.cells #[u0,u1,u2,u3,u4,u5] 27 (0,0))∧V.heap[B]?=some (.cells #[.int .i64 c',.int .i64 a'] 30 (0,0))∧Bl Y4 V∧(#[u0,u1,u2,u3,u4,u5]:Array Value).all (·.oneCell')=true∧∀ t,r'=some t→TsV V t u0 u1 u2 u3 u4 u5))
    case first =>
     clear HCr n0A4 TA4 HN HE BW4;refine wp_region_held_drew (S:=fun V=>V.cell? ⟨P1,i,none⟩=some (.string hd)∧V.cell? ⟨P2,i,none⟩=some (.string tl)) (by kernel_rfl) (HCC.out _ (qV Y4)) (fun hHeld=>?_)
     refine tq (i:=0) ?_
     try simp only [Act.put,qq]
     refine wpAnyH_take (i:=1) (v:=.pointer (some ⟨P1,i,none⟩)) rfl (by kernel_rfl) (by kernel_rfl) (by kernel_rfl) (fun _ _ _ h=>h) (Or.inl ⟨by rfl,?_⟩) (by assumption) ?_
     ·(intro w hSw; (try dsimp only at hSw); (try go_split_ands); first | (go_simp; done) | (go_simp; with_reducible rfl) | (go_simp; try omega))
     try simp only [Act.put,qq]
     refine tq (i:=2) ?_
     try simp only [Act.put,qq]
     refine tq (i:=3) ?_
     try simp only [Act.put,qq]
     refine tq (i:=4) ?_
     try simp only [Act.put,qq]
     refine tq (i:=5) ?_
     try simp only [Act.put,qq]
     refine tq (i:=6) ?_
     try simp only [Act.put,qq]
     refine wpAnyH_take (i:=7) (v:=.pointer (some ⟨P2,i,none⟩)) rfl (by kernel_rfl) (by kernel_rfl) (by kernel_rfl) (fun _ _ _ h=>h) (Or.inl ⟨by rfl,?_⟩) (by assumption) ?_
     ·(intro w hSw; (try dsimp only at hSw); (try go_split_ands); first | (go_simp; done) | (go_simp; with_reducible rfl) | (go_simp; try omega))
     try simp only [Act.put,qq]
     refine tq (i:=8) ?_
     try simp only [Act.put,qq]
     refine tq (i:=9) ?_
     try simp only [Act.put,qq]
     have R0:Hid (R18 Y4 Y4.drew none none none r'):=qd (R18.mk0 (qV _) _);refine threeH (i:=10) (j:=14) (k:=15) (by kernel_rfl) rfl rfl rfl (fun K hK=>?_) (fun K hK=>?_) (fun K hK=>?_)
     ·refine qO (by rfl) 10 Tryz.f10 Tryz.func10 (by kernel_rfl) (by kernel_rfl) _ _ rfl _ (by first | (simp [Act.eval]; done) | (simp [Act.eval]; rfl)) _ (HC2.out _ R0.out.bl) ?_
      rintro _ V1 ⟨b5,u0,u1,u2,u3,u4,u5,rfl,hall5,hT5⟩;have R1:=qd (R0.out.call b5 hall5 hT5);clear b5 hall5 hT5;refine hK.out _ _ (HCC.out _ R1.out.bl) (fun hHeld=>?_)
      clear hK K
      try simp only [Act.put,qq]
      refine tq (i:=11) ?_
      try simp only [Act.put,qq]
      refine tq (i:=12) ?_
      try simp only [Act.put,qq]
      refine tq (i:=13) ?_
      try simp only [Act.put,qq]
      refine twoH (i:=14) (j:=15) (by kernel_rfl) rfl rfl (fun K hK=>?_) (fun K hK=>?_)
      ·have R2:=qd R1.out.allocA
       refine zQ (by rfl) (v:=.pointer (some ⟨(V1).heap.size,0,none⟩)) (w':=(V1).alloc (.cells #[.string ⟨#[]⟩,.int .i64 0,.int .i64 0,.slice none 0 0,.slice none 0 0,.slice none 0 0] 27)) (by go_simp) ?_
       obtain ⟨V2,hV2⟩:∃ X,(V1).alloc (.cells #[.string ⟨#[]⟩,.int .i64 0,.int .i64 0,.slice none 0 0,.slice none 0 0,.slice none 0 0] 27)=X:=⟨_,rfl⟩;rw [hV2] at R2 ⊢;obtain ⟨P2,hP2⟩:∃ X,(V1).heap.size=X:=⟨_,rfl⟩;rw [hP2] at R2 ⊢;clear hV2 hP2;refine hK.out _ _ (HCC.out _ R2.out.bl) (fun hHeld=>?_)
       clear hK K
       try simp only [Act.put,qq]
       refine qU (i:=15) (by kernel_rfl) rfl (fun K hK=>?_)
       have R3:=qd R2.out.allocB;refine zQ (by rfl) (v:=.pointer (some ⟨(V2).heap.size,0,none⟩)) (w':=(V2).alloc (.cells #[.int .i64 0,.int .i64 0] 30)) (by go_simp) ?_
       obtain ⟨V3,hV3⟩:∃ X,(V2).alloc (.cells #[.int .i64 0,.int .i64 0] 30)=X:=⟨_,rfl⟩;rw [hV3] at R3 ⊢;obtain ⟨P3,hP3⟩:∃ X,(V2).heap.size=X:=⟨_,rfl⟩;rw [hP3] at R3 ⊢;clear hV3 hP3;refine hK.out _ _ (HCC.out _ R3.out.bl) (fun hHeld=>?_)
       clear hK K
       try simp only [Act.put,qq]
       obtain ⟨hne,k1,k2,k3,k4,k5⟩:=R3.out.fin (v:=#[.int .i64 c',.int .i64 a']);refine qU (i:=16) (by kernel_rfl) rfl (fun K hK=>?_)
       have bsA:=((Fr.ofBl R3.out.bl []).trans (qG _ P2 #[u0,u1,u2,u3,u4,u5]) (fun b hb=>Or.inr (by simp at hb; rw [hb]; exact (R3.out.a _ rfl).1))).bl (fun b hb=>by cases hb)
       refine jn (by rfl) 27 _ _ rfl P2 #[u0,u1,u2,u3,u4,u5] rfl rfl 27 _ (R3.out.a _ rfl).2 (by kernel_rfl) rfl (R3.out.u _ rfl).1 ?_
       refine hK.out _ _ (HCC.out _ bsA) (fun hHeld=>?_)
       clear hK K
       try simp only [Act.put,qq]
       refine qU (i:=17) (by kernel_rfl) rfl (fun K hK=>?_)
       refine jn (by rfl) 30 _ _ rfl P3 #[.int .i64 c',.int .i64 a'] rfl rfl 30 _ k3 (by kernel_rfl) rfl (by kernel_rfl) ?_
       refine hK.out _ _ (HCC.out _ k4) (fun hHeld=>?_)
       clear hK K
       try simp only [Act.put,qq]
       refine wpAnyH_done (by kernel_rfl) ?_ _
       have k1_all:=(R3.out.u _ rfl).1
       go_wp2_with fail
       go_meet
       case rel=>exact ⟨_,_,_,_,_,_,_,_,rfl,rfl,qd ⟨k1,k2,k4,k1_all,fun t ht=>by obtain ⟨ft,h⟩:=k5 t ht; exact HTs.out _ _ _ _ _ _ _ _ ft ht h⟩⟩
      ·have R4:=qd R1.out.allocB
       refine zQ (by rfl) (v:=.pointer (some ⟨(V1).heap.size,0,none⟩)) (w':=(V1).alloc (.cells #[.int .i64 0,.int .i64 0] 30)) (by go_simp) ?_
       obtain ⟨V4,hV4⟩:∃ X,(V1).alloc (.cells #[.int .i64 0,.int .i64 0] 30)=X:=⟨_,rfl⟩;rw [hV4] at R4 ⊢;obtain ⟨P4,hP4⟩:∃ X,(V1).heap.size=X:=⟨_,rfl⟩;rw [hP4] at R4 ⊢;clear hV4 hP4;refine hK.out _ _ (HCC.out _ R4.out.bl) (fun hHeld=>?_)
       clear hK K
       try simp only [Act.put,qq]
       refine qU (i:=14) (by kernel_rfl) rfl (fun K hK=>?_)
       have R5:=qd R4.out.allocA;refine zQ (by rfl) (v:=.pointer (some ⟨(V4).heap.size,0,none⟩)) (w':=(V4).alloc (.cells #[.string ⟨#[]⟩,.int .i64 0,.int .i64 0,.slice none 0 0,.slice none 0 0,.slice none 0 0] 27)) (by go_simp) ?_
       obtain ⟨V5,hV5⟩:∃ X,(V4).alloc (.cells #[.string ⟨#[]⟩,.int .i64 0,.int .i64 0,.slice none 0 0,.slice none 0 0,.slice none 0 0] 27)=X:=⟨_,rfl⟩;rw [hV5] at R5 ⊢;obtain ⟨P5,hP5⟩:∃ X,(V4).heap.size=X:=⟨_,rfl⟩;rw [hP5] at R5 ⊢;clear hV5 hP5;refine hK.out _ _ (HCC.out _ R5.out.bl) (fun hHeld=>?_)
       clear hK K
       try simp only [Act.put,qq]
       obtain ⟨hne,k1,k2,k3,k4,k5⟩:=R5.out.fin (v:=#[.int .i64 c',.int .i64 a']);refine qU (i:=16) (by kernel_rfl) rfl (fun K hK=>?_)
       have bsA:=((Fr.ofBl R5.out.bl []).trans (qG _ P5 #[u0,u1,u2,u3,u4,u5]) (fun b hb=>Or.inr (by simp at hb; rw [hb]; exact (R5.out.a _ rfl).1))).bl (fun b hb=>by cases hb)
       refine jn (by rfl) 27 _ _ rfl P5 #[u0,u1,u2,u3,u4,u5] rfl rfl 27 _ (R5.out.a _ rfl).2 (by kernel_rfl) rfl (R5.out.u _ rfl).1 ?_
       refine hK.out _ _ (HCC.out _ bsA) (fun hHeld=>?_)
       clear hK K
       try simp only [Act.put,qq]
       refine qU (i:=17) (by kernel_rfl) rfl (fun K hK=>?_)
       refine jn (by rfl) 30 _ _ rfl P4 #[.int .i64 c',.int .i64 a'] rfl rfl 30 _ k3 (by kernel_rfl) rfl (by kernel_rfl) ?_
       refine hK.out _ _ (HCC.out _ k4) (fun hHeld=>?_)
       clear hK K
       try simp only [Act.put,qq]
       refine wpAnyH_done (by kernel_rfl) ?_ _
       have k1_all:=(R5.out.u _ rfl).1
       go_wp2_with fail
       go_meet
       case rel=>exact ⟨_,_,_,_,_,_,_,_,rfl,rfl,qd ⟨k1,k2,k4,k1_all,fun t ht=>by obtain ⟨ft,h⟩:=k5 t ht; exact HTs.out _ _ _ _ _ _ _ _ ft ht h⟩⟩
     ·have R6:=qd R0.out.allocA
      refine zQ (by rfl) (v:=.pointer (some ⟨(Y4.drew).heap.size,0,none⟩)) (w':=(Y4.drew).alloc (.cells #[.string ⟨#[]⟩,.int .i64 0,.int .i64 0,.slice none 0 0,.slice none 0 0,.slice none 0 0] 27)) (by go_simp) ?_
      obtain ⟨V6,hV6⟩:∃ X,(Y4.drew).alloc (.cells #[.string ⟨#[]⟩,.int .i64 0,.int .i64 0,.slice none 0 0,.slice none 0 0,.slice none 0 0] 27)=X:=⟨_,rfl⟩;rw [hV6] at R6 ⊢;obtain ⟨P6,hP6⟩:∃ X,(Y4.drew).heap.size=X:=⟨_,rfl⟩;rw [hP6] at R6 ⊢;clear hV6 hP6;refine hK.out _ _ (HCC.out _ R6.out.bl) (fun hHeld=>?_)
      clear hK K
      try simp only [Act.put,qq]
      refine twoH (i:=10) (j:=15) (by kernel_rfl) rfl rfl (fun K hK=>?_) (fun K hK=>?_)
      ·refine qO (by rfl) 10 Tryz.f10 Tryz.func10 (by kernel_rfl) (by kernel_rfl) _ _ rfl _ (by first | (simp [Act.eval]; done) | (simp [Act.eval]; rfl)) _ (HC2.out _ R6.out.bl) ?_
       rintro _ V7 ⟨b5,u0,u1,u2,u3,u4,u5,rfl,hall5,hT5⟩;have R7:=qd (R6.out.call b5 hall5 hT5);clear b5 hall5 hT5;refine hK.out _ _ (HCC.out _ R7.out.bl) (fun hHeld=>?_)
       clear hK K
       try simp only [Act.put,qq]
       refine tq (i:=11) ?_
       try simp only [Act.put,qq]
       refine tq (i:=12) ?_
       try simp only [Act.put,qq]
       refine tq (i:=13) ?_
       try simp only [Act.put,qq]
       refine qU (i:=15) (by kernel_rfl) rfl (fun K hK=>?_)
       have R8:=qd R7.out.allocB;refine zQ (by rfl) (v:=.pointer (some ⟨(V7).heap.size,0,none⟩)) (w':=(V7).alloc (.cells #[.int .i64 0,.int .i64 0] 30)) (by go_simp) ?_
       obtain ⟨V8,hV8⟩:∃ X,(V7).alloc (.cells #[.int .i64 0,.int .i64 0] 30)=X:=⟨_,rfl⟩;rw [hV8] at R8 ⊢;obtain ⟨P8,hP8⟩:∃ X,(V7).heap.size=X:=⟨_,rfl⟩;rw [hP8] at R8 ⊢;clear hV8 hP8;refine hK.out _ _ (HCC.out _ R8.out.bl) (fun hHeld=>?_)
       clear hK K
       try simp only [Act.put,qq]
       obtain ⟨hne,k1,k2,k3,k4,k5⟩:=R8.out.fin (v:=#[.int .i64 c',.int .i64 a']);refine qU (i:=16) (by kernel_rfl) rfl (fun K hK=>?_)
       have bsA:=((Fr.ofBl R8.out.bl []).trans (qG _ P6 #[u0,u1,u2,u3,u4,u5]) (fun b hb=>Or.inr (by simp at hb; rw [hb]; exact (R8.out.a _ rfl).1))).bl (fun b hb=>by cases hb)
       refine jn (by rfl) 27 _ _ rfl P6 #[u0,u1,u2,u3,u4,u5] rfl rfl 27 _ (R8.out.a _ rfl).2 (by kernel_rfl) rfl (R8.out.u _ rfl).1 ?_
       refine hK.out _ _ (HCC.out _ bsA) (fun hHeld=>?_)
       clear hK K
       try simp only [Act.put,qq]
       refine qU (i:=17) (by kernel_rfl) rfl (fun K hK=>?_)
       refine jn (by rfl) 30 _ _ rfl P8 #[.int .i64 c',.int .i64 a'] rfl rfl 30 _ k3 (by kernel_rfl) rfl (by kernel_rfl) ?_
       refine hK.out _ _ (HCC.out _ k4) (fun hHeld=>?_)
       clear hK K
       try simp only [Act.put,qq]
       refine wpAnyH_done (by kernel_rfl) ?_ _
       have k1_all:=(R8.out.u _ rfl).1
       go_wp2_with fail
       go_meet
       case rel=>exact ⟨_,_,_,_,_,_,_,_,rfl,rfl,qd ⟨k1,k2,k4,k1_all,fun t ht=>by obtain ⟨ft,h⟩:=k5 t ht; exact HTs.out _ _ _ _ _ _ _ _ ft ht h⟩⟩
      ·have R9:=qd R6.out.allocB
       refine zQ (by rfl) (v:=.pointer (some ⟨(V6).heap.size,0,none⟩)) (w':=(V6).alloc (.cells #[.int .i64 0,.int .i64 0] 30)) (by go_simp) ?_
       obtain ⟨V9,hV9⟩:∃ X,(V6).alloc (.cells #[.int .i64 0,.int .i64 0] 30)=X:=⟨_,rfl⟩;rw [hV9] at R9 ⊢;obtain ⟨P9,hP9⟩:∃ X,(V6).heap.size=X:=⟨_,rfl⟩;rw [hP9] at R9 ⊢;clear hV9 hP9;refine hK.out _ _ (HCC.out _ R9.out.bl) (fun hHeld=>?_)
       clear hK K
       try simp only [Act.put,qq]
       refine qU (i:=10) (by kernel_rfl) rfl (fun K hK=>?_)
       refine qO (by rfl) 10 Tryz.f10 Tryz.func10 (by kernel_rfl) (by kernel_rfl) _ _ rfl _ (by first | (simp [Act.eval]; done) | (simp [Act.eval]; rfl)) _ (HC2.out _ R9.out.bl) ?_
       rintro _ V10 ⟨b5,u0,u1,u2,u3,u4,u5,rfl,hall5,hT5⟩;have R10:=qd (R9.out.call b5 hall5 hT5);clear b5 hall5 hT5;refine hK.out _ _ (HCC.out _ R10.out.bl) (fun hHeld=>?_)
       clear hK K
       try simp only [Act.put,qq]
       refine tq (i:=11) ?_
       try simp only [Act.put,qq]
       refine tq (i:=12) ?_
       try simp only [Act.put,qq]
       refine tq (i:=13) ?_
       try simp only [Act.put,qq]
       obtain ⟨hne,k1,k2,k3,k4,k5⟩:=R10.out.fin (v:=#[.int .i64 c',.int .i64 a']);refine qU (i:=16) (by kernel_rfl) rfl (fun K hK=>?_)
       have bsA:=((Fr.ofBl R10.out.bl []).trans (qG _ P6 #[u0,u1,u2,u3,u4,u5]) (fun b hb=>Or.inr (by simp at hb; rw [hb]; exact (R10.out.a _ rfl).1))).bl (fun b hb=>by cases hb)
       refine jn (by rfl) 27 _ _ rfl P6 #[u0,u1,u2,u3,u4,u5] rfl rfl 27 _ (R10.out.a _ rfl).2 (by kernel_rfl) rfl (R10.out.u _ rfl).1 ?_
       refine hK.out _ _ (HCC.out _ bsA) (fun hHeld=>?_)
       clear hK K
       try simp only [Act.put,qq]
       refine qU (i:=17) (by kernel_rfl) rfl (fun K hK=>?_)
       refine jn (by rfl) 30 _ _ rfl P9 #[.int .i64 c',.int .i64 a'] rfl rfl 30 _ k3 (by kernel_rfl) rfl (by kernel_rfl) ?_
       refine hK.out _ _ (HCC.out _ k4) (fun hHeld=>?_)
       clear hK K
       try simp only [Act.put,qq]
       refine wpAnyH_done (by kernel_rfl) ?_ _
       have k1_all:=(R10.out.u _ rfl).1
       go_wp2_with fail
       go_meet
       case rel=>exact ⟨_,_,_,_,_,_,_,_,rfl,rfl,qd ⟨k1,k2,k4,k1_all,fun t ht=>by obtain ⟨ft,h⟩:=k5 t ht; exact HTs.out _ _ _ _ _ _ _ _ ft ht h⟩⟩
     ·have R11:=qd R0.out.allocB
      refine zQ (by rfl) (v:=.pointer (some ⟨(Y4.drew).heap.size,0,none⟩)) (w':=(Y4.drew).alloc (.cells #[.int .i64 0,.int .i64 0] 30)) (by go_simp) ?_
      obtain ⟨V11,hV11⟩:∃ X,(Y4.drew).alloc (.cells #[.int .i64 0,.int .i64 0] 30)=X:=⟨_,rfl⟩;rw [hV11] at R11 ⊢;obtain ⟨P11,hP11⟩:∃ X,(Y4.drew).heap.size=X:=⟨_,rfl⟩;rw [hP11] at R11 ⊢;clear hV11 hP11;refine hK.out _ _ (HCC.out _ R11.out.bl) (fun hHeld=>?_)
      clear hK K
      try simp only [Act.put,qq]
      refine twoH (i:=10) (j:=14) (by kernel_rfl) rfl rfl (fun K hK=>?_) (fun K hK=>?_)
      ·refine qO (by rfl) 10 Tryz.f10 Tryz.func10 (by kernel_rfl) (by kernel_rfl) _ _ rfl _ (by first | (simp [Act.eval]; done) | (simp [Act.eval]; rfl)) _ (HC2.out _ R11.out.bl) ?_
       rintro _ V12 ⟨b5,u0,u1,u2,u3,u4,u5,rfl,hall5,hT5⟩;have R12:=qd (R11.out.call b5 hall5 hT5);clear b5 hall5 hT5;refine hK.out _ _ (HCC.out _ R12.out.bl) (fun hHeld=>?_)
       clear hK K
       try simp only [Act.put,qq]
       refine tq (i:=11) ?_
       try simp only [Act.put,qq]
       refine tq (i:=12) ?_
       try simp only [Act.put,qq]
       refine tq (i:=13) ?_
       try simp only [Act.put,qq]
       refine qU (i:=14) (by kernel_rfl) rfl (fun K hK=>?_)
       have R13:=qd R12.out.allocA;refine zQ (by rfl) (v:=.pointer (some ⟨(V12).heap.size,0,none⟩)) (w':=(V12).alloc (.cells #[.string ⟨#[]⟩,.int .i64 0,.int .i64 0,.slice none 0 0,.slice none 0 0,.slice none 0 0] 27)) (by go_simp) ?_
       obtain ⟨V13,hV13⟩:∃ X,(V12).alloc (.cells #[.string ⟨#[]⟩,.int .i64 0,.int .i64 0,.slice none 0 0,.slice none 0 0,.slice none 0 0] 27)=X:=⟨_,rfl⟩;rw [hV13] at R13 ⊢;obtain ⟨P13,hP13⟩:∃ X,(V12).heap.size=X:=⟨_,rfl⟩;rw [hP13] at R13 ⊢;clear hV13 hP13;refine hK.out _ _ (HCC.out _ R13.out.bl) (fun hHeld=>?_)
       clear hK K
       try simp only [Act.put,qq]
       obtain ⟨hne,k1,k2,k3,k4,k5⟩:=R13.out.fin (v:=#[.int .i64 c',.int .i64 a']);refine qU (i:=16) (by kernel_rfl) rfl (fun K hK=>?_)
       have bsA:=((Fr.ofBl R13.out.bl []).trans (qG _ P13 #[u0,u1,u2,u3,u4,u5]) (fun b hb=>Or.inr (by simp at hb; rw [hb]; exact (R13.out.a _ rfl).1))).bl (fun b hb=>by cases hb)
       refine jn (by rfl) 27 _ _ rfl P13 #[u0,u1,u2,u3,u4,u5] rfl rfl 27 _ (R13.out.a _ rfl).2 (by kernel_rfl) rfl (R13.out.u _ rfl).1 ?_
       refine hK.out _ _ (HCC.out _ bsA) (fun hHeld=>?_)
       clear hK K
       try simp only [Act.put,qq]
       refine qU (i:=17) (by kernel_rfl) rfl (fun K hK=>?_)
       refine jn (by rfl) 30 _ _ rfl P11 #[.int .i64 c',.int .i64 a'] rfl rfl 30 _ k3 (by kernel_rfl) rfl (by kernel_rfl) ?_
       refine hK.out _ _ (HCC.out _ k4) (fun hHeld=>?_)
       clear hK K
       try simp only [Act.put,qq]
       refine wpAnyH_done (by kernel_rfl) ?_ _
       have k1_all:=(R13.out.u _ rfl).1
       go_wp2_with fail
       go_meet
       case rel=>exact ⟨_,_,_,_,_,_,_,_,rfl,rfl,qd ⟨k1,k2,k4,k1_all,fun t ht=>by obtain ⟨ft,h⟩:=k5 t ht; exact HTs.out _ _ _ _ _ _ _ _ ft ht h⟩⟩
      ·have R14:=qd R11.out.allocA
       refine zQ (by rfl) (v:=.pointer (some ⟨(V11).heap.size,0,none⟩)) (w':=(V11).alloc (.cells #[.string ⟨#[]⟩,.int .i64 0,.int .i64 0,.slice none 0 0,.slice none 0 0,.slice none 0 0] 27)) (by go_simp) ?_
       obtain ⟨V14,hV14⟩:∃ X,(V11).alloc (.cells #[.string ⟨#[]⟩,.int .i64 0,.int .i64 0,.slice none 0 0,.slice none 0 0,.slice none 0 0] 27)=X:=⟨_,rfl⟩;rw [hV14] at R14 ⊢;obtain ⟨P14,hP14⟩:∃ X,(V11).heap.size=X:=⟨_,rfl⟩;rw [hP14] at R14 ⊢;clear hV14 hP14;refine hK.out _ _ (HCC.out _ R14.out.bl) (fun hHeld=>?_)
       clear hK K
       try simp only [Act.put,qq]
       refine qU (i:=10) (by kernel_rfl) rfl (fun K hK=>?_)
       refine qO (by rfl) 10 Tryz.f10 Tryz.func10 (by kernel_rfl) (by kernel_rfl) _ _ rfl _ (by first | (simp [Act.eval]; done) | (simp [Act.eval]; rfl)) _ (HC2.out _ R14.out.bl) ?_
       rintro _ V15 ⟨b5,u0,u1,u2,u3,u4,u5,rfl,hall5,hT5⟩;have R15:=qd (R14.out.call b5 hall5 hT5);clear b5 hall5 hT5;refine hK.out _ _ (HCC.out _ R15.out.bl) (fun hHeld=>?_)
       clear hK K
       try simp only [Act.put,qq]
       refine tq (i:=11) ?_
       try simp only [Act.put,qq]
       refine tq (i:=12) ?_
       try simp only [Act.put,qq]
       refine tq (i:=13) ?_
       try simp only [Act.put,qq]
       obtain ⟨hne,k1,k2,k3,k4,k5⟩:=R15.out.fin (v:=#[.int .i64 c',.int .i64 a']);refine qU (i:=16) (by kernel_rfl) rfl (fun K hK=>?_)
       have bsA:=((Fr.ofBl R15.out.bl []).trans (qG _ P14 #[u0,u1,u2,u3,u4,u5]) (fun b hb=>Or.inr (by simp at hb; rw [hb]; exact (R15.out.a _ rfl).1))).bl (fun b hb=>by cases hb)
       refine jn (by rfl) 27 _ _ rfl P14 #[u0,u1,u2,u3,u4,u5] rfl rfl 27 _ (R15.out.a _ rfl).2 (by kernel_rfl) rfl (R15.out.u _ rfl).1 ?_
       refine hK.out _ _ (HCC.out _ bsA) (fun hHeld=>?_)
       clear hK K
       try simp only [Act.put,qq]
       refine qU (i:=17) (by kernel_rfl) rfl (fun K hK=>?_)
       refine jn (by rfl) 30 _ _ rfl P11 #[.int .i64 c',.int .i64 a'] rfl rfl 30 _ k3 (by kernel_rfl) rfl (by kernel_rfl) ?_
       refine hK.out _ _ (HCC.out _ k4) (fun hHeld=>?_)
       clear hK K
       try simp only [Act.put,qq]
       refine wpAnyH_done (by kernel_rfl) ?_ _
       have k1_all:=(R15.out.u _ rfl).1
       go_wp2_with fail
       go_meet
       case rel=>exact ⟨_,_,_,_,_,_,_,_,rfl,rfl,qd ⟨k1,k2,k4,k1_all,fun t ht=>by obtain ⟨ft,h⟩:=k5 t ht; exact HTs.out _ _ _ _ _ _ _ _ ft ht h⟩⟩
    case rest =>
     obtain ⟨A,B,u0,u1,u2,u3,u4,u5,rfl,rfl,hq⟩:=hcut;obtain ⟨V,hV⟩:∃ V,V=wc:=⟨_,rfl⟩;subst hV;obtain ⟨q1,q2,q3,q4,q5⟩:=hq.out;have e0:V.cell? ⟨B,0,none⟩=some (.int .i64 c'):=by rw [qh q2]; rfl
     have BV:Hid (Bl w V):=qd (BW4.out.trans q3);have n0V:=(q3.block _ (qf n0A4.out)).trans n0A4.out;have T1:=TA4.out.keep q3;have hn:=HN.out;have hcr:=HCr.out;clear HCr HN n0A4 TA4 HC2 HCC HTs hq HE hp1 hp2 hp3 hp1' hp2' hp3' hh1 hh2 hqx hqx' hr1 hr2 hr3 hr1' hr2' BW4 h4
     rcases hcr with hc | ⟨hc,t,m,ht,hm,hwh⟩
     ·subst hc
      have qa:(((72:Nat):Int) != 0)=true:=rfl;have qb:(((72:Nat):Int) == 72)=true:=rfl;clear q1 q2 q4 q5 n0V T1 hn
      go_wp2_with fail
      go_ret
      exact ⟨rfl,BV.out⟩
     ·subst hc
      have T2:=q5 t ht;obtain ⟨pc,kc,kcb,kco,ec,_,_,hcp,hcs⟩:=T2.tv.body;have hbt:(trS t).body=[trN m]:=by show trL t.body=_; rw [hm]; rfl
      rw [hbt] at ec hcp hcs;obtain rfl:=hcp (Nat.zero_lt_one);have ec':u5=.slice (some ⟨kcb,kco,none⟩) 1 kc:=ec;clear ec;subst ec';obtain ⟨m3,m4,m5,m6,ltm,y0,y1,y2,y3,y4,y5,y6,hvm⟩:=(hcs.get 0 (Nat.zero_lt_one)).cells;obtain ⟨pa,ka,kab,kao,ea,_,_,hap,has⟩:=T1.tv.body;have hba:(trS ta).body=[trN n]:=by show trL ta.body=_; rw [hn]; rfl
      rw [hba] at ea hap has;obtain rfl:=hap (Nat.zero_lt_one);have ea':t5A=.slice (some ⟨kab,kao,none⟩) 1 ka:=ea;clear ea;subst ea';obtain ⟨n3,n4,n5,n6,ltn,x0,x1,x2,x3,x4,x5,x6,hvn⟩:=(has.get 0 (Nat.zero_lt_one)).cells;rw [show kco+0 * 7=kco by omega] at y0 y1 y2 y3 y4 y5 y6
      rw [show kao+0 * 7=kao by omega] at x0 x1 x2 x3 x4 x5 x6
      rw [show ([trN m]:List Nt).getD 0 qE=trN m from rfl] at y0 y1 y2 hvm
      rw [show ([trN n]:List Nt).getD 0 qE=trN n from rfl] at x0 x1 x2 hvn
      have hallm:=qd (ndv_all hvm);have hkd:RvN V m6 (trN m).kids:=by
       obtain ⟨_,_,_,sk',ev,_,_,_,hk⟩:=hvm;have e:some m6=some sk':=congrArg (fun v:Value=>match v with | .agg a=>a[6]? | _=>none) ev
       injection e with e
       rw [e];exact hk
      obtain ⟨g0,g1,g2,g3,g4,g5⟩:=jo q1;clear g0 g1 g2 g3 g4 T1 T2 hcs has hbt hba hcp hap ht hm q5;have HVM:=qd hvm;have HVN:=qd hvn;have HKD:=qd hkd;have HWH:=qd hwh;have LM:=qd ltm;have LN:=qd ltn;have N0V:=qd n0V;clear hvm hvn hkd hwh ltm ltn n0V q1 q2 q4;obtain ⟨M,hM⟩:∃ M,M=trN m:=⟨_,rfl⟩;obtain ⟨N,hN⟩:∃ N,N=trN n:=⟨_,rfl⟩;rw [← hM] at HVM HWH HKD hallm y0 y1 y2;rw [← hN] at HVN HWH x0 x1 x2;clear hM hN hn;obtain ⟨mk,hmk⟩:∃ k,k=M.kind:=⟨_,rfl⟩;obtain ⟨mt,hmt⟩:∃ k,k=ba M.text:=⟨_,rfl⟩;obtain ⟨mu,hmu⟩:∃ k,k=M.num:=⟨_,rfl⟩;rw [← hmk,← hmt,← hmu] at hallm HVM;rw [← hmk] at y0;rw [← hmt] at y1;rw [← hmu] at y2;clear hmk hmt hmu;have qa:(((0:Nat):Int) != 0)=false:=rfl;obtain ⟨Z1,hZ1⟩:∃ X,V.alloc (.cells #[.int .i64 0,.string ⟨#[]⟩,.int .i64 0,.int .i64 0,.slice none 0 0,.slice none 0 0,.slice none 0 0] 34)=X:=⟨_,rfl⟩;have bz1:Bl V Z1:=hZ1▸Bl.alloc _ _;have J1:Hid (Z1.heap[V.heap.size]?=some (.cells #[.int .i64 0,.string ⟨#[]⟩,.int .i64 0,.int .i64 0,.slice none 0 0,.slice none 0 0,.slice none 0 0] 34 (0,0))):=qd (by rw [← hZ1]; exact heap_alloc_new _ _)
      obtain ⟨Z2,hZ2⟩:∃ X,Z1.setRow V.heap.size #[.int .i64 mk,.string mt,.int .i64 mu,m3,m4,m5,m6]=X:=⟨_,rfl⟩;have f2:Fr [V.heap.size] Z1 Z2:=hZ2▸qG _ _ _;have k2:Z2.heap[V.heap.size]?=some (.cells #[.int .i64 mk,.string mt,.int .i64 mu,m3,m4,m5,m6] 34 (0,0)):=hZ2▸setRow_heap _ _ _ _ 34 (0,0) J1.out;obtain ⟨Z3,hZ3⟩:∃ X,Z2.alloc (.cells #[.int .i64 0,.int .i64 0,.int .i64 0,.int .i64 0,.int .i64 0,.int .i64 0] 38)=X:=⟨_,rfl⟩;have bz3:Bl Z2 Z3:=hZ3▸Bl.alloc _ _;have J3:Hid (Z3.heap[Z2.heap.size]?=some (.cells #[.int .i64 0,.int .i64 0,.int .i64 0,.int .i64 0,.int .i64 0,.int .i64 0] 38 (0,0))):=qd (by rw [← hZ3]; exact heap_alloc_new _ _)
      obtain ⟨Z4,hZ4⟩:∃ X,Z3.setRow Z2.heap.size #[.int .i64 (-1),.int .i64 0,.int .i64 0,.int .i64 1,.int .i64 1,.int .i64 0]=X:=⟨_,rfl⟩;have f4:Fr [Z2.heap.size] Z3 Z4:=hZ4▸qG _ _ _;have k4:Z4.heap[Z2.heap.size]?=some (.cells #[.int .i64 (-1),.int .i64 0,.int .i64 0,.int .i64 1,.int .i64 1,.int .i64 0] 38 (0,0)):=hZ4▸setRow_heap _ _ _ _ 38 (0,0) J3.out;have hne:V.heap.size < Z2.heap.size:=qf k2;have k2b:Z4.heap[V.heap.size]?=some (.cells #[.int .i64 mk,.string mt,.int .i64 mu,m3,m4,m5,m6] 34 (0,0)):=(f4.block _ (Nat.lt_of_lt_of_le hne bz3.size) (by simp; omega)).trans ((bz3.block _ hne).trans k2)
      have C2:Bl V Z2:=((Fr.ofBl bz1 []).trans f2 (by simp)).bl (by simp)
      have C4:=qd (C2.trans (((Fr.ofBl bz3 []).trans f4 (by simp)).bl (by simp)))
      have K2:=qd k2b;have K4:=qd k4;have BZ4:=qd (BV.out.trans C4.out);have hat:Z4.cell? ⟨Z2.heap.size,i,none⟩=some (.int .i64 (atV i)):=by rw [qh k4]; exact at_cell i hi
      clear bz1 f2 k2 bz3 f4 k4 hne k2b C2
      go_upto_if 101 with (first
       | (refine wpList_store_row rfl 34 _ _ rfl V.heap.size #[.int .i64 mk,.string mt,.int .i64 mu,m3,m4,m5,m6] rfl rfl 34 _ J1.out (by kernel_rfl) rfl hallm.out ?_; rw [hZ2])
       | (refine wpList_store_row rfl 38 _ _ rfl Z2.heap.size #[.int .i64 (-1),.int .i64 0,.int .i64 0,.int .i64 1,.int .i64 1,.int .i64 0] rfl rfl 38 _ J3.out (by kernel_rfl) rfl (by kernel_rfl) ?_; rw [hZ4]))
      by_cases h0:i=0
      ·have hati:atV i=-1:=by rw [h0]; rfl
       have hv:atV i < 0:=by rw [hati]; decide
       have hvd:decide (atV i < 0)=true:=decide_eq_true hv;rw [hati] at hat;have HCall:Hid (∀ U,Bl Z4 U→Calls Tryz.prog 12 #[.agg #[.int .i64 mk,.string mt,.int .i64 mu,m3,m4,m5,m6],.agg #[.int .i64 N.kind,.string (ba N.text),.int .i64 N.num,n3,n4,n5,n6]] U fun e w'=>e=.returned (.bool true)∧Bl U w'):=qd (fun U b=>by
        have h:=like_all _ M N (Nat.le_refl _) _ _ U (HVM.out.keep (C4.out.trans b)) (HVN.out.keep (C4.out.trans b));rw [(likeB_eq M N).2 (HWH.out.1 h0)] at h;exact h)
       generalize N.kind=nk at *;generalize ba N.text=nt at *;generalize N.num=nu at *;have HCC:Hid (∀ U,Bl Z4 U→U.cell? ⟨V.heap.size,0,none⟩=some (.int .i64 mk)∧U.cell? ⟨V.heap.size,1,none⟩=some (.string mt)∧U.cell? ⟨V.heap.size,2,none⟩=some (.int .i64 mu)∧U.cell? ⟨V.heap.size,3,none⟩=some m3∧U.cell? ⟨V.heap.size,4,none⟩=some m4∧U.cell? ⟨V.heap.size,5,none⟩=some m5∧U.cell? ⟨V.heap.size,6,none⟩=some m6∧U.cell? ⟨wA.heap.size,5,none⟩=some (.slice (some ⟨kab,kao,none⟩) 1 ka)∧U.cell? ⟨kab,kao,none⟩=some (.int .i64 nk)∧U.cell? ⟨kab,kao+1,none⟩=some (.string nt)∧U.cell? ⟨kab,kao+2,none⟩=some (.int .i64 nu)∧U.cell? ⟨kab,kao+3,none⟩=some n3∧U.cell? ⟨kab,kao+4,none⟩=some n4∧U.cell? ⟨kab,kao+5,none⟩=some n5∧U.cell? ⟨kab,kao+6,none⟩=some n6):=qd (fun U b=>by
        have i1:=(b.block _ (qf K2.out)).trans K2.out;have i2:=((C4.out.trans b).block _ (qf N0V.out)).trans N0V.out;have e:∀ o,U.cell? ⟨kab,o,none⟩=V.cell? ⟨kab,o,none⟩:=fun o=>World.cell?_of_block (w:=V) ((C4.out.trans b).block kab LN.out)
        exact ⟨by rw [qh i1]; rfl,by rw [qh i1]; rfl,by rw [qh i1]; rfl,by rw [qh i1]; rfl,by rw [qh i1]; rfl,by rw [qh i1]; rfl,by rw [qh i1]; rfl,by rw [qh i2]; rfl,(e _).trans x0,(e _).trans x1,(e _).trans x2,(e _).trans x3,(e _).trans x4,(e _).trans x5,(e _).trans x6⟩)
       clear HVM HVN HKD HWH x0 x1 x2 x3 x4 x5 x6 y0 y1 y2 y3 y4 y5 y6 LM LN N0V K2 C4 hallm J1 J3 hZ1 hZ2 hZ3 hZ4 h0 hati
       go_upto_region 23 with fail
       try simp only [Act.put]
       refine wp_region_held_drew (S:=fun U=>U.cell? ⟨V.heap.size,0,none⟩=some (.int .i64 mk)∧U.cell? ⟨V.heap.size,1,none⟩=some (.string mt)∧U.cell? ⟨V.heap.size,2,none⟩=some (.int .i64 mu)∧U.cell? ⟨V.heap.size,3,none⟩=some m3∧U.cell? ⟨V.heap.size,4,none⟩=some m4∧U.cell? ⟨V.heap.size,5,none⟩=some m5∧U.cell? ⟨V.heap.size,6,none⟩=some m6∧U.cell? ⟨wA.heap.size,5,none⟩=some (.slice (some ⟨kab,kao,none⟩) 1 ka)∧U.cell? ⟨kab,kao,none⟩=some (.int .i64 nk)∧U.cell? ⟨kab,kao+1,none⟩=some (.string nt)∧U.cell? ⟨kab,kao+2,none⟩=some (.int .i64 nu)∧U.cell? ⟨kab,kao+3,none⟩=some n3∧U.cell? ⟨kab,kao+4,none⟩=some n4∧U.cell? ⟨kab,kao+5,none⟩=some n5∧U.cell? ⟨kab,kao+6,none⟩=some n6) (by kernel_rfl) (HCC.out _ (qV Z4)) (fun hHeld=>?_)
       refine tq (i:=0) ?_
       try simp only [Act.put,qq]
       refine tq (i:=1) ?_
       try simp only [Act.put,qq]
       refine tq (i:=2) ?_
       try simp only [Act.put,qq]
       refine tq (i:=3) ?_
       try simp only [Act.put,qq]
       refine tq (i:=4) ?_
       try simp only [Act.put,qq]
       refine qU (i:=5) (by kernel_rfl) rfl (fun K hK=>?_)
       refine qO (by rfl) 12 Tryz.f12 Tryz.func12 (by kernel_rfl) (by kernel_rfl) _ _ rfl _ (by first | (simp [Act.eval]; done) | (simp [Act.eval]; rfl)) _ ((HCall.out _ (qV Z4)).mono (fun e w1 h=>And.intro h.1 (qd ((qV Z4).trans h.2)))) ?_
       rintro _ w1 ⟨rfl,hg1⟩;refine hK.out _ _ (HCC.out _ hg1.out) (fun hHeld=>?_)
       clear hK K
       try simp only [Act.put,qq]
       refine tq (i:=6) ?_
       try simp only [Act.put,qq]
       refine wpAnyH_done (by kernel_rfl) ?_ _
       go_wp2_with fail
       go_ret
       exact ⟨rfl,BZ4.out.trans hg1.out⟩
      ·obtain ⟨k,hk⟩:∃ k:Nat,k=if i=3∨i=4 then 1 else 0:=⟨_,rfl⟩
       have hati:atV i=(k:Int):=by
        unfold atV;rw [if_neg h0,hk]
        split <;> rfl
       have hv:¬ atV i < 0:=by rw [hati]; omega
       have hvd:decide (atV i < 0)=false:=decide_eq_false hv;rw [hati] at hat;obtain ⟨hkl,hkn⟩:=HWH.out.2 h0;rw [← hk] at hkl hkn;obtain ⟨pk,kc2,kkb,kko,ek,hkc,hk28,hkp,hks⟩:=HKD.out;obtain rfl:=hkp (by omega)
       have NvK:=hks.get k hkl;rw [hkn] at NvK;obtain ⟨k3,k4',k5,k6,ltk,z0,z1,z2,z3,z4,z5,z6,hvk⟩:=NvK.cells;obtain ⟨L,hL⟩:∃ L,M.kids.length=L:=⟨_,rfl⟩;rw [hL] at ek hkl hk28;subst ek;have LK:=qd ltk;have HCall:Hid (∀ U,Bl Z4 U→Calls Tryz.prog 12 #[.agg #[.int .i64 N.kind,.string (ba N.text),.int .i64 N.num,k3,k4',k5,k6],.agg #[.int .i64 N.kind,.string (ba N.text),.int .i64 N.num,n3,n4,n5,n6]] U fun e w'=>e=.returned (.bool true)∧Bl U w'):=qd (fun U b=>by
        have h:=like_all _ N N (Nat.le_refl _) _ _ U (hvk.keep (C4.out.trans b)) (HVN.out.keep (C4.out.trans b));rw [(likeB_eq N N).2 rfl] at h;exact h)
       clear hvk NvK hks HVN HVM HKD HWH hkn hkp ltk;generalize N.kind=nk at *;generalize ba N.text=nt at *;generalize N.num=nu at *;have HCC:Hid (∀ U,Bl Z4 U→U.cell? ⟨V.heap.size,6,none⟩=some (.slice (some ⟨kkb,kko,none⟩) L kc2)∧U.cell? ⟨Z2.heap.size,i,none⟩=some (.int .i64 k)∧U.cell? ⟨wA.heap.size,5,none⟩=some (.slice (some ⟨kab,kao,none⟩) 1 ka)∧U.cell? ⟨kab,kao,none⟩=some (.int .i64 nk)∧U.cell? ⟨kab,kao+1,none⟩=some (.string nt)∧U.cell? ⟨kab,kao+2,none⟩=some (.int .i64 nu)∧U.cell? ⟨kab,kao+3,none⟩=some n3∧U.cell? ⟨kab,kao+4,none⟩=some n4∧U.cell? ⟨kab,kao+5,none⟩=some n5∧U.cell? ⟨kab,kao+6,none⟩=some n6∧U.cell? ⟨kkb,kko+k * 7,none⟩=some (.int .i64 nk)∧U.cell? ⟨kkb,kko+k * 7+1,none⟩=some (.string nt)∧U.cell? ⟨kkb,kko+k * 7+2,none⟩=some (.int .i64 nu)∧U.cell? ⟨kkb,kko+k * 7+3,none⟩=some k3∧U.cell? ⟨kkb,kko+k * 7+4,none⟩=some k4'∧U.cell? ⟨kkb,kko+k * 7+5,none⟩=some k5∧U.cell? ⟨kkb,kko+k * 7+6,none⟩=some k6):=qd (fun U b=>by
        have i1:=(b.block _ (qf K2.out)).trans K2.out;have i2:=((C4.out.trans b).block _ (qf N0V.out)).trans N0V.out;have i3:=(b.block _ (qf K4.out)).trans K4.out;have e:∀ o,U.cell? ⟨kab,o,none⟩=V.cell? ⟨kab,o,none⟩:=fun o=>World.cell?_of_block (w:=V) ((C4.out.trans b).block kab LN.out)
        have e':∀ o,U.cell? ⟨kkb,o,none⟩=V.cell? ⟨kkb,o,none⟩:=fun o=>World.cell?_of_block (w:=V) ((C4.out.trans b).block kkb LK.out)
        exact ⟨by rw [qh i1]; rfl,by rw [qh i3]; rw [← hati]; exact at_cell i hi,by rw [qh i2]; rfl,(e _).trans x0,(e _).trans x1,(e _).trans x2,(e _).trans x3,(e _).trans x4,(e _).trans x5,(e _).trans x6,(e' _).trans z0,(e' _).trans z1,(e' _).trans z2,(e' _).trans z3,(e' _).trans z4,(e' _).trans z5,(e' _).trans z6⟩)
       have hkL:(k:Int) < L:=by omega
       have hk0:¬ (k:Int) < 0:=by omega
       clear x0 x1 x2 x3 x4 x5 x6 y0 y1 y2 y3 y4 y5 y6 z0 z1 z2 z3 z4 z5 z6 LM LN LK N0V K2 C4 hallm J1 J3 hZ1 hZ2 hZ3 hZ4 h0 hati hk hL
       go_upto_region 24 with fail
       try simp only [Act.put]
       generalize Z2.heap.size=P4 at *;refine wp_region_held_drew (S:=fun U=>U.cell? ⟨V.heap.size,6,none⟩=some (.slice (some ⟨kkb,kko,none⟩) L kc2)∧U.cell? ⟨P4,i,none⟩=some (.int .i64 k)∧U.cell? ⟨wA.heap.size,5,none⟩=some (.slice (some ⟨kab,kao,none⟩) 1 ka)∧U.cell? ⟨kab,kao,none⟩=some (.int .i64 nk)∧U.cell? ⟨kab,kao+1,none⟩=some (.string nt)∧U.cell? ⟨kab,kao+2,none⟩=some (.int .i64 nu)∧U.cell? ⟨kab,kao+3,none⟩=some n3∧U.cell? ⟨kab,kao+4,none⟩=some n4∧U.cell? ⟨kab,kao+5,none⟩=some n5∧U.cell? ⟨kab,kao+6,none⟩=some n6∧U.cell? ⟨kkb,kko+k * 7,none⟩=some (.int .i64 nk)∧U.cell? ⟨kkb,kko+k * 7+1,none⟩=some (.string nt)∧U.cell? ⟨kkb,kko+k * 7+2,none⟩=some (.int .i64 nu)∧U.cell? ⟨kkb,kko+k * 7+3,none⟩=some k3∧U.cell? ⟨kkb,kko+k * 7+4,none⟩=some k4'∧U.cell? ⟨kkb,kko+k * 7+5,none⟩=some k5∧U.cell? ⟨kkb,kko+k * 7+6,none⟩=some k6) (by kernel_rfl) (HCC.out _ (qV Z4)) (fun hHeld=>?_)
       refine tq (i:=0) ?_
       try simp only [Act.put,qq]
       refine tq (i:=1) ?_
       try simp only [Act.put,qq]
       refine tq (i:=2) ?_
       try simp only [Act.put,qq]
       refine tq (i:=3) ?_
       try simp only [Act.put,qq]
       refine wpAnyH_take (i:=4) (v:=.pointer (some ⟨P4,i,none⟩)) rfl (by kernel_rfl) (by kernel_rfl) (by kernel_rfl) (fun _ _ _ h=>h) (Or.inl ⟨by rfl,?_⟩) (by assumption) ?_
       ·(intro w hSw; (try dsimp only at hSw); (try go_split_ands); first | (go_simp; done) | (go_simp; with_reducible rfl) | (go_simp; try omega))
       try simp only [Act.put,qq]
       refine tq (i:=5) ?_
       try simp only [Act.put,qq]
       refine tq (i:=6) ?_
       try simp only [Act.put,qq]
       refine tq (i:=7) ?_
       try simp only [Act.put,qq]
       refine tq (i:=8) ?_
       try simp only [Act.put,qq]
       refine tq (i:=9) ?_
       try simp only [Act.put,qq]
       refine tq (i:=10) ?_
       try simp only [Act.put,qq]
       refine wpAnyH_take (i:=11) (v:=.pointer (some ⟨P4,i,none⟩)) rfl (by kernel_rfl) (by kernel_rfl) (by kernel_rfl) (fun _ _ _ h=>h) (Or.inl ⟨by rfl,?_⟩) (by assumption) ?_
       ·(intro w hSw; (try dsimp only at hSw); (try go_split_ands); first | (go_simp; done) | (go_simp; with_reducible rfl) | (go_simp; try omega))
       try simp only [Act.put,qq]
       refine tq (i:=12) ?_
       try simp only [Act.put,qq]
       refine wpAnyH_take (i:=13) (v:=.pointer (some ⟨kkb,kko+k * 7,none⟩)) rfl (by kernel_rfl) (by kernel_rfl) (by kernel_rfl) (fun _ _ _ h=>h) (Or.inl ⟨by rfl,?_⟩) (by assumption) ?_
       ·(intro w hSw; (try dsimp only at hSw); (try go_split_ands); first | (go_simp; done) | (go_simp; with_reducible rfl) | (go_simp; try omega))
       try simp only [Act.put,qq]
       refine tq (i:=14) ?_
       try simp only [Act.put,qq]
       refine tq (i:=15) ?_
       try simp only [Act.put,qq]
       refine tq (i:=16) ?_
       try simp only [Act.put,qq]
       refine tq (i:=17) ?_
       try simp only [Act.put,qq]
       refine tq (i:=18) ?_
       try simp only [Act.put,qq]
       refine qU (i:=19) (by kernel_rfl) rfl (fun K hK=>?_)
       refine qO (by rfl) 12 Tryz.f12 Tryz.func12 (by kernel_rfl) (by kernel_rfl) _ _ rfl _ (by first | (simp [Act.eval]; done) | (simp [Act.eval]; rfl)) _ ((HCall.out _ (qV Z4)).mono (fun e w1 h=>And.intro h.1 (qd ((qV Z4).trans h.2)))) ?_
       rintro _ w1 ⟨rfl,hg1⟩;refine hK.out _ _ (HCC.out _ hg1.out) (fun hHeld=>?_)
       clear hK K
       try simp only [Act.put,qq]
       refine tq (i:=20) ?_
       try simp only [Act.put,qq]
       refine tq (i:=21) ?_
       try simp only [Act.put,qq]
       refine wpAnyH_done (by kernel_rfl) ?_ _
       go_wp2_with fail
       go_ret
       exact ⟨rfl,BZ4.out.trans hg1.out⟩
end Go.Proofs.YtfhkhmgodkheaaaGreatDoor
