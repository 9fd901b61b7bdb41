import Derived.Test.YtfhkhmgodkheaaaGreatDoorQBG38UBd
import Derived.Test.YtfhkhmgodkheaaaGreatDoorQBG42UJx
import Derived.Deep.DeepCutAuto
set_option linter.unusedSimpArgs false
set_option linter.unusedVariables false
set_option maxRecDepth 1000000
set_option maxHeartbeats 16000000
namespace Go.Proofs.YtfhkhmgodkheaaaGreatDoor
open Go.RowKit Go.Maps
theorem doit_v (src:ByteArray) (r:Option Src) (c a:Nat) (w:World) (hE:Env w) (hs:src.size≤140737488355328) (h:Reads false (lst src) r c a):Calls Tryz.prog 10 #[.string src] w (PostV w r c a):=reads_top false src r c a w hE hs h
theorem reads_total (m:Bool) (l:Bs):∃ r c a,Reads m l r c a:=by
 obtain ⟨ts,c,a,h,_⟩:=LexR.total l
 exact Reads.all m h
theorem reads_c0 {m:Bool} {l:Bs} {r:Option Src} {a:Nat} (h:Reads m l r 0 a):∃ t,r=some t∧a=0:=Reads.code0 h
def outJ (ca cb:Nat) (OB BB:Bool) (n:Nat):Bool:=decide (ca≠0∨cb≠0∨OB=false∨BB=true∨4096 < n)
def openO:Option Src→Bool
 | some t=>openB t
 | none=>false
theorem outJ_no {ca cb:Nat} {OB BB:Bool} {n:Nat} (h:outJ ca cb OB BB n=false):ca=0∧cb=0∧OB=true∧BB=false∧n≤4096:=by
 have h:=of_decide_eq_false h
 refine ⟨by omega,by omega,?_,?_,by omega⟩
 ·cases OB with
  | true=>rfl
  | false=>exact absurd (Or.inr (Or.inr (Or.inl rfl))) h
 ·cases BB with
  | false=>rfl
  | true=>exact absurd (Or.inr (Or.inr (Or.inr (Or.inl rfl)))) h
theorem sz_app (a b:ByteArray):(a++b).size=a.size+b.size:=ByteArray.size_append
theorem joined_any (one two:ByteArray) (w:World) (hE:Env w) (h1:one.size≤140737488355328) (h2:two.size≤140737488355328) :
  Calls Tryz.prog 6 #[.string one,.string two] w fun e w'=>e=.returned (.bool true)∧Bl w w':=by
 obtain ⟨ra,ca,aa,hra⟩:=reads_total false (lst one)
 obtain ⟨rb,cb,ab,hrb⟩:=reads_total false (lst two)
 obtain ⟨tsb,cB,aB,hlb,_⟩:=LexR.total (lst two)
 have HK:=mkHid (pknown_ok w hE)
 have CA:=mkHid (fun W (b:Bl w W)=>doit_v one ra ca aa W (hE.mono b) h1 hra)
 have CB:=mkHid (fun W (b:Bl w W)=>doit_v two rb cb ab W (hE.mono b) h2 hrb)
 have CX:=mkHid (fun W (b:Bl w W)=>barred_ok two tsb cB aB W (hE.mono b) h2 hlb)
 have HE:=mkHid hE
 have RA:=mkHid hra
 have RB':=mkHid hrb
 have LB:=mkHid hlb
 obtain ⟨OUT,hO⟩:∃ OUT,OUT=outJ ca cb (openO ra) (barB tsb cB) (one.size+two.size+20):=⟨_,rfl⟩
 have HO:=mkHid hO
 clear hO hE hra hrb hlb
 go_enter Tryz.func6,Tryz.ntmps6
 go_upto_region 6 with (first
  | (
   go_at_call 9; refine HK.out.mono ?_; rintro e w1 ⟨rfl,b1⟩
   have B1:=mkHid b1
   clear b1)
  | (
   go_at_call 10; refine (CA.out _ B1.out).mono ?_; rintro e wA ⟨bA,t0A,t1A,t2A,t3A,t4A,t5A,rfl,hallA,hTA⟩
   have HAllA:=mkHid hallA
   have HTA:=mkHid hTA
   have HBA:=mkHid bA
   obtain ⟨X7A,hX7A⟩:∃ X,(wA.alloc (.cells #[.string ⟨#[]⟩,.int .i64 0,.int .i64 0,.slice none 0 0,.slice none 0 0,.slice none 0 0] 27)).alloc (.cells #[.int .i64 0,.int .i64 0] 30)=X:=⟨_,rfl⟩
   obtain ⟨b7,s7,h0,h1⟩:=two_boxes hX7A
   have H0A:Hid (X7A.heap[wA.heap.size]?=some (.cells #[.string ⟨#[]⟩,.int .i64 0,.int .i64 0,.slice none 0 0,.slice none 0 0,.slice none 0 0] 27 (0,0))):=mkHid h0
   obtain ⟨X8A,hX8A⟩:∃ X,X7A.setRow wA.heap.size #[t0A,t1A,t2A,t3A,t4A,t5A]=X:=⟨_,rfl⟩
   have f8:Fr [wA.heap.size] X7A X8A:=hX8A▸row_fr _ _ _
   have H1A:Hid (X8A.heap[wA.heap.size+1]?=some (.cells #[.int .i64 0,.int .i64 0] 30 (0,0))):=mkHid ((f8.block _ (lt_of_heap h1) (by simp)).trans h1)
   have k8:X8A.heap[wA.heap.size]?=some (.cells #[t0A,t1A,t2A,t3A,t4A,t5A] 27 (0,0)):=hX8A▸setRow_heap _ _ _ _ 27 (0,0) H0A.out
   obtain ⟨X9A,hX9A⟩:∃ X,X8A.setRow (wA.heap.size+1) #[.int .i64 ca,.int .i64 aa]=X:=⟨_,rfl⟩
   have f9:Fr [wA.heap.size+1] X8A X9A:=hX9A▸row_fr _ _ _
   have m1A:Hid (X9A.heap[wA.heap.size+1]?=some (.cells #[.int .i64 ca,.int .i64 aa] 30 (0,0))):=mkHid (hX9A▸setRow_heap _ _ _ _ 30 (0,0) H1A.out)
   have m0A:=mkHid ((f9.block _ (lt_of_heap k8) (by simp)).trans k8)
   have B9A:Hid (Bl wA X9A):=mkHid ((((Fr.ofBl b7 []).trans f8 (by simp)).trans f9 (by simp)).bl (by simp))
   have y0A:X9A.cell? ⟨wA.heap.size+1,0,none⟩=some (.int .i64 ca):=by (rw [cell_in m1A.out]; rfl)
   have y1A:X9A.cell? ⟨wA.heap.size+1,1,none⟩=some (.int .i64 aa):=by (rw [cell_in m1A.out]; rfl)
   have BA:=mkHid (B1.out.trans (HBA.out.trans B9A.out))
   clear b7 s7 h0 h1 f8 f9 k8 hallA hTA bA)
  | (refine wpList_store_row rfl 27 _ _ rfl wA.heap.size #[t0A,t1A,t2A,t3A,t4A,t5A] rfl rfl 27 _ H0A.out (by kernel_rfl) rfl HAllA.out ?_; rw [hX8A])
  | (refine wpList_store_row rfl 30 _ _ rfl (wA.heap.size+1) #[.int .i64 ca,.int .i64 aa] rfl rfl 30 _ H1A.out (by kernel_rfl) rfl (by kernel_rfl) ?_; rw [hX9A])
  | (
   go_at_call 10; refine (CB.out _ BA.out).mono ?_; rintro e wB ⟨bB,t0B,t1B,t2B,t3B,t4B,t5B,rfl,hallB,hTB⟩
   have HAllB:=mkHid hallB
   have HTB:=mkHid hTB
   have HBB:=mkHid bB
   obtain ⟨X7B,hX7B⟩:∃ X,(wB.alloc (.cells #[.string ⟨#[]⟩,.int .i64 0,.int .i64 0,.slice none 0 0,.slice none 0 0,.slice none 0 0] 27)).alloc (.cells #[.int .i64 0,.int .i64 0] 30)=X:=⟨_,rfl⟩
   obtain ⟨b7,s7,h0,h1⟩:=two_boxes hX7B
   have H0B:Hid (X7B.heap[wB.heap.size]?=some (.cells #[.string ⟨#[]⟩,.int .i64 0,.int .i64 0,.slice none 0 0,.slice none 0 0,.slice none 0 0] 27 (0,0))):=mkHid h0
   obtain ⟨X8B,hX8B⟩:∃ X,X7B.setRow wB.heap.size #[t0B,t1B,t2B,t3B,t4B,t5B]=X:=⟨_,rfl⟩
   have f8:Fr [wB.heap.size] X7B X8B:=hX8B▸row_fr _ _ _
   have H1B:Hid (X8B.heap[wB.heap.size+1]?=some (.cells #[.int .i64 0,.int .i64 0] 30 (0,0))):=mkHid ((f8.block _ (lt_of_heap h1) (by simp)).trans h1)
   have k8:X8B.heap[wB.heap.size]?=some (.cells #[t0B,t1B,t2B,t3B,t4B,t5B] 27 (0,0)):=hX8B▸setRow_heap _ _ _ _ 27 (0,0) H0B.out
   obtain ⟨X9B,hX9B⟩:∃ X,X8B.setRow (wB.heap.size+1) #[.int .i64 cb,.int .i64 ab]=X:=⟨_,rfl⟩
   have f9:Fr [wB.heap.size+1] X8B X9B:=hX9B▸row_fr _ _ _
   have m1B:Hid (X9B.heap[wB.heap.size+1]?=some (.cells #[.int .i64 cb,.int .i64 ab] 30 (0,0))):=mkHid (hX9B▸setRow_heap _ _ _ _ 30 (0,0) H1B.out)
   have m0B:=mkHid ((f9.block _ (lt_of_heap k8) (by simp)).trans k8)
   have B9B:Hid (Bl wB X9B):=mkHid ((((Fr.ofBl b7 []).trans f8 (by simp)).trans f9 (by simp)).bl (by simp))
   have y0B:X9B.cell? ⟨wB.heap.size+1,0,none⟩=some (.int .i64 cb):=by (rw [cell_in m1B.out]; rfl)
   have y1B:X9B.cell? ⟨wB.heap.size+1,1,none⟩=some (.int .i64 ab):=by (rw [cell_in m1B.out]; rfl)
   have BAB:=mkHid (HBB.out.trans B9B.out)
   have BB:=mkHid (BA.out.trans BAB.out)
   have n0A:=mkHid ((BAB.out.block _ (lt_of_heap m0A.out)).trans m0A.out)
   have n1A:=mkHid ((BAB.out.block _ (lt_of_heap m1A.out)).trans m1A.out)
   have x0A:X9B.cell? ⟨wA.heap.size+1,0,none⟩=some (.int .i64 ca):=by (rw [cell_in n1A.out]; rfl)
   obtain ⟨g0,g1,g2,g3,g4,g5⟩:=cells6 n0A.out
   clear b7 s7 h0 h1 f8 f9 k8 hallB hTB bB)
  | (refine wpList_store_row rfl 27 _ _ rfl wB.heap.size #[t0B,t1B,t2B,t3B,t4B,t5B] rfl rfl 27 _ H0B.out (by kernel_rfl) rfl HAllB.out ?_; rw [hX8B])
  | (refine wpList_store_row rfl 30 _ _ rfl (wB.heap.size+1) #[.int .i64 cb,.int .i64 ab] rfl rfl 30 _ H1B.out (by kernel_rfl) rfl (by kernel_rfl) ?_; rw [hX9B]))
 have hA5:Hid (∀ t,ra=some t→TsV X9B t t0A t1A t2A t3A t4A t5A):=mkHid (fun t ht=>by
  obtain ⟨ft,h,_⟩:=HTA.out t ht
  have:=RA.out
  rw [ht] at this
  exact (ts_of this h).keep (B9A.out.trans BAB.out))
 have hB5:Hid (∀ t,rb=some t→TsV X9B t t0B t1B t2B t3B t4B t5B):=mkHid (fun t ht=>by
  obtain ⟨ft,h,_⟩:=HTB.out t ht
  have:=RB'.out
  rw [ht] at this
  exact (ts_of this h).keep B9B.out)
 try simp only [Act.put]
 go_cut [54] (fun q wx=>q=.bool OUT∧Hid (Bl X9B wx))
 case first =>
  clear CA CB HK HE LB HTA HTB hB5 RB' hX7A hX8A hX9A hX7B hX8B hX9B
  by_cases hca:ca=0
  rotate_left
  ·have q:((ca:Int) != 0)=true:=by simp; omega
   have e:Hid (OUT=true):=mkHid (by rw [HO.out]; exact decide_eq_true (Or.inl hca))
   clear HO hca hA5 RA CX
   go_wp2_with fail
   go_meet
   case rel=>exact ⟨by rw [e.out],mkHid (Bl.refl _)⟩
  have q:((ca:Int) != 0)=false:=by simp; omega
  by_cases hcb:cb=0
  rotate_left
  ·have q2:((cb:Int) != 0)=true:=by simp; omega
   have e:Hid (OUT=true):=mkHid (by rw [HO.out]; exact decide_eq_true (Or.inr (Or.inl hcb)))
   clear HO hca hcb hA5 RA CX
   go_wp2_with fail
   go_meet
   case rel=>exact ⟨by rw [e.out],mkHid (Bl.refl _)⟩
  have q2:((cb:Int) != 0)=false:=by simp; omega
  have hra:=RA.out
  rw [hca] at hra
  obtain ⟨ta,hta,_⟩:=reads_c0 hra
  have HOp:=mkHid (open_ok ta t0A t1A t2A t3A t4A t5A X9B HAllA.out (hA5.out ta hta))
  have hoo:openO ra=openB ta:=by rw [hta]; rfl
  rw [hoo] at HO
  have CX2:=mkHid (fun V (b:Bl X9B V)=>CX.out V (BB.out.trans b))
  generalize openB ta=OB at *
  generalize barB tsb cB=BR at *
  clear hra hta hoo hA5 RA CX
  cases OB with
  | false =>
   have e:Hid (OUT=true):=mkHid (by rw [HO.out]; exact decide_eq_true (Or.inr (Or.inr (Or.inl rfl))))
   clear HO hca hcb CX2
   go_wp2_with (go_at_call 17; refine HOp.out.mono ?_; rintro e w5 ⟨rfl,b5⟩)
   go_meet
   case rel=>exact ⟨by rw [e.out],mkHid b5⟩
  | true =>
   cases BR with
   | true =>
    have e:Hid (OUT=true):=mkHid (by rw [HO.out]; exact decide_eq_true (Or.inr (Or.inr (Or.inr (Or.inl rfl)))))
    clear HO hca hcb
    go_wp2_with (first
     | (
      go_at_call 17; refine HOp.out.mono ?_; rintro e w5 ⟨rfl,b5⟩
      have C5:=mkHid (CX2.out w5 b5))
     | (go_at_call 11; refine C5.out.mono ?_; rintro e w6 ⟨rfl,b6⟩))
    go_meet
    case rel=>exact ⟨by first | (rw [e.out]; done) | (rw [e.out]; simp; omega),mkHid (b5.trans b6)⟩
   | false =>
    have hws:IntKind.i64.wrap ((one.size:Int)+(two.size:Int))=(one.size:Int)+(two.size:Int):=wrap_id _ (by omega) (by omega)
    have hws2:IntKind.i64.wrap ((one.size:Int)+(two.size:Int)+20)=(one.size:Int)+(two.size:Int)+20:=wrap_id _ (by omega) (by omega)
    by_cases h4:4096 < one.size+two.size+20
    ·have h4i:(4096:Int) < (one.size:Int)+(two.size:Int)+20:=by omega
     have e:Hid (OUT=true):=mkHid (by rw [HO.out]; exact decide_eq_true (Or.inr (Or.inr (Or.inr (Or.inr h4)))))
     clear HO hca hcb h4
     go_wp2_with (first
      | (
       go_at_call 17; refine HOp.out.mono ?_; rintro e w5 ⟨rfl,b5⟩
       have C5:=mkHid (CX2.out w5 b5))
      | (go_at_call 11; refine C5.out.mono ?_; rintro e w6 ⟨rfl,b6⟩))
     go_meet
     case rel=>exact ⟨by first | (rw [e.out]; done) | (rw [e.out]; simp; omega),mkHid (b5.trans b6)⟩
    ·have h4i:¬ (4096:Int) < (one.size:Int)+(two.size:Int)+20:=by omega
     have e:Hid (OUT=false):=mkHid (by rw [HO.out]; exact decide_eq_false (by rintro (h | h | h | h | h) <;> first | exact h hca | exact h hcb | (cases h; done) | exact h4 h))
     clear HO hca hcb h4
     go_wp2_with (first
      | (
       go_at_call 17; refine HOp.out.mono ?_; rintro e w5 ⟨rfl,b5⟩
       have C5:=mkHid (CX2.out w5 b5))
      | (go_at_call 11; refine C5.out.mono ?_; rintro e w6 ⟨rfl,b6⟩))
     go_meet
     case rel=>exact ⟨by first | (rw [e.out]; done) | (rw [e.out]; simp; omega),mkHid (b5.trans b6)⟩
 case rest =>
  obtain ⟨rfl,hbc⟩:=hcut
  obtain ⟨V0,hV0⟩:∃ V,V=wc:=⟨_,rfl⟩
  subst hV0
  cases OUT with
  | true =>
   clear CA CB CX HK HE LB HTA HTB hA5 hB5 RB' RA HO
   go_wp2_with fail
   go_ret
   exact ⟨rfl,BB.out.trans hbc.out⟩
  | false =>
   obtain ⟨rfl,rfl,ho,hbar,h4⟩:=outJ_no HO.out.symm
   obtain ⟨ta,rfl,rfl⟩:=reads_c0 RA.out
   obtain ⟨tb,rfl,rfl⟩:=reads_c0 RB'.out
   have TA:=mkHid ((hA5.out ta rfl).keep hbc.out)
   have TB:=mkHid ((hB5.out tb rfl).keep hbc.out)
   obtain ⟨p,hp,t,hrt,hbody,hnames⟩:=joined_both RA.out RB'.out ho LB.out hbar h4
   obtain ⟨rx,cx,ax,hrx⟩:=reads_total false (lst (one++⟨#[32,46,32]⟩++⟨#[120]⟩))
   have HPX:=mkHid (hp rx cx ax hrx)
   have hms:(midJ p).size≤3:=by cases p <;> decide
   have BW0:=mkHid (BB.out.trans hbc.out)
   have HX:=mkHid (fun V (b:Bl w V)=>doit_v (one++⟨#[32,46,32]⟩++⟨#[120]⟩) rx cx ax V (HE.out.mono b) (by rw [sz_app,sz_app]; show one.size+3+1≤_; omega) hrx)
   have HG:=mkHid (fun V (b:Bl w V)=>doit_v (one++midJ p++two) (some t) 0 0 V (HE.out.mono b) (by rw [sz_app,sz_app]; omega) hrt)
   obtain ⟨sA,hA5',RvA⟩:∃ v,v=t5A∧Hid (RvN V0 v (trS ta).body):=⟨_,rfl,mkHid TA.out.tv.body⟩
   obtain ⟨sB,hB5',RvB⟩:∃ v,v=t5B∧Hid (RvN V0 v (trS tb).body):=⟨_,rfl,mkHid TB.out.tv.body⟩
   obtain ⟨na,hna⟩:∃ n,n=(trS ta).body.length:=⟨_,rfl⟩
   obtain ⟨nb,hnb⟩:∃ n,n=(trS tb).body.length:=⟨_,rfl⟩
   obtain ⟨nn,hnn⟩:∃ n,n=(trS ta).names.length:=⟨_,rfl⟩
   have hna0:0 < na:=by
    have h:=(of_decide_eq_true (show openB ta=true from ho)).1
    rw [hna]
    show 0 < (trL ta.body).length
    rw [trL_len]
    exact List.length_pos_iff.2 h
   obtain ⟨pa,ka,kba,koa,ea,_,ha3,_,_⟩:=RvA.out
   obtain ⟨pb,kb,kbb,kob,eb,_,hb3,_,_⟩:=RvB.out
   obtain ⟨qa,kna,en,_⟩:=TA.out.tv.nm
   rw [← hna] at ea ha3
   rw [← hnb] at eb hb3
   rw [← hnn] at en
   rw [hA5'] at ea RvA
   rw [hB5'] at eb RvB
   subst ea; subst eb; subst en
   have n0A2:=mkHid ((hbc.out.block _ (lt_of_heap n0A.out)).trans n0A.out)
   have n0B2:=mkHid ((hbc.out.block _ (lt_of_heap m0B.out)).trans m0B.out)
   have HRT:=mkHid hrt
   have HBody:=mkHid hbody
   have HNames:=mkHid hnames
   have HNa:=mkHid hna
   have HNb:=mkHid hnb
   have HNn:=mkHid hnn
   have hqx:one.size+3≤9223372036854775807:=by omega
   have hqy:one.size+3+1≤9223372036854775807:=by omega
   have hqz:one.size+(midJ p).size≤9223372036854775807:=by omega
   have hqw:one.size+(midJ p).size+two.size≤9223372036854775807:=by omega
   have hqx':¬ 9223372036854775807 < one.size+3:=by omega
   have hqy':¬ 9223372036854775807 < one.size+3+1:=by omega
   have hqz':¬ 9223372036854775807 < one.size+(midJ p).size:=by omega
   have hqw':¬ 9223372036854775807 < one.size+(midJ p).size+two.size:=by omega
   clear CA CB CX HK hA5 hB5 HO RA RB' LB HTA HTB hrt hbody hnames hna hnb hnn hA5' hB5' ho hbar hp hrx HE
   clear hX7A hX8A hX9A hX7B hX8B hX9B y0A y1A y0B y1B x0A g0 g1 g2 g3 g4 g5
   go_upto_if 65 with (first
    | (
     go_at_call 10; refine (HX.out _ BW0.out).mono ?_; rintro e wX ⟨bX,t0X,t1X,t2X,t3X,t4X,t5X,rfl,hallX,hTX⟩
     have HAllX:=mkHid hallX
     have HTX:=mkHid hTX
     have HBX:=mkHid bX
     obtain ⟨X7X,hX7X⟩:∃ X,(wX.alloc (.cells #[.string ⟨#[]⟩,.int .i64 0,.int .i64 0,.slice none 0 0,.slice none 0 0,.slice none 0 0] 27)).alloc (.cells #[.int .i64 0,.int .i64 0] 30)=X:=⟨_,rfl⟩
     obtain ⟨b7,s7,h0,h1⟩:=two_boxes hX7X
     have H0X:Hid (X7X.heap[wX.heap.size]?=some (.cells #[.string ⟨#[]⟩,.int .i64 0,.int .i64 0,.slice none 0 0,.slice none 0 0,.slice none 0 0] 27 (0,0))):=mkHid h0
     obtain ⟨X8X,hX8X⟩:∃ X,X7X.setRow wX.heap.size #[t0X,t1X,t2X,t3X,t4X,t5X]=X:=⟨_,rfl⟩
     have f8:Fr [wX.heap.size] X7X X8X:=hX8X▸row_fr _ _ _
     have H1X:Hid (X8X.heap[wX.heap.size+1]?=some (.cells #[.int .i64 0,.int .i64 0] 30 (0,0))):=mkHid ((f8.block _ (lt_of_heap h1) (by simp)).trans h1)
     have k8:X8X.heap[wX.heap.size]?=some (.cells #[t0X,t1X,t2X,t3X,t4X,t5X] 27 (0,0)):=hX8X▸setRow_heap _ _ _ _ 27 (0,0) H0X.out
     obtain ⟨X9X,hX9X⟩:∃ X,X8X.setRow (wX.heap.size+1) #[.int .i64 cx,.int .i64 ax]=X:=⟨_,rfl⟩
     have f9:Fr [wX.heap.size+1] X8X X9X:=hX9X▸row_fr _ _ _
     have m1X:Hid (X9X.heap[wX.heap.size+1]?=some (.cells #[.int .i64 cx,.int .i64 ax] 30 (0,0))):=mkHid (hX9X▸setRow_heap _ _ _ _ 30 (0,0) H1X.out)
     have m0X:=mkHid ((f9.block _ (lt_of_heap k8) (by simp)).trans k8)
     have B9X:Hid (Bl wX X9X):=mkHid ((((Fr.ofBl b7 []).trans f8 (by simp)).trans f9 (by simp)).bl (by simp))
     have y0X:X9X.cell? ⟨wX.heap.size+1,0,none⟩=some (.int .i64 cx):=by (rw [cell_in m1X.out]; rfl)
     have y1X:X9X.cell? ⟨wX.heap.size+1,1,none⟩=some (.int .i64 ax):=by (rw [cell_in m1X.out]; rfl)
     have BX9:=mkHid (HBX.out.trans B9X.out)
     clear b7 s7 h0 h1 f8 f9 k8 hallX hTX bX)
    | (refine wpList_store_row rfl 27 _ _ rfl wX.heap.size #[t0X,t1X,t2X,t3X,t4X,t5X] rfl rfl 27 _ H0X.out (by kernel_rfl) rfl HAllX.out ?_; rw [hX8X])
    | (refine wpList_store_row rfl 30 _ _ rfl (wX.heap.size+1) #[.int .i64 cx,.int .i64 ax] rfl rfl 30 _ H1X.out (by kernel_rfl) rfl (by kernel_rfl) ?_; rw [hX9X]))
   go_cut [10] (fun q wx=>q=.string (midJ p)∧wx=X9X)
   case first =>
    cases p with
    | false =>
     have q:((cx:Int) != 0)=false:=by have:=HPX.out.2 rfl; simp; omega
     go_wp2_with fail
     go_meet
     case rel=>exact ⟨rfl,rfl⟩
    | true =>
     have q:((cx:Int) != 0)=true:=by have:=HPX.out.1 rfl; simp; omega
     go_wp2_with fail
     go_meet
     case rel=>exact ⟨rfl,rfl⟩
   case rest =>
    obtain ⟨rfl,hwx⟩:=hcut
    subst hwx
    generalize midJ p=mid at *
    go_upto_region 14 with (first
     | (
      go_at_call 10; refine (HG.out _ (BW0.out.trans BX9.out)).mono ?_; rintro e wC ⟨bC,t0C,t1C,t2C,t3C,t4C,t5C,rfl,hallC,hTC⟩
      have HAllC:=mkHid hallC
      have HTC:=mkHid hTC
      have HBC:=mkHid bC
      obtain ⟨X7C,hX7C⟩:∃ X,(wC.alloc (.cells #[.string ⟨#[]⟩,.int .i64 0,.int .i64 0,.slice none 0 0,.slice none 0 0,.slice none 0 0] 27)).alloc (.cells #[.int .i64 0,.int .i64 0] 30)=X:=⟨_,rfl⟩
      obtain ⟨b7,s7,h0,h1⟩:=two_boxes hX7C
      have H0C:Hid (X7C.heap[wC.heap.size]?=some (.cells #[.string ⟨#[]⟩,.int .i64 0,.int .i64 0,.slice none 0 0,.slice none 0 0,.slice none 0 0] 27 (0,0))):=mkHid h0
      obtain ⟨X8C,hX8C⟩:∃ X,X7C.setRow wC.heap.size #[t0C,t1C,t2C,t3C,t4C,t5C]=X:=⟨_,rfl⟩
      have f8:Fr [wC.heap.size] X7C X8C:=hX8C▸row_fr _ _ _
      have H1C:Hid (X8C.heap[wC.heap.size+1]?=some (.cells #[.int .i64 0,.int .i64 0] 30 (0,0))):=mkHid ((f8.block _ (lt_of_heap h1) (by simp)).trans h1)
      have k8:X8C.heap[wC.heap.size]?=some (.cells #[t0C,t1C,t2C,t3C,t4C,t5C] 27 (0,0)):=hX8C▸setRow_heap _ _ _ _ 27 (0,0) H0C.out
      obtain ⟨X9C,hX9C⟩:∃ X,X8C.setRow (wC.heap.size+1) #[.int .i64 0,.int .i64 0]=X:=⟨_,rfl⟩
      have f9:Fr [wC.heap.size+1] X8C X9C:=hX9C▸row_fr _ _ _
      have m1C:Hid (X9C.heap[wC.heap.size+1]?=some (.cells #[.int .i64 0,.int .i64 0] 30 (0,0))):=mkHid (hX9C▸setRow_heap _ _ _ _ 30 (0,0) H1C.out)
      have m0C:=mkHid ((f9.block _ (lt_of_heap k8) (by simp)).trans k8)
      have B9C:Hid (Bl wC X9C):=mkHid ((((Fr.ofBl b7 []).trans f8 (by simp)).trans f9 (by simp)).bl (by simp))
      have y0C:X9C.cell? ⟨wC.heap.size+1,0,none⟩=some (.int .i64 0):=by (rw [cell_in m1C.out]; rfl)
      have y1C:X9C.cell? ⟨wC.heap.size+1,1,none⟩=some (.int .i64 0):=by (rw [cell_in m1C.out]; rfl)
      have BC9:=mkHid (BX9.out.trans (HBC.out.trans B9C.out))
      have n0A3:=mkHid ((BC9.out.block _ (lt_of_heap n0A2.out)).trans n0A2.out)
      have z5A:X9C.cell? ⟨wA.heap.size,5,none⟩=some (.slice pa na ka):=by (rw [cell_in n0A3.out]; rfl)
      clear b7 s7 h0 h1 f8 f9 k8 hallC hTC bC)
     | (refine wpList_store_row rfl 27 _ _ rfl wC.heap.size #[t0C,t1C,t2C,t3C,t4C,t5C] rfl rfl 27 _ H0C.out (by kernel_rfl) rfl HAllC.out ?_; rw [hX8C])
     | (refine wpList_store_row rfl 30 _ _ rfl (wC.heap.size+1) #[.int .i64 0,.int .i64 0] rfl rfl 30 _ H1C.out (by kernel_rfl) rfl (by kernel_rfl) ?_; rw [hX9C]))
    obtain ⟨ftC,hsC,_⟩:=HTC.out t rfl
    have TC:=mkHid ((ts_of HRT.out hsC).keep B9C.out)
    have RvC0:=TC.out.tv.body
    have RnC0:=TC.out.tv.nm
    rw [HBody.out] at RvC0
    obtain ⟨sC,hC5,RvC⟩:∃ v,v=t5C∧Hid (RvN X9C v ((trS ta).body++(trS tb).body)):=⟨_,rfl,mkHid RvC0⟩
    obtain ⟨pc,cc,kc,kco,ec,hc2,_,hc4,_⟩:=RvC0
    rw [List.length_append,← HNa.out,← HNb.out] at ec hc2 hc4
    obtain rfl:=hc4 (by omega)
    obtain ⟨qc,knc,enc,_⟩:=RnC0
    rw [HNames.out,← HNn.out] at enc
    rw [hC5,ec] at RvC
    subst hC5; subst ec; subst enc
    have n0B3:=mkHid ((BC9.out.block _ (lt_of_heap n0B2.out)).trans n0B2.out)
    have HCC:Hid (∀ V,Bl X9C V→V.cell? ⟨wC.heap.size+1,0,none⟩=some (.int .i64 0)∧V.cell? ⟨wC.heap.size,5,none⟩=some (.slice (some ⟨kc,kco,none⟩) (na+nb) cc)∧V.cell? ⟨wA.heap.size,5,none⟩=some (.slice pa na ka)∧V.cell? ⟨wB.heap.size,5,none⟩=some (.slice pb nb kb)∧V.cell? ⟨wC.heap.size,3,none⟩=some (.slice qc nn knc)∧V.cell? ⟨wA.heap.size,3,none⟩=some (.slice qa nn kna)):=mkHid (fun V b=>by
     have i1:=(b.block _ (lt_of_heap n0A3.out)).trans n0A3.out
     have i2:=(b.block _ (lt_of_heap n0B3.out)).trans n0B3.out
     have i3:=(b.block _ (lt_of_heap m0C.out)).trans m0C.out
     have i4:=(b.block _ (lt_of_heap m1C.out)).trans m1C.out
     exact ⟨by rw [cell_in i4]; rfl,by rw [cell_in i3]; rfl,by rw [cell_in i1]; rfl,by rw [cell_in i2]; rfl,by rw [cell_in i3]; rfl,by rw [cell_in i1]; rfl⟩)
    have HL1:Hid (∀ V,Bl X9C V→Calls Tryz.prog 18 #[.slice (some ⟨kc,kco,none⟩) na cc,.slice pa na ka] V fun e w'=>e=.returned (.bool true)∧Bl V w'):=mkHid (fun V b=>by
     have h1:=(RvC.out.to na (by rw [List.length_append,← HNa.out]; omega)).keep b
     rw [show ((trS ta).body++(trS tb).body).take na=(trS ta).body by rw [HNa.out,List.take_left]] at h1
     have h:=likeAll_any _ _ _ _ V h1 (RvA.out.keep (BC9.out.trans b))
     rw [(likesB_eq (trS ta).body (trS ta).body).2 rfl] at h
     exact h)
    have HL2:Hid (∀ V,Bl X9C V→Calls Tryz.prog 18 #[.slice (some ⟨kc,if na=cc then kco else kco+na * 7,none⟩) (na+nb - na) (cc - na),.slice pb nb kb] V fun e w'=>e=.returned (.bool true)∧Bl V w'):=mkHid (fun V b=>by
     have h1:=(RvC.out.from na (by rw [List.length_append,← HNa.out]; omega)).keep b
     rw [show ((trS ta).body++(trS tb).body).drop na=(trS tb).body by rw [HNa.out,List.drop_left]] at h1
     have h:=likeAll_any _ _ _ _ V h1 (RvB.out.keep (BC9.out.trans b))
     rw [(likesB_eq (trS tb).body (trS tb).body).2 rfl] at h
     exact h)
    obtain ⟨kof,hkof⟩:∃ k,k=(if na=cc then kco else kco+na * 7):=⟨_,rfl⟩
    have hs1:=slice_to kc kco (na+nb) cc na (by omega)
    have hs2:=slice_from kc kco (na+nb) cc na (by omega)
    rw [← hkof] at HL2 hs2
    have hws3:IntKind.i64.wrap ((na:Int)+(nb:Int))=(na:Int)+(nb:Int):=wrap_id _ (by omega) (by omega)
    have BWC:=mkHid (BW0.out.trans BC9.out)
    clear TC HTC HRT HBody HNames HNa HNb HNn RvA RvB RvC TA TB HX HG HPX hsC hkof hc2 hc4 n0A3 n0B3 hX7C hX8C hX9C hX7X hX8X hX9X z5A y0C y1C y0X y1X
    try simp only [Act.put]
    refine wp_region_held_drew (S:=fun V=>V.cell? ⟨wC.heap.size+1,0,none⟩=some (.int .i64 0)∧V.cell? ⟨wC.heap.size,5,none⟩=some (.slice (some ⟨kc,kco,none⟩) (na+nb) cc)∧V.cell? ⟨wA.heap.size,5,none⟩=some (.slice pa na ka)∧V.cell? ⟨wB.heap.size,5,none⟩=some (.slice pb nb kb)∧V.cell? ⟨wC.heap.size,3,none⟩=some (.slice qc nn knc)∧V.cell? ⟨wA.heap.size,3,none⟩=some (.slice qa nn kna)) (by kernel_rfl) (HCC.out _ (bl_drew X9C)) (fun hHeld=>?_)
    refine tq (i:=0) ?_
    try simp only [Act.put,qq]
    refine tq (i:=1) ?_
    try simp only [Act.put,qq]
    refine tq (i:=2) ?_
    try simp only [Act.put,qq]
    refine tq (i:=3) ?_
    try simp only [Act.put,qq]
    refine tq (i:=4) ?_
    try simp only [Act.put,qq]
    refine tq (i:=5) ?_
    try simp only [Act.put,qq]
    refine tq (i:=6) ?_
    try simp only [Act.put,qq]
    refine tq (i:=7) ?_
    try simp only [Act.put,qq]
    refine tq (i:=8) ?_
    try simp only [Act.put,qq]
    refine tq (i:=9) ?_
    try simp only [Act.put,qq]
    refine tq (i:=10) ?_
    try simp only [Act.put,qq]
    refine tq (i:=11) ?_
    try simp only [Act.put,qq]
    refine tq (i:=12) ?_
    try simp only [Act.put,qq]
    refine tq (i:=13) ?_
    try simp only [Act.put,qq]
    refine tq (i:=14) ?_
    try simp only [Act.put,qq]
    refine tq (i:=15) ?_
    try simp only [Act.put,qq]
    refine tq (i:=16) ?_
    try simp only [Act.put,qq]
    refine tq (i:=17) ?_
    try simp only [Act.put,qq]
    refine wpAnyH_take (i:=18) (v:=.slice (some ⟨kc,kco,none⟩) na cc) rfl (by kernel_rfl) (by kernel_rfl) (by kernel_rfl) (fun _ _ _ h=>h) (Or.inl ⟨by rfl,?_⟩) (by assumption) ?_
    ·(intro w hSw; (try dsimp only at hSw); (try go_split_ands); first | (go_simp; done) | (go_simp; with_reducible rfl) | (go_simp; rw [hs1]; rfl))
    try simp only [Act.put,qq]
    refine tq (i:=19) ?_
    try simp only [Act.put,qq]
    refine tq (i:=20) ?_
    try simp only [Act.put,qq]
    refine oneH (i:=21) (by kernel_rfl) rfl (fun K hK=>?_)
    refine stepE (by rfl) 18 Tryz.f18 Tryz.func18 (by kernel_rfl) (by kernel_rfl) _ _ rfl _ (by first | (simp [Act.eval]; done) | (simp [Act.eval]; rfl)) _ ((HL1.out _ (bl_drew X9C)).mono (fun e w1 h=>And.intro h.1 (mkHid ((bl_drew X9C).trans h.2)))) ?_
    rintro _ w1 ⟨rfl,hg1⟩
    refine hK.out _ _ (HCC.out _ hg1.out) (fun hHeld=>?_)
    clear hK K
    try simp only [Act.put,qq]
    refine tq (i:=22) ?_
    try simp only [Act.put,qq]
    refine tq (i:=23) ?_
    try simp only [Act.put,qq]
    refine tq (i:=24) ?_
    try simp only [Act.put,qq]
    refine tq (i:=25) ?_
    try simp only [Act.put,qq]
    refine tq (i:=26) ?_
    try simp only [Act.put,qq]
    refine tq (i:=27) ?_
    try simp only [Act.put,qq]
    refine wpAnyH_take (i:=28) (v:=.slice (some ⟨kc,kof,none⟩) (na+nb - na) (cc - na)) rfl (by kernel_rfl) (by kernel_rfl) (by kernel_rfl) (fun _ _ _ h=>h) (Or.inl ⟨by rfl,?_⟩) (by assumption) ?_
    ·(intro w hSw; (try dsimp only at hSw); (try go_split_ands); first | (go_simp; done) | (go_simp; with_reducible rfl) | (go_simp; rw [hs2]; rfl))
    try simp only [Act.put,qq]
    refine tq (i:=29) ?_
    try simp only [Act.put,qq]
    refine tq (i:=30) ?_
    try simp only [Act.put,qq]
    refine oneH (i:=31) (by kernel_rfl) rfl (fun K hK=>?_)
    refine stepE (by rfl) 18 Tryz.f18 Tryz.func18 (by kernel_rfl) (by kernel_rfl) _ _ rfl _ (by first | (simp [Act.eval]; done) | (simp [Act.eval]; rfl)) _ ((HL2.out _ hg1.out).mono (fun e w2 h=>And.intro h.1 (mkHid (hg1.out.trans h.2)))) ?_
    rintro _ w2 ⟨rfl,hg2⟩
    refine hK.out _ _ (HCC.out _ hg2.out) (fun hHeld=>?_)
    clear hK K
    try simp only [Act.put,qq]
    refine tq (i:=32) ?_
    try simp only [Act.put,qq]
    refine tq (i:=33) ?_
    try simp only [Act.put,qq]
    refine wpAnyH_done (by kernel_rfl) ?_ _
    clear hHeld
    obtain ⟨v1,v2,v3,v4,v5,v6⟩:=HCC.out _ hg2.out
    go_wp2_with fail
    go_ret
    exact ⟨by simp,BWC.out.trans hg2.out⟩
end Go.Proofs.YtfhkhmgodkheaaaGreatDoor
