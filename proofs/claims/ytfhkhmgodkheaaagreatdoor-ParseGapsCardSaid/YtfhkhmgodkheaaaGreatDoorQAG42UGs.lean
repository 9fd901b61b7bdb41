import Derived.Test.YtfhkhmgodkheaaaGreatDoorQAG40USt
import Derived.Test.YtfhkhmgodkheaaaGreatDoorQAULk
set_option linter.unusedSimpArgs false
set_option linter.unusedVariables false
set_option maxRecDepth 1000000
set_option maxHeartbeats 16000000
namespace Go.Proofs.YtfhkhmgodkheaaaGreatDoor
open Go.RowKit Go.Maps
theorem minus_eq (x:Bs):((ba x).toList == [45])=decide (x=[45]):=by
 rw [tl_lst,lst_ba,Bool.eq_iff_iff]
 simp
theorem RdT.ltU {w:World} {g n cap:Nat} {ts:List (Tok × Nat)} (h:RdT w (.slice (some ⟨g,0,none⟩) n cap) ts) (h0:0 < ts.length):g < w.heap.size:=by
 obtain ⟨p,c,e,hp⟩:=h.at_
 injection e with e1 e2 e3
 obtain ⟨b,off,e4,hb,_⟩:=hp h0
 subst e1
 injection e4 with e4
 injection e4 with e5 _
 rw [e5]
 exact hb
theorem reads_code0 {m:Bool} {l:Bs} {r:Option Src} {a:Nat} (h:Reads m l r 0 a):∃ t,r=some t∧a=0:=by
 obtain ⟨ts,c0,a0,h1,h2⟩:=h
 rcases h2 with ⟨h2,_,h3,_⟩ | ⟨_,h2⟩
 ·exact absurd h3.symm h2
 rcases readP_cases h2 with ⟨x,_,_,h3,_⟩ | ⟨t,s,_,⟨_,h3,_,h4⟩ | ⟨h3,_,h4,_⟩⟩
 ·cases h3
 ·exact ⟨t,h3,h4⟩
 ·exact absurd h4.symm h3
def minusB (ts:Ts) (k:Nat):Bool:=decide (0 < k∧(ts.getD (k - 1) noT).1.kind=3∧(ts.getD (k - 1) noT).1.text=[45])
theorem gaps_good (s:ByteArray) (m:Bool) (z:Int) (ws:ByteArray) (bk:Bool) (ts:Ts) (hl:LexR (lst s) ts 0 0) (w:World) (hE:Env w) (h1:s.size≤140737488355328) (h2:ws.size≤140737488355328) :
  Calls Tryz.prog 7 #[.string s,.bool m,.int .i64 z,.string ws,.bool bk] w fun e w'=>e=.returned (.bool true)∧Bl w w':=by
 obtain ⟨r,c,a,hr⟩:=Reads.all m hl
 have HK:=mkHid (pknown_ok w hE)
 have HA:=mkHid (fun W (b:Bl w W)=>tokens_v hl h1 W (hE.mono b).tab)
 have HM:=mkHid (fun W=>gap_ok ws bk W h2)
 have HR:=mkHid (fun W (b:Bl w W)=>lread_ok m s r c a W (hE.mono b) h1 hr)
 have HE:=mkHid hE
 have HRd:=mkHid hr
 have hok:=hl.okq.1
 have hn0:=hok.lt
 have hnl:=hok.len
 have HL:=mkHid hl
 have HPl:Hid (∀ j,j < ts.length→placeK ts j≤s.size):=mkHid (fun j hj=>by
  obtain ⟨_,h4,us,hx,e⟩:=hl.good
  subst e
  unfold placeK
  have hj':j < us.length+1:=by simpa using hj
  by_cases hju:j < us.length
  ·have:=hx.places.1 us[j] (List.getElem_mem hju)
   rw [List.getD_eq_getElem?_getD,List.getElem?_append_left hju,List.getElem?_eq_getElem hju]
   show us[j].2≤s.size
   rw [lst_len] at this
   omega
  ·rw [List.getD_eq_getElem?_getD,List.getElem?_append_right (by omega),show j - us.length=0 by omega]
   show (lst s).length≤s.size
   rw [lst_len]
   omega)
 have hs4:s.size≤4096:=by have:=hl.good.2.1; rw [lst_len] at this; exact this
 obtain ⟨n,hn⟩:∃ n,ts.length=n:=⟨_,rfl⟩
 rw [hn] at hn0 hnl
 rw [hn] at HA HPl
 have HN:=mkHid hn
 clear hn
 have hn0':0 < n:=hn0
 obtain ⟨rr,hr1,hr2,k,hkn,hr3⟩:=rem_place z n hnl hn0'
 have HR3:=mkHid hr3
 have hnz:((n:Int) == 0)=false:=by rw [beq_eq_false_iff_ne]; omega
 obtain ⟨p,hp⟩:∃ p,p=placeK ts k:=⟨_,rfl⟩
 have hpl:p≤s.size:=by rw [hp]; exact HPl.out k hkn
 have HP:=mkHid hp
 have hpi:¬ (s.size:Int) < p:=by omega
 have hpz:¬ (p:Int) < 0:=by omega
 have hkl:(k:Int) < n:=by omega
 clear hl hr hE hok hp hr3
 go_enter Tryz.func7,Tryz.ntmps7
 go_upto_if 54 with (first
  | (go_at_call 9; refine HK.out.mono ?_; rintro e w1 ⟨rfl,b1⟩)
  | (
   go_at_call 19; refine (HA.out _ b1).mono ?_; rintro e w2 ⟨pa,ka,rfl,ra,qa,na,ma,b2⟩
   obtain ⟨g,rfl⟩:=qa hn0'
   have hg:=ra.ltU (by rw [HN.out]; exact hn0')
   have hkm:ka≤9223372036854775807:=ma
   have hgw:Hid (g < w2.heap.size):=mkHid hg
   have HB2:=mkHid (b1.trans b2)
   have rA:=mkHid ra
   clear ra qa hg))
 go_cut [16] (fun q wx=>q=.int .i64 k∧wx=w2.alloc (.cells #[.int .i64 0,.int .i64 0] 30))
 case first =>
  rcases HR3.out with ⟨c1,c2⟩ | ⟨c1,c2⟩
  ·go_wp2_with fail
   all_goals first
    | (exfalso; omega)
    | (
     go_meet
     case rel=>exact ⟨rfl,rfl⟩)
  ·go_wp2_with fail
   all_goals first
    | (exfalso; omega)
    | (
     go_meet
     case rel=>exact ⟨by rw [c2],rfl⟩)
 case rest =>
  obtain ⟨rfl,hwc⟩:=hcut
  obtain ⟨WL,hWL⟩:∃ X,wc=X:=⟨_,rfl⟩
  subst hWL
  have bA:Bl w2 wc:=by rw [hwc]; exact Bl.alloc _ _
  have gL:Hid (wc.heap[w2.heap.size]?=some (.cells #[.int .i64 0,.int .i64 0] 30 (0,0))):=mkHid (by rw [hwc]; exact heap_alloc_new _ _)
  have HWL:=mkHid (HB2.out.trans bA)
  have rL:=mkHid (rA.out.keep bA)
  have hgL:=mkHid (Nat.lt_of_lt_of_le hgw.out bA.size)
  have v0:wc.cell? ⟨w2.heap.size,0,none⟩=some (.int .i64 0):=by (rw [cell_in gL.out]; rfl)
  clear hwc bA rA hgw HB2
  have x1:=(rL.out.cells k (by rw [HN.out]; exact hkn)).2.2.2
  have e0:(ts.getD k noT).2=p:=HP.out.symm
  rw [e0] at x1
  go_upto_region 12 with fail
  obtain ⟨MB,hMB⟩:∃ MB,MB=minusB ts k:=⟨_,rfl⟩
  have HMB:=mkHid hMB
  clear hMB
  go_cut [93] (fun q wx=>q=.bool MB∧wx=wc)
  case first =>
   have hkt:Hid (∀ j,j+1=k→j < ts.length):=mkHid (fun j hj=>by rw [HN.out]; omega)
   by_cases hk0:k=0
   ·subst hk0
    have e:Hid (MB=false):=mkHid (by rw [HMB.out]; exact decide_eq_false (by simp))
    clear HK HA HM HR HE HRd HL HPl rL
    go_wp2_with fail
    go_meet
    case rel=>exact ⟨by first | (rw [e.out]; done) | (rw [e.out]; rw [show decide ((p:Int) < 0)=false from decide_eq_false (by omega),show decide (s.size < p)=false from decide_eq_false (by omega)]; rfl),rfl⟩
   ·obtain ⟨j,hj⟩:∃ j,k=j+1:=⟨k - 1,by omega⟩
    have hj0:(0:Int) < k:=by omega
    have hjw:IntKind.i64.wrap ((k:Int) - 1)=(j:Int):=by rw [wrap_id _ (by omega) (by omega)]; omega
    have hjn:(j:Int) < n:=by omega
    obtain ⟨t0,t1,t2,t3⟩:=rL.out.cells j (hkt.out j hj.symm)
    have hm1:=minus_eq (ts.getD j noT).1.text
    have hM:Hid (minusB ts k=decide ((ts.getD j noT).1.kind=3∧(ts.getD j noT).1.text=[45])):=mkHid (by
     unfold minusB
     rw [show k - 1=j by omega]
     rw [Bool.eq_iff_iff]
     simp only [decide_eq_true_eq]
     constructor
     ·rintro ⟨_,h⟩; exact h
     ·intro h; exact ⟨by omega,h⟩)
    generalize (ts.getD j noT).1.kind=kd at *
    generalize (ts.getD j noT).1.text=tx at *
    have hj':=mkHid hj
    clear HK HA HM HR HE HRd HL HPl rL hj hk0 t2 t3 hkt
    by_cases h3:kd=3
    ·have h3':((kd:Int) == 3)=true:=by simp; omega
     by_cases h45:tx=[45]
     ·rw [decide_eq_true h45] at hm1
      have e:Hid (MB=true):=mkHid (by rw [HMB.out,hM.out]; exact decide_eq_true ⟨h3,h45⟩)
      clear hM h45 h3
      go_wp2_with fail
      go_meet
      case rel=>exact ⟨by first | (rw [e.out]; done) | (rw [e.out]; rw [show decide ((p:Int) < 0)=false from decide_eq_false (by omega),show decide (s.size < p)=false from decide_eq_false (by omega)]; rfl),rfl⟩
     ·rw [decide_eq_false h45] at hm1
      have e:Hid (MB=false):=mkHid (by rw [HMB.out,hM.out]; exact decide_eq_false (fun h=>h45 h.2))
      clear hM h45 h3
      go_wp2_with fail
      go_meet
      case rel=>exact ⟨by first | (rw [e.out]; done) | (rw [e.out]; rw [show decide ((p:Int) < 0)=false from decide_eq_false (by omega),show decide (s.size < p)=false from decide_eq_false (by omega)]; rfl),rfl⟩
    ·have h3':((kd:Int) == 3)=false:=by simp; omega
     have e:Hid (MB=false):=mkHid (by rw [HMB.out,hM.out]; exact decide_eq_false (fun h=>h3 h.1))
     clear hM h3
     go_wp2_with fail
     go_meet
     case rel=>exact ⟨by first | (rw [e.out]; done) | (rw [e.out]; rw [show decide ((p:Int) < 0)=false from decide_eq_false (by omega),show decide (s.size < p)=false from decide_eq_false (by omega)]; rfl),rfl⟩
  case rest =>
   obtain ⟨rfl,hwc⟩:=hcut
   subst hwc
   cases MB with
   | true =>
    have hp0:(0:Int)≤p:=by omega
    have hp1:(p:Int)≤s.size:=by omega
    clear HK HA HM HR HE HRd HL HPl rL
    go_wp2_with fail
    go_ret
    exact ⟨rfl,HWL.out⟩
   | false =>
    have hmin:Hid (∀ j,j+1=k→¬((ts.getD j noTk).1.kind=3∧(ts.getD j noTk).1.text=[45])):=mkHid (fun j hj h=>by
     have:=HMB.out
     unfold minusB at this
     rw [show k - 1=j by omega] at this
     exact of_decide_eq_false this.symm ⟨by omega,h⟩)
    clear HMB HK HA rL hr1 hr2 hnz HR3 hn0
    go_upto_region 18 with (first
     | (
      go_at_call 20; refine (HM.out _).mono ?_; rintro e w3 ⟨gg,rfl,hgap,hgs,b3⟩
      have HGap:=mkHid hgap; clear hgap
      obtain ⟨d,hd'⟩:∃ d,gg.size=d:=⟨_,rfl⟩
      have hd1:gg.size≤140737488355400:=hgs
      rw [hd'] at hgs
      have hwd:IntKind.i64.wrap ((s.size:Int)+(gg.size:Int))=(s.size:Int)+(d:Int):=by rw [hd']; exact wrap_id _ (by omega) (by omega)
      have HD:=mkHid hd'
      have B3:=mkHid (HWL.out.trans b3)
      clear hd' b3)
     | (
      go_at_call 13; refine (HR.out _ B3.out).mono ?_; rintro e wR ⟨bR,t0R,t1R,t2R,t3R,t4R,t5R,rfl,hallR,hTR⟩
      have HAllR:=mkHid hallR
      have HTR:=mkHid hTR
      have HBR:=mkHid bR
      obtain ⟨X7R,hX7R⟩:∃ X,(wR.alloc (.cells #[.string ⟨#[]⟩,.int .i64 0,.int .i64 0,.slice none 0 0,.slice none 0 0,.slice none 0 0] 27)).alloc (.cells #[.int .i64 0,.int .i64 0] 30)=X:=⟨_,rfl⟩
      obtain ⟨b7,s7,h0,h1⟩:=two_boxes hX7R
      have H0R:Hid (X7R.heap[wR.heap.size]?=some (.cells #[.string ⟨#[]⟩,.int .i64 0,.int .i64 0,.slice none 0 0,.slice none 0 0,.slice none 0 0] 27 (0,0))):=mkHid h0
      obtain ⟨X8R,hX8R⟩:∃ X,X7R.setRow wR.heap.size #[t0R,t1R,t2R,t3R,t4R,t5R]=X:=⟨_,rfl⟩
      have f8:Fr [wR.heap.size] X7R X8R:=hX8R▸row_fr _ _ _
      have H1R:Hid (X8R.heap[wR.heap.size+1]?=some (.cells #[.int .i64 0,.int .i64 0] 30 (0,0))):=mkHid ((f8.block _ (lt_of_heap h1) (by simp)).trans h1)
      have k8:X8R.heap[wR.heap.size]?=some (.cells #[t0R,t1R,t2R,t3R,t4R,t5R] 27 (0,0)):=hX8R▸setRow_heap _ _ _ _ 27 (0,0) H0R.out
      obtain ⟨X9R,hX9R⟩:∃ X,X8R.setRow (wR.heap.size+1) #[.int .i64 c,.int .i64 a]=X:=⟨_,rfl⟩
      have f9:Fr [wR.heap.size+1] X8R X9R:=hX9R▸row_fr _ _ _
      have m1R:Hid (X9R.heap[wR.heap.size+1]?=some (.cells #[.int .i64 c,.int .i64 a] 30 (0,0))):=mkHid (hX9R▸setRow_heap _ _ _ _ 30 (0,0) H1R.out)
      have m0R:=mkHid ((f9.block _ (lt_of_heap k8) (by simp)).trans k8)
      have B9R:Hid (Bl wR X9R):=mkHid ((((Fr.ofBl b7 []).trans f8 (by simp)).trans f9 (by simp)).bl (by simp))
      have y0R:X9R.cell? ⟨wR.heap.size+1,0,none⟩=some (.int .i64 c):=by (rw [cell_in m1R.out]; rfl)
      have y1R:X9R.cell? ⟨wR.heap.size+1,1,none⟩=some (.int .i64 a):=by (rw [cell_in m1R.out]; rfl)
      clear b7 s7 h0 h1 f8 f9 k8 hallR hTR bR)
     | (refine wpList_store_row rfl 27 _ _ rfl wR.heap.size #[t0R,t1R,t2R,t3R,t4R,t5R] rfl rfl 27 _ H0R.out (by kernel_rfl) rfl HAllR.out ?_; rw [hX8R])
     | (refine wpList_store_row rfl 30 _ _ rfl (wR.heap.size+1) #[.int .i64 c,.int .i64 a] rfl rfl 30 _ H1R.out (by kernel_rfl) rfl (by kernel_rfl) ?_; rw [hX9R]))
    ·go_ret
     exact ⟨rfl,B3.out⟩
    ·have hsm':(s.size:Int)+d≤4096:=by assumption
     have hsm:s.size+d≤4096:=by omega
     have hgap2:=Reads.gap HL.out HGap.out (k:=k) (by rw [HN.out]; exact hkn) hmin.out (by rw [lst_len,lst_len,HD.out]; exact hsm) HRd.out
     rw [← HP.out,lst_len,HD.out] at hgap2
     have e1:lst (s.extract 0 p++gg++s.extract p s.size)=(lst s).take p++(lst gg++(lst s).drop p):=by
      rw [append_lst,append_lst,lst_mid,lst_from,List.append_assoc]
      rfl
     have e2:(s.extract 0 p++gg++s.extract p s.size).size=s.size+d:=by
      rw [← lst_len,e1,List.length_append,List.length_append,List.length_take,List.length_drop,lst_len,lst_len,HD.out]
      omega
     rw [← e1] at hgap2
     obtain ⟨r',hr'⟩:∃ r',r'=r.map (mvS (upP p d) m):=⟨_,rfl⟩
     obtain ⟨a',ha'⟩:∃ a',a'=if c=0 then 0 else upP p d a:=⟨_,rfl⟩
     rw [← hr',← ha'] at hgap2
     have HRr:=mkHid hr'
     have HAa:=mkHid ha'
     have BX:Hid (Bl w X9R):=mkHid (B3.out.trans (HBR.out.trans B9R.out))
     have hxs:(s.extract p s.size).size=s.size - p:=size_from s p
     have hxp:(s.extract 0 p).size=p:=by rw [← lst_len,lst_mid,List.length_take,List.length_drop,lst_len]; omega
     have hxm:(s.extract 0 p++gg).size=p+d:=by rw [ByteArray.size_append,hxp,HD.out]
     have HC:Hid (∀ V,Bl X9R V→Calls Tryz.prog 13 #[.string (s.extract 0 p++gg++s.extract p s.size),.bool m] V (PostV V r' c a')):=mkHid fun V hV=>lread_ok m _ r' c a' V (HE.out.mono (BX.out.trans hV)) (by rw [e2]; omega) hgap2
     have HTs:Hid (∀ V t u0 u1 u2 u3 u4 u5 ft,r'=some t→SrM V t (.agg #[u0,u1,u2,u3,u4,u5]) ft→TsV V t u0 u1 u2 u3 u4 u5):=mkHid (fun V t u0 u1 u2 u3 u4 u5 ft ht hs=>by
      rw [ht] at hgap2
      exact ts_of hgap2 hs)
     have HTr:Hid (∀ t,r=some t→TsV wR t t0R t1R t2R t3R t4R t5R):=mkHid (fun t ht=>by
      obtain ⟨ft,h,_⟩:=HTR.out t ht
      have hrd:=HRd.out
      rw [ht] at hrd
      exact ts_of hrd h)
     have hal:=HRd.out.place ⟨_,HL.out⟩
     have HR0:Hid (c=0→∃ t,r=some t∧a=0):=mkHid (fun h=>by
      have hrd:=HRd.out
      rw [h] at hrd
      obtain ⟨t,e1,e2⟩:=reads_code0 hrd
      exact ⟨t,e1,e2⟩)
     have hs1:∀ W,(Instr.slice 9 (.string s) none (some (.int .i64 (p:Int))) none).run Tryz.prog W=.ok (.string (s.extract 0 p)) W:=fun W=>by
      rw [run_slice_string_to_if W 9 s .i64 (p:Int) Tryz.underlying9,if_pos ⟨by omega,by omega⟩]
      rfl
     have hs2:∀ W,(Instr.slice 9 (.string s) (some (.int .i64 (p:Int))) none none).run Tryz.prog W=.ok (.string (s.extract p s.size)) W:=fun W=>by
      rw [run_slice_string_from_if W 9 s .i64 (p:Int) Tryz.underlying9,if_pos ⟨by omega,by omega⟩]
      rfl
     have d1:decide ((p:Int) < 0)=false:=decide_eq_false (by omega)
     have d3:decide ((s.size:Int) < (p:Int))=false:=decide_eq_false (by omega)
     have d5:decide (s.size < p)=false:=decide_eq_false (by omega)
     have hq1:(s.extract 0 p).size+gg.size≤9223372036854775807:=by rw [hxp,HD.out]; omega
     have hq2:(s.extract 0 p++gg).size+(s.extract p s.size).size≤9223372036854775807:=by rw [hxm,hxs]; omega
     have hq3:¬ 9223372036854775807 < p+gg.size:=by omega
     have hq4:¬ 9223372036854775807 < p+gg.size+(s.size - p):=by omega
     clear hgap2 e1 hr' ha' hxs hxp hxm e2 HM HR HL HRd hmin HPl
     try simp only [Act.put]
     go_cut [21,22] (fun v f V=>∃ A B u0 u1 u2 u3 u4 u5,v=.pointer (some ⟨A,0,none⟩)∧f=.pointer (some ⟨B,0,none⟩)∧Hid (V.heap[A]?=some (.cells #[u0,u1,u2,u3,u4,u5] 27 (0,0))∧V.heap[B]?=some (.cells #[.int .i64 c,.int .i64 a'] 30 (0,0))∧Bl X9R V∧(#[u0,u1,u2,u3,u4,u5]:Array Value).all (·.oneCell')=true∧∀ t,r'=some t→TsV V t u0 u1 u2 u3 u4 u5))
     case first =>
      refine wp_region_held_drew (S:=fun _=>True) (by kernel_rfl) trivial (fun hHeld=>?_)
      refine tq (i:=0) ?_
      try simp only [Act.put,qq]
      refine tq (i:=1) ?_
      try simp only [Act.put,qq]
      refine wpAnyH_take (i:=2) (v:=.string (s.extract 0 p)) rfl (by kernel_rfl) (by kernel_rfl) (by kernel_rfl) (fun _ _ _ h=>h) (Or.inl ⟨by rfl,?_⟩) (by assumption) ?_
      ·(intro w hSw; first | (go_simp; done) | (go_simp; with_reducible rfl) | (go_simp; rw [hs1]; rfl))
      try simp only [Act.put,qq]
      refine tq (i:=3) ?_
      try simp only [Act.put,qq]
      refine tq (i:=4) ?_
      try simp only [Act.put,qq]
      refine tq (i:=5) ?_
      try simp only [Act.put,qq]
      refine tq (i:=6) ?_
      try simp only [Act.put,qq]
      refine wpAnyH_take (i:=7) (v:=.string (s.extract p s.size)) rfl (by kernel_rfl) (by kernel_rfl) (by kernel_rfl) (fun _ _ _ h=>h) (Or.inl ⟨by rfl,?_⟩) (by assumption) ?_
      ·(intro w hSw; first | (go_simp; done) | (go_simp; with_reducible rfl) | (go_simp; rw [hs2]; rfl))
      try simp only [Act.put,qq]
      refine tq (i:=8) ?_
      try simp only [Act.put,qq]
      refine tq (i:=9) ?_
      try simp only [Act.put,qq]
      have R0:Hid (R18 X9R X9R.drew none none none r'):=mkHid (R18.mk0 (bl_drew _) _)
      refine threeH (i:=10) (j:=14) (k:=15) (by kernel_rfl) rfl rfl rfl (fun K hK=>?_) (fun K hK=>?_) (fun K hK=>?_)
      ·refine stepE (by rfl) 13 Tryz.f13 Tryz.func13 (by kernel_rfl) (by kernel_rfl) _ _ rfl _ (by first | (simp [Act.eval]; done) | (simp [Act.eval]; rfl)) _ (HC.out _ R0.out.bl) ?_
       rintro _ V1 ⟨b5,u0,u1,u2,u3,u4,u5,rfl,hall5,hT5⟩
       have R1:=mkHid (R0.out.call b5 hall5 hT5)
       clear b5 hall5 hT5
       refine hK.out _ _ trivial (fun hHeld=>?_)
       clear hK K
       try simp only [Act.put,qq]
       refine tq (i:=11) ?_
       try simp only [Act.put,qq]
       refine tq (i:=12) ?_
       try simp only [Act.put,qq]
       refine tq (i:=13) ?_
       try simp only [Act.put,qq]
       refine twoH (i:=14) (j:=15) (by kernel_rfl) rfl rfl (fun K hK=>?_) (fun K hK=>?_)
       ·have R2:=mkHid R1.out.allocA
        refine stepB2 (by rfl) (v:=.pointer (some ⟨(V1).heap.size,0,none⟩)) (w':=(V1).alloc (.cells #[.string ⟨#[]⟩,.int .i64 0,.int .i64 0,.slice none 0 0,.slice none 0 0,.slice none 0 0] 27)) (by go_simp) ?_
        obtain ⟨V2,hV2⟩:∃ X,(V1).alloc (.cells #[.string ⟨#[]⟩,.int .i64 0,.int .i64 0,.slice none 0 0,.slice none 0 0,.slice none 0 0] 27)=X:=⟨_,rfl⟩
        rw [hV2] at R2 ⊢
        obtain ⟨P2,hP2⟩:∃ X,(V1).heap.size=X:=⟨_,rfl⟩
        rw [hP2] at R2 ⊢
        clear hV2 hP2
        refine hK.out _ _ trivial (fun hHeld=>?_)
        clear hK K
        try simp only [Act.put,qq]
        refine oneH (i:=15) (by kernel_rfl) rfl (fun K hK=>?_)
        have R3:=mkHid R2.out.allocB
        refine stepB2 (by rfl) (v:=.pointer (some ⟨(V2).heap.size,0,none⟩)) (w':=(V2).alloc (.cells #[.int .i64 0,.int .i64 0] 30)) (by go_simp) ?_
        obtain ⟨V3,hV3⟩:∃ X,(V2).alloc (.cells #[.int .i64 0,.int .i64 0] 30)=X:=⟨_,rfl⟩
        rw [hV3] at R3 ⊢
        obtain ⟨P3,hP3⟩:∃ X,(V2).heap.size=X:=⟨_,rfl⟩
        rw [hP3] at R3 ⊢
        clear hV3 hP3
        refine hK.out _ _ trivial (fun hHeld=>?_)
        clear hK K
        try simp only [Act.put,qq]
        obtain ⟨hne,k1,k2,k3,k4,k5⟩:=R3.out.fin (v:=#[.int .i64 c,.int .i64 a'])
        refine oneH (i:=16) (by kernel_rfl) rfl (fun K hK=>?_)
        refine stepR (by rfl) 27 _ _ rfl P2 #[u0,u1,u2,u3,u4,u5] rfl rfl 27 _ (R3.out.a _ rfl).2 (by kernel_rfl) rfl (R3.out.u _ rfl).1 ?_
        refine hK.out _ _ trivial (fun hHeld=>?_)
        clear hK K
        try simp only [Act.put,qq]
        refine oneH (i:=17) (by kernel_rfl) rfl (fun K hK=>?_)
        refine stepR (by rfl) 30 _ _ rfl P3 #[.int .i64 c,.int .i64 a'] rfl rfl 30 _ k3 (by kernel_rfl) rfl (by kernel_rfl) ?_
        refine hK.out _ _ trivial (fun hHeld=>?_)
        clear hK K
        try simp only [Act.put,qq]
        refine wpAnyH_done (by kernel_rfl) ?_ _
        have k1_all:=(R3.out.u _ rfl).1
        go_wp2_with fail
        go_meet
        case rel=>exact ⟨_,_,_,_,_,_,_,_,rfl,rfl,mkHid ⟨k1,k2,k4,k1_all,fun t ht=>by obtain ⟨ft,h⟩:=k5 t ht; exact HTs.out _ _ _ _ _ _ _ _ ft ht h⟩⟩
       ·have R4:=mkHid R1.out.allocB
        refine stepB2 (by rfl) (v:=.pointer (some ⟨(V1).heap.size,0,none⟩)) (w':=(V1).alloc (.cells #[.int .i64 0,.int .i64 0] 30)) (by go_simp) ?_
        obtain ⟨V4,hV4⟩:∃ X,(V1).alloc (.cells #[.int .i64 0,.int .i64 0] 30)=X:=⟨_,rfl⟩
        rw [hV4] at R4 ⊢
        obtain ⟨P4,hP4⟩:∃ X,(V1).heap.size=X:=⟨_,rfl⟩
        rw [hP4] at R4 ⊢
        clear hV4 hP4
        refine hK.out _ _ trivial (fun hHeld=>?_)
        clear hK K
        try simp only [Act.put,qq]
        refine oneH (i:=14) (by kernel_rfl) rfl (fun K hK=>?_)
        have R5:=mkHid R4.out.allocA
        refine stepB2 (by rfl) (v:=.pointer (some ⟨(V4).heap.size,0,none⟩)) (w':=(V4).alloc (.cells #[.string ⟨#[]⟩,.int .i64 0,.int .i64 0,.slice none 0 0,.slice none 0 0,.slice none 0 0] 27)) (by go_simp) ?_
        obtain ⟨V5,hV5⟩:∃ X,(V4).alloc (.cells #[.string ⟨#[]⟩,.int .i64 0,.int .i64 0,.slice none 0 0,.slice none 0 0,.slice none 0 0] 27)=X:=⟨_,rfl⟩
        rw [hV5] at R5 ⊢
        obtain ⟨P5,hP5⟩:∃ X,(V4).heap.size=X:=⟨_,rfl⟩
        rw [hP5] at R5 ⊢
        clear hV5 hP5
        refine hK.out _ _ trivial (fun hHeld=>?_)
        clear hK K
        try simp only [Act.put,qq]
        obtain ⟨hne,k1,k2,k3,k4,k5⟩:=R5.out.fin (v:=#[.int .i64 c,.int .i64 a'])
        refine oneH (i:=16) (by kernel_rfl) rfl (fun K hK=>?_)
        refine stepR (by rfl) 27 _ _ rfl P5 #[u0,u1,u2,u3,u4,u5] rfl rfl 27 _ (R5.out.a _ rfl).2 (by kernel_rfl) rfl (R5.out.u _ rfl).1 ?_
        refine hK.out _ _ trivial (fun hHeld=>?_)
        clear hK K
        try simp only [Act.put,qq]
        refine oneH (i:=17) (by kernel_rfl) rfl (fun K hK=>?_)
        refine stepR (by rfl) 30 _ _ rfl P4 #[.int .i64 c,.int .i64 a'] rfl rfl 30 _ k3 (by kernel_rfl) rfl (by kernel_rfl) ?_
        refine hK.out _ _ trivial (fun hHeld=>?_)
        clear hK K
        try simp only [Act.put,qq]
        refine wpAnyH_done (by kernel_rfl) ?_ _
        have k1_all:=(R5.out.u _ rfl).1
        go_wp2_with fail
        go_meet
        case rel=>exact ⟨_,_,_,_,_,_,_,_,rfl,rfl,mkHid ⟨k1,k2,k4,k1_all,fun t ht=>by obtain ⟨ft,h⟩:=k5 t ht; exact HTs.out _ _ _ _ _ _ _ _ ft ht h⟩⟩
      ·have R6:=mkHid R0.out.allocA
       refine stepB2 (by rfl) (v:=.pointer (some ⟨(X9R.drew).heap.size,0,none⟩)) (w':=(X9R.drew).alloc (.cells #[.string ⟨#[]⟩,.int .i64 0,.int .i64 0,.slice none 0 0,.slice none 0 0,.slice none 0 0] 27)) (by go_simp) ?_
       obtain ⟨V6,hV6⟩:∃ X,(X9R.drew).alloc (.cells #[.string ⟨#[]⟩,.int .i64 0,.int .i64 0,.slice none 0 0,.slice none 0 0,.slice none 0 0] 27)=X:=⟨_,rfl⟩
       rw [hV6] at R6 ⊢
       obtain ⟨P6,hP6⟩:∃ X,(X9R.drew).heap.size=X:=⟨_,rfl⟩
       rw [hP6] at R6 ⊢
       clear hV6 hP6
       refine hK.out _ _ trivial (fun hHeld=>?_)
       clear hK K
       try simp only [Act.put,qq]
       refine twoH (i:=10) (j:=15) (by kernel_rfl) rfl rfl (fun K hK=>?_) (fun K hK=>?_)
       ·refine stepE (by rfl) 13 Tryz.f13 Tryz.func13 (by kernel_rfl) (by kernel_rfl) _ _ rfl _ (by first | (simp [Act.eval]; done) | (simp [Act.eval]; rfl)) _ (HC.out _ R6.out.bl) ?_
        rintro _ V7 ⟨b5,u0,u1,u2,u3,u4,u5,rfl,hall5,hT5⟩
        have R7:=mkHid (R6.out.call b5 hall5 hT5)
        clear b5 hall5 hT5
        refine hK.out _ _ trivial (fun hHeld=>?_)
        clear hK K
        try simp only [Act.put,qq]
        refine tq (i:=11) ?_
        try simp only [Act.put,qq]
        refine tq (i:=12) ?_
        try simp only [Act.put,qq]
        refine tq (i:=13) ?_
        try simp only [Act.put,qq]
        refine oneH (i:=15) (by kernel_rfl) rfl (fun K hK=>?_)
        have R8:=mkHid R7.out.allocB
        refine stepB2 (by rfl) (v:=.pointer (some ⟨(V7).heap.size,0,none⟩)) (w':=(V7).alloc (.cells #[.int .i64 0,.int .i64 0] 30)) (by go_simp) ?_
        obtain ⟨V8,hV8⟩:∃ X,(V7).alloc (.cells #[.int .i64 0,.int .i64 0] 30)=X:=⟨_,rfl⟩
        rw [hV8] at R8 ⊢
        obtain ⟨P8,hP8⟩:∃ X,(V7).heap.size=X:=⟨_,rfl⟩
        rw [hP8] at R8 ⊢
        clear hV8 hP8
        refine hK.out _ _ trivial (fun hHeld=>?_)
        clear hK K
        try simp only [Act.put,qq]
        obtain ⟨hne,k1,k2,k3,k4,k5⟩:=R8.out.fin (v:=#[.int .i64 c,.int .i64 a'])
        refine oneH (i:=16) (by kernel_rfl) rfl (fun K hK=>?_)
        refine stepR (by rfl) 27 _ _ rfl P6 #[u0,u1,u2,u3,u4,u5] rfl rfl 27 _ (R8.out.a _ rfl).2 (by kernel_rfl) rfl (R8.out.u _ rfl).1 ?_
        refine hK.out _ _ trivial (fun hHeld=>?_)
        clear hK K
        try simp only [Act.put,qq]
        refine oneH (i:=17) (by kernel_rfl) rfl (fun K hK=>?_)
        refine stepR (by rfl) 30 _ _ rfl P8 #[.int .i64 c,.int .i64 a'] rfl rfl 30 _ k3 (by kernel_rfl) rfl (by kernel_rfl) ?_
        refine hK.out _ _ trivial (fun hHeld=>?_)
        clear hK K
        try simp only [Act.put,qq]
        refine wpAnyH_done (by kernel_rfl) ?_ _
        have k1_all:=(R8.out.u _ rfl).1
        go_wp2_with fail
        go_meet
        case rel=>exact ⟨_,_,_,_,_,_,_,_,rfl,rfl,mkHid ⟨k1,k2,k4,k1_all,fun t ht=>by obtain ⟨ft,h⟩:=k5 t ht; exact HTs.out _ _ _ _ _ _ _ _ ft ht h⟩⟩
       ·have R9:=mkHid R6.out.allocB
        refine stepB2 (by rfl) (v:=.pointer (some ⟨(V6).heap.size,0,none⟩)) (w':=(V6).alloc (.cells #[.int .i64 0,.int .i64 0] 30)) (by go_simp) ?_
        obtain ⟨V9,hV9⟩:∃ X,(V6).alloc (.cells #[.int .i64 0,.int .i64 0] 30)=X:=⟨_,rfl⟩
        rw [hV9] at R9 ⊢
        obtain ⟨P9,hP9⟩:∃ X,(V6).heap.size=X:=⟨_,rfl⟩
        rw [hP9] at R9 ⊢
        clear hV9 hP9
        refine hK.out _ _ trivial (fun hHeld=>?_)
        clear hK K
        try simp only [Act.put,qq]
        refine oneH (i:=10) (by kernel_rfl) rfl (fun K hK=>?_)
        refine stepE (by rfl) 13 Tryz.f13 Tryz.func13 (by kernel_rfl) (by kernel_rfl) _ _ rfl _ (by first | (simp [Act.eval]; done) | (simp [Act.eval]; rfl)) _ (HC.out _ R9.out.bl) ?_
        rintro _ V10 ⟨b5,u0,u1,u2,u3,u4,u5,rfl,hall5,hT5⟩
        have R10:=mkHid (R9.out.call b5 hall5 hT5)
        clear b5 hall5 hT5
        refine hK.out _ _ trivial (fun hHeld=>?_)
        clear hK K
        try simp only [Act.put,qq]
        refine tq (i:=11) ?_
        try simp only [Act.put,qq]
        refine tq (i:=12) ?_
        try simp only [Act.put,qq]
        refine tq (i:=13) ?_
        try simp only [Act.put,qq]
        obtain ⟨hne,k1,k2,k3,k4,k5⟩:=R10.out.fin (v:=#[.int .i64 c,.int .i64 a'])
        refine oneH (i:=16) (by kernel_rfl) rfl (fun K hK=>?_)
        refine stepR (by rfl) 27 _ _ rfl P6 #[u0,u1,u2,u3,u4,u5] rfl rfl 27 _ (R10.out.a _ rfl).2 (by kernel_rfl) rfl (R10.out.u _ rfl).1 ?_
        refine hK.out _ _ trivial (fun hHeld=>?_)
        clear hK K
        try simp only [Act.put,qq]
        refine oneH (i:=17) (by kernel_rfl) rfl (fun K hK=>?_)
        refine stepR (by rfl) 30 _ _ rfl P9 #[.int .i64 c,.int .i64 a'] rfl rfl 30 _ k3 (by kernel_rfl) rfl (by kernel_rfl) ?_
        refine hK.out _ _ trivial (fun hHeld=>?_)
        clear hK K
        try simp only [Act.put,qq]
        refine wpAnyH_done (by kernel_rfl) ?_ _
        have k1_all:=(R10.out.u _ rfl).1
        go_wp2_with fail
        go_meet
        case rel=>exact ⟨_,_,_,_,_,_,_,_,rfl,rfl,mkHid ⟨k1,k2,k4,k1_all,fun t ht=>by obtain ⟨ft,h⟩:=k5 t ht; exact HTs.out _ _ _ _ _ _ _ _ ft ht h⟩⟩
      ·have R11:=mkHid R0.out.allocB
       refine stepB2 (by rfl) (v:=.pointer (some ⟨(X9R.drew).heap.size,0,none⟩)) (w':=(X9R.drew).alloc (.cells #[.int .i64 0,.int .i64 0] 30)) (by go_simp) ?_
       obtain ⟨V11,hV11⟩:∃ X,(X9R.drew).alloc (.cells #[.int .i64 0,.int .i64 0] 30)=X:=⟨_,rfl⟩
       rw [hV11] at R11 ⊢
       obtain ⟨P11,hP11⟩:∃ X,(X9R.drew).heap.size=X:=⟨_,rfl⟩
       rw [hP11] at R11 ⊢
       clear hV11 hP11
       refine hK.out _ _ trivial (fun hHeld=>?_)
       clear hK K
       try simp only [Act.put,qq]
       refine twoH (i:=10) (j:=14) (by kernel_rfl) rfl rfl (fun K hK=>?_) (fun K hK=>?_)
       ·refine stepE (by rfl) 13 Tryz.f13 Tryz.func13 (by kernel_rfl) (by kernel_rfl) _ _ rfl _ (by first | (simp [Act.eval]; done) | (simp [Act.eval]; rfl)) _ (HC.out _ R11.out.bl) ?_
        rintro _ V12 ⟨b5,u0,u1,u2,u3,u4,u5,rfl,hall5,hT5⟩
        have R12:=mkHid (R11.out.call b5 hall5 hT5)
        clear b5 hall5 hT5
        refine hK.out _ _ trivial (fun hHeld=>?_)
        clear hK K
        try simp only [Act.put,qq]
        refine tq (i:=11) ?_
        try simp only [Act.put,qq]
        refine tq (i:=12) ?_
        try simp only [Act.put,qq]
        refine tq (i:=13) ?_
        try simp only [Act.put,qq]
        refine oneH (i:=14) (by kernel_rfl) rfl (fun K hK=>?_)
        have R13:=mkHid R12.out.allocA
        refine stepB2 (by rfl) (v:=.pointer (some ⟨(V12).heap.size,0,none⟩)) (w':=(V12).alloc (.cells #[.string ⟨#[]⟩,.int .i64 0,.int .i64 0,.slice none 0 0,.slice none 0 0,.slice none 0 0] 27)) (by go_simp) ?_
        obtain ⟨V13,hV13⟩:∃ X,(V12).alloc (.cells #[.string ⟨#[]⟩,.int .i64 0,.int .i64 0,.slice none 0 0,.slice none 0 0,.slice none 0 0] 27)=X:=⟨_,rfl⟩
        rw [hV13] at R13 ⊢
        obtain ⟨P13,hP13⟩:∃ X,(V12).heap.size=X:=⟨_,rfl⟩
        rw [hP13] at R13 ⊢
        clear hV13 hP13
        refine hK.out _ _ trivial (fun hHeld=>?_)
        clear hK K
        try simp only [Act.put,qq]
        obtain ⟨hne,k1,k2,k3,k4,k5⟩:=R13.out.fin (v:=#[.int .i64 c,.int .i64 a'])
        refine oneH (i:=16) (by kernel_rfl) rfl (fun K hK=>?_)
        refine stepR (by rfl) 27 _ _ rfl P13 #[u0,u1,u2,u3,u4,u5] rfl rfl 27 _ (R13.out.a _ rfl).2 (by kernel_rfl) rfl (R13.out.u _ rfl).1 ?_
        refine hK.out _ _ trivial (fun hHeld=>?_)
        clear hK K
        try simp only [Act.put,qq]
        refine oneH (i:=17) (by kernel_rfl) rfl (fun K hK=>?_)
        refine stepR (by rfl) 30 _ _ rfl P11 #[.int .i64 c,.int .i64 a'] rfl rfl 30 _ k3 (by kernel_rfl) rfl (by kernel_rfl) ?_
        refine hK.out _ _ trivial (fun hHeld=>?_)
        clear hK K
        try simp only [Act.put,qq]
        refine wpAnyH_done (by kernel_rfl) ?_ _
        have k1_all:=(R13.out.u _ rfl).1
        go_wp2_with fail
        go_meet
        case rel=>exact ⟨_,_,_,_,_,_,_,_,rfl,rfl,mkHid ⟨k1,k2,k4,k1_all,fun t ht=>by obtain ⟨ft,h⟩:=k5 t ht; exact HTs.out _ _ _ _ _ _ _ _ ft ht h⟩⟩
       ·have R14:=mkHid R11.out.allocA
        refine stepB2 (by rfl) (v:=.pointer (some ⟨(V11).heap.size,0,none⟩)) (w':=(V11).alloc (.cells #[.string ⟨#[]⟩,.int .i64 0,.int .i64 0,.slice none 0 0,.slice none 0 0,.slice none 0 0] 27)) (by go_simp) ?_
        obtain ⟨V14,hV14⟩:∃ X,(V11).alloc (.cells #[.string ⟨#[]⟩,.int .i64 0,.int .i64 0,.slice none 0 0,.slice none 0 0,.slice none 0 0] 27)=X:=⟨_,rfl⟩
        rw [hV14] at R14 ⊢
        obtain ⟨P14,hP14⟩:∃ X,(V11).heap.size=X:=⟨_,rfl⟩
        rw [hP14] at R14 ⊢
        clear hV14 hP14
        refine hK.out _ _ trivial (fun hHeld=>?_)
        clear hK K
        try simp only [Act.put,qq]
        refine oneH (i:=10) (by kernel_rfl) rfl (fun K hK=>?_)
        refine stepE (by rfl) 13 Tryz.f13 Tryz.func13 (by kernel_rfl) (by kernel_rfl) _ _ rfl _ (by first | (simp [Act.eval]; done) | (simp [Act.eval]; rfl)) _ (HC.out _ R14.out.bl) ?_
        rintro _ V15 ⟨b5,u0,u1,u2,u3,u4,u5,rfl,hall5,hT5⟩
        have R15:=mkHid (R14.out.call b5 hall5 hT5)
        clear b5 hall5 hT5
        refine hK.out _ _ trivial (fun hHeld=>?_)
        clear hK K
        try simp only [Act.put,qq]
        refine tq (i:=11) ?_
        try simp only [Act.put,qq]
        refine tq (i:=12) ?_
        try simp only [Act.put,qq]
        refine tq (i:=13) ?_
        try simp only [Act.put,qq]
        obtain ⟨hne,k1,k2,k3,k4,k5⟩:=R15.out.fin (v:=#[.int .i64 c,.int .i64 a'])
        refine oneH (i:=16) (by kernel_rfl) rfl (fun K hK=>?_)
        refine stepR (by rfl) 27 _ _ rfl P14 #[u0,u1,u2,u3,u4,u5] rfl rfl 27 _ (R15.out.a _ rfl).2 (by kernel_rfl) rfl (R15.out.u _ rfl).1 ?_
        refine hK.out _ _ trivial (fun hHeld=>?_)
        clear hK K
        try simp only [Act.put,qq]
        refine oneH (i:=17) (by kernel_rfl) rfl (fun K hK=>?_)
        refine stepR (by rfl) 30 _ _ rfl P11 #[.int .i64 c,.int .i64 a'] rfl rfl 30 _ k3 (by kernel_rfl) rfl (by kernel_rfl) ?_
        refine hK.out _ _ trivial (fun hHeld=>?_)
        clear hK K
        try simp only [Act.put,qq]
        refine wpAnyH_done (by kernel_rfl) ?_ _
        have k1_all:=(R15.out.u _ rfl).1
        go_wp2_with fail
        go_meet
        case rel=>exact ⟨_,_,_,_,_,_,_,_,rfl,rfl,mkHid ⟨k1,k2,k4,k1_all,fun t ht=>by obtain ⟨ft,h⟩:=k5 t ht; exact HTs.out _ _ _ _ _ _ _ _ ft ht h⟩⟩
     case rest =>
      obtain ⟨A,B,u0,u1,u2,u3,u4,u5,rfl,rfl,hq⟩:=hcut
      obtain ⟨V,hV⟩:∃ V,V=wc:=⟨_,rfl⟩
      subst hV
      obtain ⟨q1,q2,q3,q4,q5⟩:=hq.out
      have n0:=(q3.block _ (lt_of_heap m0R.out)).trans m0R.out
      have n1:=(q3.block _ (lt_of_heap m1R.out)).trans m1R.out
      have c0:V.cell? ⟨wR.heap.size+1,0,none⟩=some (.int .i64 c):=by rw [cell_in n1]; rfl
      have c1:V.cell? ⟨wR.heap.size+1,1,none⟩=some (.int .i64 a):=by rw [cell_in n1]; rfl
      have e0:V.cell? ⟨B,0,none⟩=some (.int .i64 c):=by rw [cell_in q2]; rfl
      have e1:V.cell? ⟨B,1,none⟩=some (.int .i64 a'):=by rw [cell_in q2]; rfl
      have BV:Hid (Bl w V):=mkHid (BX.out.trans q3)
      have hcc:((c:Int) != c)=false:=by simp
      by_cases hc0:c=0
      ·obtain ⟨t,ht,ha0⟩:=HR0.out hc0
       have T1:=(HTr.out t ht).keep (B9R.out.trans q3)
       have ht':r'=some (mvS (upP p d) m t):=by rw [HRr.out,ht]; rfl
       have T2:=q5 _ ht'
       have HSm:=mkHid (same_ok (trS t) (trS (mvS (upP p d) m t)) t1R t3R t4R t5R u1 u3 u4 u5 V (by have:=T1.e; unfold trV at this; injection this with this; rw [← this]; exact HAllR.out) (by have:=T2.e; unfold trV at this; injection this with this; rw [← this]; exact q4) T1.tv T2.tv)
       have hsame:sameB (trS t) (trS (mvS (upP p d) m t))=true:=by rw [sameB_eq,trS_mv]
       rw [hsame,← T1.e,← T2.e] at HSm
       obtain ⟨g0,g1,g2,g3,g4,g5⟩:=cells6 n0
       obtain ⟨j0,j1,j2,j3,j4,j5⟩:=cells6 q1
       have hcz:((c:Int) != 0)=false:=by simp; omega
       clear HTr HR0 T1 T2 hsame ht ht' HRr HAa hq q1 q2 q3 q4 q5 n0 n1 HC HTs hs1 hs2 hc0 ha0
       go_wp2_with (go_at_call 16; refine HSm.out.mono ?_; rintro e w6 ⟨rfl,b6⟩)
       go_ret
       exact ⟨rfl,BV.out.trans b6⟩
      ·have hcz:((c:Int) != 0)=true:=by simp; omega
       have hv:=HAa.out
       rw [if_neg hc0] at hv
       unfold upP at hv
       by_cases hpa:p≤a
       ·rw [if_pos hpa] at hv
        have hwa:IntKind.i64.wrap ((a:Int)+(gg.size:Int))=(a':Int):=by rw [HD.out,hv,wrap_id _ (by omega) (by omega)]; omega
        have hpa2:(p:Int)≤(a:Int):=by omega
        clear HTr HR0 HRr HAa hq q1 q2 q3 q4 q5 n0 n1 HC HTs hs1 hs2 hc0 hv hpa
        go_wp2_with fail
        go_ret
        exact ⟨by simp,BV.out⟩
       ·rw [if_neg hpa] at hv
        subst hv
        have hpa2:¬ (p:Int)≤(a':Int):=by omega
        clear HTr HR0 HRr HAa hq q1 q2 q3 q4 q5 n0 n1 HC HTs hs1 hs2 hc0 hpa
        go_wp2_with fail
        go_ret
        exact ⟨by simp,BV.out⟩
theorem gaps_any (s:ByteArray) (m:Bool) (z:Int) (ws:ByteArray) (bk:Bool) (w:World) (hE:Env w) (h1:s.size≤140737488355328) (hz:-9223372036854775808≤z∧z≤9223372036854775807) (h2:ws.size≤140737488355328) :
  Calls Tryz.prog 7 #[.string s,.bool m,.int .i64 z,.string ws,.bool bk] w fun e w'=>e=.returned (.bool true)∧Bl w w':=by
 obtain ⟨ts,c,a,hl,hc⟩:=LexR.total (lst s)
 rcases hc with rfl | ⟨rfl,hc⟩
 ·have ha:a=0:=hl.good.1
  subst ha
  exact gaps_good s m z ws bk ts hl w hE h1 h2
 ·exact gaps_bad s m z ws bk c a hc hl w hE h1
end Go.Proofs.YtfhkhmgodkheaaaGreatDoor
