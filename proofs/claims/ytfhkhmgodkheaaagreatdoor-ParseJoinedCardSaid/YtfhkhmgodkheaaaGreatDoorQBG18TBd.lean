import Derived.Test.YtfhkhmgodkheaaaGreatDoorQBPWdN
import Derived.Test.YtfhkhmgodkheaaaGreatDoorQBG09TNm
set_option linter.unusedSimpArgs false
set_option linter.unusedVariables false
set_option maxRecDepth 1000000
set_option maxHeartbeats 16000000
namespace Go.Proofs.YtfhkhmgodkheaaaGreatDoor
open Go.RowKit Go.Maps
theorem twoH {P:Program} {md:Region.Mode} {ops:Array Oper} {Q:Exit→Act→World→Prop} {S:World→Prop} {i j:Nat} {oi oj:Oper} {fuel:Nat} {listed:Array Bool} {a:Act} {w:World} (hr:Region.ready md ops listed=[i,j]) (hi:ops[i]?=some oi) (hj:ops[j]?=some oj)
  (h1:∀ K':Act→World→Prop,Hid (∀ a w,S w→(S w→wpAnyH P md ops Q S fuel (listed.setIfInBounds i true) a w)→K' a w)→if Region.wanted oi (yielded ops a.tmps)=true then Oper.wp P oi a w K' Q else K' (a.put oi.dst undef) w)
  (h2:∀ K':Act→World→Prop,Hid (∀ a w,S w→(S w→wpAnyH P md ops Q S fuel (listed.setIfInBounds j true) a w)→K' a w)→if Region.wanted oj (yielded ops a.tmps)=true then Oper.wp P oj a w K' Q else K' (a.put oj.dst undef) w):wpAnyH P md ops Q S (fuel+1) listed a w:=by
 refine ⟨fun h0=>(by rw [hr] at h0; cases h0),fun k hk=>?_⟩
 rw [hr] at hk
 have e:k=i∨k=j:=by simpa using hk
 rcases e with e | e
 ·subst e
  exact wpOp_step hi (fun K' hK=>h1 K' (fun a w hS hW=>hK a w ⟨hS,hW hS⟩))
 ·subst e
  exact wpOp_step hj (fun K' hK=>h2 K' (fun a w hS hW=>hK a w ⟨hS,hW hS⟩))
def PostS (P g c:Nat) (ts:Ts) (w:World) (r:Rs (Nd × Bool)) (e:Ending) (w':World):Prop:=Fr [P] w w'∧match r with
 | .ok x s'=>∃ c0 c1 c2 c3 c4 c5 c6 ft,e=.returned (.tuple #[.agg #[c0,c1,c2,c3,c4,c5,c6],.bool x.2])∧NdM w' x.1 (.agg #[c0,c1,c2,c3,c4,c5,c6]) ft∧Apt w.heap.size ft∧Pr w' P g c ts s'
 | .bad x=>e=.panicked [{ v:=thrown x,recovered:=false }]
theorem posts_bad {P g c:Nat} {ts:Ts} {w w':World} {x:Tok × Nat} {e:Ending} (h:PostS P g c ts w (.bad x) e w'):e=.panicked [{ v:=thrown x,recovered:=false }]∧Fr [P] w w':=⟨h.2,h.1⟩
theorem posts_ok {P g c:Nat} {ts:Ts} {w w':World} {n:Nd} {b:Bool} {s':Ps} {e:Ending} (h:PostS P g c ts w (.ok (n,b) s') e w'):∃ c0 c1 c2 c3 c4 c5 c6 ft,e=.returned (.tuple #[.agg #[c0,c1,c2,c3,c4,c5,c6],.bool b])∧NdM w' n (.agg #[c0,c1,c2,c3,c4,c5,c6]) ft∧Apt w.heap.size ft∧Pr w' P g c ts s'∧Fr [P] w w':=by
 obtain ⟨f,c0,c1,c2,c3,c4,c5,c6,ft,h1,h2,h3,h4⟩:=h
 exact ⟨c0,c1,c2,c3,c4,c5,c6,ft,h1,h2,h3,h4,f⟩
def CS3 (ts:Ts) (f:Nat):Prop:=∀ most P g c s w r,most≤3→Pr w P g c ts s→Okq ts s→sendsP ts f most s=some r→Calls Tryz.prog 153 #[.pointer (some ⟨P,0,none⟩),.int .i64 most] w (PostS P g c ts w r)
theorem most_arg (k:Nat) (hk:1≤k∧k≤3) (w:World):Calls Tryz.prog 122 #[.int .i64 k] w fun e w'=>e=.returned (.int .i64 ((k - 1:Nat):Int))∧w'=w:=by
 have h1:(k:Int) - 1=((k - 1:Nat):Int):=by omega
 obtain ⟨j,hj⟩:∃ j:Nat,k - 1=j:=⟨_,rfl⟩
 have hk3:k=j+1:=by omega
 subst hk3
 rw [hj]
 go_enter Tryz.func122,Tryz.ntmps122
 go_wp2_with fail
 go_ret
 exact ⟨by congr 2,rfl⟩
theorem clo167_ok (ts:Ts) (f:Nat) (hS:CS3 ts f) (P g c bp k:Nat) (hk2:1≤k∧k≤3) (s:Ps) (V:World) (r:Rs Nd) (h:Pr V P g c ts s) (hok:Okq ts s) (hb:Box V bp (.pointer (some ⟨P,0,none⟩)) 62) (hbP:P≠bp) (hr:bindP (sendsP ts f (k - 1) s) (fun x s1=>some (.ok x.1 s1))=some r) :
  Calls Tryz.prog 167 #[.int .i64 k,.pointer (some ⟨bp,0,none⟩)] V (PostN P g c ts V r):=by
 obtain ⟨V1,hV1⟩:∃ X,V.alloc (.cells #[.int .i64 0,.string ⟨#[]⟩,.int .i64 0,.int .i64 0,.slice none 0 0,.slice none 0 0,.slice none 0 0] 34)=X:=⟨_,rfl⟩
 have S1:Hid (Sw V V1.drew P g c ts s):=mkHid (hV1▸(Sw.start h hok).drew)
 have B1:Hid (Box V1.drew bp (.pointer (some ⟨P,0,none⟩)) 62):=mkHid ((hb.bl (hV1▸Bl.alloc V _)).bl (bl_drew V1))
 have L1:Hid (V.heap.size < V1.heap.size):=mkHid S1.out.size
 cases e1:sendsP ts f (k - 1) s with
 | none=>rw [e1] at hr; cases hr
 | some r1 =>
  rw [e1] at hr
  have HS:=mkHid (fun X p=>hS (k - 1) P g c s X r1 (by omega) p hok e1)
  clear h hok hb hS e1
  cases r1 with
  | bad x =>
   injection hr with hr
   subst hr
   go_enter Tryz.func167,Tryz.ntmps167
   go_wp2_with fail
   refine wp_region_held_drew (S:=fun V=>V.cell? ⟨bp,0,none⟩=some (.pointer (some ⟨P,0,none⟩))) (by kernel_rfl) (B1.out.cell) (fun hHeld=>?_)
   refine tq (i:=0) ?_
   try simp only [Act.put,qq]
   refine tq (i:=1) ?_
   try simp only [Act.put,qq]
   have S2:Hid (Sw V (V1.drew.alloc (.cells #[.int .i64 0,.string ⟨#[]⟩,.int .i64 0,.int .i64 0,.slice none 0 0,.slice none 0 0,.slice none 0 0] 34)) P g c ts s):=mkHid (S1.out.bl (Bl.alloc V1.drew (.cells #[.int .i64 0,.string ⟨#[]⟩,.int .i64 0,.int .i64 0,.slice none 0 0,.slice none 0 0,.slice none 0 0] 34)))
   have B2:Hid (Box (V1.drew.alloc (.cells #[.int .i64 0,.string ⟨#[]⟩,.int .i64 0,.int .i64 0,.slice none 0 0,.slice none 0 0,.slice none 0 0] 34)) bp (.pointer (some ⟨P,0,none⟩)) 62):=mkHid (B1.out.bl (Bl.alloc V1.drew (.cells #[.int .i64 0,.string ⟨#[]⟩,.int .i64 0,.int .i64 0,.slice none 0 0,.slice none 0 0,.slice none 0 0] 34)))
   have R2:Hid ((V1.drew.alloc (.cells #[.int .i64 0,.string ⟨#[]⟩,.int .i64 0,.int .i64 0,.slice none 0 0,.slice none 0 0,.slice none 0 0] 34)).heap[V1.heap.size]?=some z7):=mkHid (heap_alloc_new V1.drew (.cells #[.int .i64 0,.string ⟨#[]⟩,.int .i64 0,.int .i64 0,.slice none 0 0,.slice none 0 0,.slice none 0 0] 34))
   refine twoH (i:=2) (j:=7) (by kernel_rfl) rfl rfl (fun K hK=>?_) (fun K hK=>?_)
   ·refine stepE (by rfl) 122 Tryz.f122 Tryz.func122 (by kernel_rfl) (by kernel_rfl) _ _ rfl _ (by first | (simp [Act.eval]; done) | (simp [Act.eval]; rfl)) _ (most_arg k hk2 _) ?_
    rintro _ _ ⟨rfl,rfl⟩
    refine hK.out _ _ (B1.out.cell) (fun hHeld=>?_)
    clear hK K
    try simp only [Act.put,qq]
    refine twoH (i:=3) (j:=7) (by kernel_rfl) rfl rfl (fun K hK=>?_) (fun K hK=>?_)
    ·refine stepE (by rfl) 153 Tryz.f153 Tryz.func153 (by kernel_rfl) (by kernel_rfl) _ _ rfl _ (by first | (simp [Act.eval]; done) | (simp [Act.eval]; rfl)) _ (HS.out _ S1.out.pr) ?_
     intro e w3 q3
     obtain ⟨rfl,f3⟩:=posts_bad q3
     exact ⟨rfl,mk_bad (fr_tr S1.out.fr f3)⟩
    ·refine stepB2 (by rfl) (v:=.pointer (some ⟨V1.heap.size,0,none⟩)) (w':=V1.drew.alloc (.cells #[.int .i64 0,.string ⟨#[]⟩,.int .i64 0,.int .i64 0,.slice none 0 0,.slice none 0 0,.slice none 0 0] 34)) (by go_simp) ?_
     refine hK.out _ _ (B2.out.cell) (fun hHeld=>?_)
     clear hK K
     try simp only [Act.put,qq]
     refine oneH (i:=3) (by kernel_rfl) rfl (fun K hK=>?_)
     refine stepE (by rfl) 153 Tryz.f153 Tryz.func153 (by kernel_rfl) (by kernel_rfl) _ _ rfl _ (by first | (simp [Act.eval]; done) | (simp [Act.eval]; rfl)) _ (HS.out _ S2.out.pr) ?_
     intro e w3 q3
     obtain ⟨rfl,f3⟩:=posts_bad q3
     exact ⟨rfl,mk_bad (fr_tr S2.out.fr f3)⟩
   ·refine stepB2 (by rfl) (v:=.pointer (some ⟨V1.heap.size,0,none⟩)) (w':=V1.drew.alloc (.cells #[.int .i64 0,.string ⟨#[]⟩,.int .i64 0,.int .i64 0,.slice none 0 0,.slice none 0 0,.slice none 0 0] 34)) (by go_simp) ?_
    refine hK.out _ _ (B2.out.cell) (fun hHeld=>?_)
    clear hK K
    try simp only [Act.put,qq]
    refine oneH (i:=2) (by kernel_rfl) rfl (fun K hK=>?_)
    refine stepE (by rfl) 122 Tryz.f122 Tryz.func122 (by kernel_rfl) (by kernel_rfl) _ _ rfl _ (by first | (simp [Act.eval]; done) | (simp [Act.eval]; rfl)) _ (most_arg k hk2 _) ?_
    rintro _ _ ⟨rfl,rfl⟩
    refine hK.out _ _ (B2.out.cell) (fun hHeld=>?_)
    clear hK K
    try simp only [Act.put,qq]
    refine oneH (i:=3) (by kernel_rfl) rfl (fun K hK=>?_)
    refine stepE (by rfl) 153 Tryz.f153 Tryz.func153 (by kernel_rfl) (by kernel_rfl) _ _ rfl _ (by first | (simp [Act.eval]; done) | (simp [Act.eval]; rfl)) _ (HS.out _ S2.out.pr) ?_
    intro e w3 q3
    obtain ⟨rfl,f3⟩:=posts_bad q3
    exact ⟨rfl,mk_bad (fr_tr S2.out.fr f3)⟩
  | ok x s1 =>
   obtain ⟨n,bb⟩:=x
   injection hr with hr
   subst hr
   go_enter Tryz.func167,Tryz.ntmps167
   go_wp2_with fail
   refine wp_region_held_drew (S:=fun V=>V.cell? ⟨bp,0,none⟩=some (.pointer (some ⟨P,0,none⟩))) (by kernel_rfl) (B1.out.cell) (fun hHeld=>?_)
   refine tq (i:=0) ?_
   try simp only [Act.put,qq]
   refine tq (i:=1) ?_
   try simp only [Act.put,qq]
   have S2:Hid (Sw V (V1.drew.alloc (.cells #[.int .i64 0,.string ⟨#[]⟩,.int .i64 0,.int .i64 0,.slice none 0 0,.slice none 0 0,.slice none 0 0] 34)) P g c ts s):=mkHid (S1.out.bl (Bl.alloc V1.drew (.cells #[.int .i64 0,.string ⟨#[]⟩,.int .i64 0,.int .i64 0,.slice none 0 0,.slice none 0 0,.slice none 0 0] 34)))
   have B2:Hid (Box (V1.drew.alloc (.cells #[.int .i64 0,.string ⟨#[]⟩,.int .i64 0,.int .i64 0,.slice none 0 0,.slice none 0 0,.slice none 0 0] 34)) bp (.pointer (some ⟨P,0,none⟩)) 62):=mkHid (B1.out.bl (Bl.alloc V1.drew (.cells #[.int .i64 0,.string ⟨#[]⟩,.int .i64 0,.int .i64 0,.slice none 0 0,.slice none 0 0,.slice none 0 0] 34)))
   have R2:Hid ((V1.drew.alloc (.cells #[.int .i64 0,.string ⟨#[]⟩,.int .i64 0,.int .i64 0,.slice none 0 0,.slice none 0 0,.slice none 0 0] 34)).heap[V1.heap.size]?=some z7):=mkHid (heap_alloc_new V1.drew (.cells #[.int .i64 0,.string ⟨#[]⟩,.int .i64 0,.int .i64 0,.slice none 0 0,.slice none 0 0,.slice none 0 0] 34))
   refine twoH (i:=2) (j:=7) (by kernel_rfl) rfl rfl (fun K hK=>?_) (fun K hK=>?_)
   ·refine stepE (by rfl) 122 Tryz.f122 Tryz.func122 (by kernel_rfl) (by kernel_rfl) _ _ rfl _ (by first | (simp [Act.eval]; done) | (simp [Act.eval]; rfl)) _ (most_arg k hk2 _) ?_
    rintro _ _ ⟨rfl,rfl⟩
    refine hK.out _ _ (B1.out.cell) (fun hHeld=>?_)
    clear hK K
    try simp only [Act.put,qq]
    refine twoH (i:=3) (j:=7) (by kernel_rfl) rfl rfl (fun K hK=>?_) (fun K hK=>?_)
    ·refine stepE (by rfl) 153 Tryz.f153 Tryz.func153 (by kernel_rfl) (by kernel_rfl) _ _ rfl _ (by first | (simp [Act.eval]; done) | (simp [Act.eval]; rfl)) _ (HS.out _ S1.out.pr) ?_
     intro e w3 q3
     obtain ⟨c0,c1,c2,c3,c4,c5,c6,ft,rfl,n3,a3,p3,f3⟩:=posts_ok q3
     have S3:=mkHid (S1.out.go f3 p3)
     have B3:=mkHid (B1.out.fr f3 (by simpa using fun e=>hbP e.symm))
     have N3:=mkHid n3
     have A3:Hid (Apt (V.heap.size+1) ft):=mkHid (a3.mono S1.out.size)
     clear q3 n3 a3 p3 f3
     refine hK.out _ _ (B3.out.cell) (fun hHeld=>?_)
     clear hK K
     try simp only [Act.put,qq]
     refine tq (i:=4) ?_
     try simp only [Act.put,qq]
     refine tq (i:=5) ?_
     try simp only [Act.put,qq]
     refine tq (i:=6) ?_
     try simp only [Act.put,qq]
     have SX:Hid (Sw V (w3.alloc (.cells #[.int .i64 0,.string ⟨#[]⟩,.int .i64 0,.int .i64 0,.slice none 0 0,.slice none 0 0,.slice none 0 0] 34)) P g c ts s1):=mkHid (S3.out.bl (Bl.alloc w3 (.cells #[.int .i64 0,.string ⟨#[]⟩,.int .i64 0,.int .i64 0,.slice none 0 0,.slice none 0 0,.slice none 0 0] 34)))
     have BX:Hid (Box (w3.alloc (.cells #[.int .i64 0,.string ⟨#[]⟩,.int .i64 0,.int .i64 0,.slice none 0 0,.slice none 0 0,.slice none 0 0] 34)) bp (.pointer (some ⟨P,0,none⟩)) 62):=mkHid (B3.out.bl (Bl.alloc w3 (.cells #[.int .i64 0,.string ⟨#[]⟩,.int .i64 0,.int .i64 0,.slice none 0 0,.slice none 0 0,.slice none 0 0] 34)))
     have RX:Hid ((w3.alloc (.cells #[.int .i64 0,.string ⟨#[]⟩,.int .i64 0,.int .i64 0,.slice none 0 0,.slice none 0 0,.slice none 0 0] 34)).heap[w3.heap.size]?=some z7):=mkHid (heap_alloc_new w3 (.cells #[.int .i64 0,.string ⟨#[]⟩,.int .i64 0,.int .i64 0,.slice none 0 0,.slice none 0 0,.slice none 0 0] 34))
     have NX:=mkHid (N3.out.fr (Fr.alloc [] w3 (.cells #[.int .i64 0,.string ⟨#[]⟩,.int .i64 0,.int .i64 0,.slice none 0 0,.slice none 0 0,.slice none 0 0] 34)) (by simp))
     have hltx:Hid (∀ b∈ft,b≠w3.heap.size):=mkHid (fun b hb=>by have:=N3.out.lt b hb; omega)
     have hbl2:Hid (bp < w3.heap.size):=mkHid B3.out.lt
     refine oneH (i:=7) (by kernel_rfl) rfl (fun K hK=>?_)
     refine stepB2 (by rfl) (v:=.pointer (some ⟨w3.heap.size,0,none⟩)) (w':=w3.alloc (.cells #[.int .i64 0,.string ⟨#[]⟩,.int .i64 0,.int .i64 0,.slice none 0 0,.slice none 0 0,.slice none 0 0] 34)) (by go_simp) ?_
     refine hK.out _ _ (BX.out.cell) (fun hHeld=>?_)
     clear hK K
     try simp only [Act.put,qq]
     refine oneH (i:=8) (by kernel_rfl) rfl (fun K hK=>?_)
     refine stepR (by rfl) 34 _ _ rfl w3.heap.size #[c0,c1,c2,c3,c4,c5,c6] rfl rfl 34 _ RX.out (by kernel_rfl) rfl (node_all NX.out) ?_
     refine hK.out _ _ ((BX.out.fr (row_fr _ _ _) (by have:=hbl2.out; simp; omega)).cell) (fun hHeld=>?_)
     clear hK K
     try simp only [Act.put,qq]
     refine tq (i:=9) ?_
     try simp only [Act.put,qq]
     refine wpAnyH_done (by kernel_rfl) ?_ _
     clear hHeld
     obtain ⟨W5,hW5⟩:∃ X,(w3.alloc (.cells #[.int .i64 0,.string ⟨#[]⟩,.int .i64 0,.int .i64 0,.slice none 0 0,.slice none 0 0,.slice none 0 0] 34)).setRow (w3.heap.size) #[c0,c1,c2,c3,c4,c5,c6]=X:=⟨_,rfl⟩
     have S5:Hid (Sw V W5 P g c ts s1):=mkHid (hW5▸SX.out.row _ _ S3.out.size)
     have N5:Hid (NdM W5 n (.agg #[c0,c1,c2,c3,c4,c5,c6]) ft):=mkHid (hW5▸NX.out.fr (row_fr _ _ _) (fun b hb=>by have:=hltx.out b hb; simpa using this))
     have R5:Hid (W5.heap[w3.heap.size]?=some (.cells #[c0,c1,c2,c3,c4,c5,c6] 34 (0,0))):=mkHid (hW5▸setRow_heap _ _ _ _ 34 (0,0) RX.out)
     obtain ⟨u0,u1,u2,u3,u4,u5,u6⟩:=cells7 R5.out
     rw [hW5]
     go_wp2_with (refine wpList_store_row rfl 34 _ _ rfl V.heap.size #[c0,c1,c2,c3,c4,c5,c6] rfl rfl 34 _ S5.out.res (by kernel_rfl) rfl (node_all N5.out) ?_)
     exact S5.out.endN Tryz.results167 rfl N5.out A3.out
    ·refine stepB2 (by rfl) (v:=.pointer (some ⟨V1.heap.size,0,none⟩)) (w':=V1.drew.alloc (.cells #[.int .i64 0,.string ⟨#[]⟩,.int .i64 0,.int .i64 0,.slice none 0 0,.slice none 0 0,.slice none 0 0] 34)) (by go_simp) ?_
     refine hK.out _ _ (B2.out.cell) (fun hHeld=>?_)
     clear hK K
     try simp only [Act.put,qq]
     refine oneH (i:=3) (by kernel_rfl) rfl (fun K hK=>?_)
     refine stepE (by rfl) 153 Tryz.f153 Tryz.func153 (by kernel_rfl) (by kernel_rfl) _ _ rfl _ (by first | (simp [Act.eval]; done) | (simp [Act.eval]; rfl)) _ (HS.out _ S2.out.pr) ?_
     intro e w3 q3
     obtain ⟨c0,c1,c2,c3,c4,c5,c6,ft,rfl,n3,a3,p3,f3⟩:=posts_ok q3
     have S3:=mkHid (S2.out.go f3 p3)
     have B3:=mkHid (B2.out.fr f3 (by simpa using fun e=>hbP e.symm))
     have N3:=mkHid n3
     have A3:Hid (Apt (V.heap.size+1) ft):=mkHid (a3.mono S2.out.size)
     have R3:Hid (w3.heap[V1.heap.size]?=some z7):=mkHid ((f3.block _ (lt_of_heap R2.out) (by have:=S2.out.lp; have:=L1.out; simp; omega)).trans R2.out)
     have hlt:∀ b∈ft,b≠V1.heap.size:=fun b hb=>by have h8:=a3.lo b hb; have h9:=lt_of_heap R2.out; omega
     clear q3 n3 a3 p3 f3
     refine hK.out _ _ (B3.out.cell) (fun hHeld=>?_)
     clear hK K
     try simp only [Act.put,qq]
     refine tq (i:=4) ?_
     try simp only [Act.put,qq]
     refine tq (i:=5) ?_
     try simp only [Act.put,qq]
     refine tq (i:=6) ?_
     try simp only [Act.put,qq]
     have NX:=N3
     have SX:=S3
     have hltx:Hid (∀ b∈ft,b≠V1.heap.size):=mkHid hlt
     have hbl2:Hid (bp < V1.heap.size):=mkHid B1.out.lt
     refine oneH (i:=8) (by kernel_rfl) rfl (fun K hK=>?_)
     refine stepR (by rfl) 34 _ _ rfl V1.heap.size #[c0,c1,c2,c3,c4,c5,c6] rfl rfl 34 _ R3.out (by kernel_rfl) rfl (node_all NX.out) ?_
     refine hK.out _ _ ((B3.out.fr (row_fr _ _ _) (by have:=hbl2.out; simp; omega)).cell) (fun hHeld=>?_)
     clear hK K
     try simp only [Act.put,qq]
     refine tq (i:=9) ?_
     try simp only [Act.put,qq]
     refine wpAnyH_done (by kernel_rfl) ?_ _
     clear hHeld
     obtain ⟨W5,hW5⟩:∃ X,(w3).setRow (V1.heap.size) #[c0,c1,c2,c3,c4,c5,c6]=X:=⟨_,rfl⟩
     have S5:Hid (Sw V W5 P g c ts s1):=mkHid (hW5▸SX.out.row _ _ L1.out)
     have N5:Hid (NdM W5 n (.agg #[c0,c1,c2,c3,c4,c5,c6]) ft):=mkHid (hW5▸NX.out.fr (row_fr _ _ _) (fun b hb=>by have:=hltx.out b hb; simpa using this))
     have R5:Hid (W5.heap[V1.heap.size]?=some (.cells #[c0,c1,c2,c3,c4,c5,c6] 34 (0,0))):=mkHid (hW5▸setRow_heap _ _ _ _ 34 (0,0) R3.out)
     obtain ⟨u0,u1,u2,u3,u4,u5,u6⟩:=cells7 R5.out
     rw [hW5]
     go_wp2_with (refine wpList_store_row rfl 34 _ _ rfl V.heap.size #[c0,c1,c2,c3,c4,c5,c6] rfl rfl 34 _ S5.out.res (by kernel_rfl) rfl (node_all N5.out) ?_)
     exact S5.out.endN Tryz.results167 rfl N5.out A3.out
   ·refine stepB2 (by rfl) (v:=.pointer (some ⟨V1.heap.size,0,none⟩)) (w':=V1.drew.alloc (.cells #[.int .i64 0,.string ⟨#[]⟩,.int .i64 0,.int .i64 0,.slice none 0 0,.slice none 0 0,.slice none 0 0] 34)) (by go_simp) ?_
    refine hK.out _ _ (B2.out.cell) (fun hHeld=>?_)
    clear hK K
    try simp only [Act.put,qq]
    refine oneH (i:=2) (by kernel_rfl) rfl (fun K hK=>?_)
    refine stepE (by rfl) 122 Tryz.f122 Tryz.func122 (by kernel_rfl) (by kernel_rfl) _ _ rfl _ (by first | (simp [Act.eval]; done) | (simp [Act.eval]; rfl)) _ (most_arg k hk2 _) ?_
    rintro _ _ ⟨rfl,rfl⟩
    refine hK.out _ _ (B2.out.cell) (fun hHeld=>?_)
    clear hK K
    try simp only [Act.put,qq]
    refine oneH (i:=3) (by kernel_rfl) rfl (fun K hK=>?_)
    refine stepE (by rfl) 153 Tryz.f153 Tryz.func153 (by kernel_rfl) (by kernel_rfl) _ _ rfl _ (by first | (simp [Act.eval]; done) | (simp [Act.eval]; rfl)) _ (HS.out _ S2.out.pr) ?_
    intro e w3 q3
    obtain ⟨c0,c1,c2,c3,c4,c5,c6,ft,rfl,n3,a3,p3,f3⟩:=posts_ok q3
    have S3:=mkHid (S2.out.go f3 p3)
    have B3:=mkHid (B2.out.fr f3 (by simpa using fun e=>hbP e.symm))
    have N3:=mkHid n3
    have A3:Hid (Apt (V.heap.size+1) ft):=mkHid (a3.mono S2.out.size)
    have R3:Hid (w3.heap[V1.heap.size]?=some z7):=mkHid ((f3.block _ (lt_of_heap R2.out) (by have:=S2.out.lp; have:=L1.out; simp; omega)).trans R2.out)
    have hlt:∀ b∈ft,b≠V1.heap.size:=fun b hb=>by have h8:=a3.lo b hb; have h9:=lt_of_heap R2.out; omega
    clear q3 n3 a3 p3 f3
    refine hK.out _ _ (B3.out.cell) (fun hHeld=>?_)
    clear hK K
    try simp only [Act.put,qq]
    refine tq (i:=4) ?_
    try simp only [Act.put,qq]
    refine tq (i:=5) ?_
    try simp only [Act.put,qq]
    refine tq (i:=6) ?_
    try simp only [Act.put,qq]
    have NX:=N3
    have SX:=S3
    have hltx:Hid (∀ b∈ft,b≠V1.heap.size):=mkHid hlt
    have hbl2:Hid (bp < V1.heap.size):=mkHid B1.out.lt
    refine oneH (i:=8) (by kernel_rfl) rfl (fun K hK=>?_)
    refine stepR (by rfl) 34 _ _ rfl V1.heap.size #[c0,c1,c2,c3,c4,c5,c6] rfl rfl 34 _ R3.out (by kernel_rfl) rfl (node_all NX.out) ?_
    refine hK.out _ _ ((B3.out.fr (row_fr _ _ _) (by have:=hbl2.out; simp; omega)).cell) (fun hHeld=>?_)
    clear hK K
    try simp only [Act.put,qq]
    refine tq (i:=9) ?_
    try simp only [Act.put,qq]
    refine wpAnyH_done (by kernel_rfl) ?_ _
    clear hHeld
    obtain ⟨W5,hW5⟩:∃ X,(w3).setRow (V1.heap.size) #[c0,c1,c2,c3,c4,c5,c6]=X:=⟨_,rfl⟩
    have S5:Hid (Sw V W5 P g c ts s1):=mkHid (hW5▸SX.out.row _ _ L1.out)
    have N5:Hid (NdM W5 n (.agg #[c0,c1,c2,c3,c4,c5,c6]) ft):=mkHid (hW5▸NX.out.fr (row_fr _ _ _) (fun b hb=>by have:=hltx.out b hb; simpa using this))
    have R5:Hid (W5.heap[V1.heap.size]?=some (.cells #[c0,c1,c2,c3,c4,c5,c6] 34 (0,0))):=mkHid (hW5▸setRow_heap _ _ _ _ 34 (0,0) R3.out)
    obtain ⟨u0,u1,u2,u3,u4,u5,u6⟩:=cells7 R5.out
    rw [hW5]
    go_wp2_with (refine wpList_store_row rfl 34 _ _ rfl V.heap.size #[c0,c1,c2,c3,c4,c5,c6] rfl rfl 34 _ S5.out.res (by kernel_rfl) rfl (node_all N5.out) ?_)
    exact S5.out.endN Tryz.results167 rfl N5.out A3.out
def RB (B:Bool) (w:World) (e:Ending) (w':World):Prop:=e=.returned (.bool B)∧Bl w w'
theorem rankOf_ok (n:Nt) (b off:Nat) (w:World) (h:NtM w n b off):Calls Tryz.prog 143 #[.pointer (some ⟨b,off,none⟩)] w fun e w'=>e=.returned (.int .i64 (rankN n))∧Bl w w':=by
 obtain ⟨sn,sk,hn⟩:=h.nod
 have c0:=hn.c0
 have c1:=hn.c1
 have hsz:(ba n.text).size=n.text.length:=by rw [← lst_len,lst_ba]
 have HR:=mkHid (fun V=>rankS_ok (ba n.text) V (by have:=hn.t; omega))
 rw [lst_ba] at HR
 have hE:Hid (rankN n=if n.kind=9 then rankS n.text else if n.kind=8∨n.kind=10 then 4 else 0):=mkHid rfl
 generalize n.kind=k at *
 generalize n.text=t at *
 generalize rankN n=R at *
 clear h hn hsz
 by_cases h9:k=9
 ·have q9:(k == 9)=true:=beq_iff_eq.2 h9
  have e:Hid (R=rankS t):=mkHid (by rw [hE.out,if_pos h9])
  clear h9 hE
  go_enter Tryz.func143,Tryz.ntmps143
  go_wp2_with (go_at_call 101; refine (HR.out _).mono ?_; rintro e w1 ⟨rfl,b1⟩)
  go_ret
  exact ⟨by rw [e.out]; rfl,b1⟩
 ·have q9:(k == 9)=false:=beq_eq_false_iff_ne.2 h9
  by_cases h8:k=8
  ·have q8:(k == 8)=true:=beq_iff_eq.2 h8
   have e:Hid (R=4):=mkHid (by rw [hE.out,if_neg h9,if_pos (Or.inl h8)])
   clear h9 hE h8
   go_enter Tryz.func143,Tryz.ntmps143
   go_wp2_with fail
   go_ret
   exact ⟨by rw [e.out]; rfl,Bl.refl _⟩
  ·have q8:(k == 8)=false:=beq_eq_false_iff_ne.2 h8
   by_cases h10:k=10
   ·have q10:(k == 10)=true:=beq_iff_eq.2 h10
    have e:Hid (R=4):=mkHid (by rw [hE.out,if_neg h9,if_pos (Or.inr h10)])
    clear h9 hE h8 h10
    go_enter Tryz.func143,Tryz.ntmps143
    go_wp2_with fail
    go_ret
    exact ⟨by rw [e.out]; rfl,Bl.refl _⟩
   ·have q10:(k == 10)=false:=beq_eq_false_iff_ne.2 h10
    have e:Hid (R=0):=mkHid (by rw [hE.out,if_neg h9,if_neg (by omega)])
    clear h9 hE h8 h10
    go_enter Tryz.func143,Tryz.ntmps143
    go_wp2_with fail
    go_ret
    exact ⟨by rw [e.out]; rfl,Bl.refl _⟩
theorem rankN_le (n:Nt):rankN n≤4:=by
 unfold rankN rankS
 (repeat' split); all_goals omega
theorem mostRecv_ok (k:Nat) (hk:k≤4) (w:World):Calls Tryz.prog 124 #[.int .i64 k] w fun e w'=>e=.returned (.int .i64 ((min k 2:Nat):Int))∧w'=w:=by
 have e:Hid (((min k 2:Nat):Int)=min (k:Int) 2):=mkHid (by omega)
 by_cases h:(k:Int)≤2
 ·have e2:Hid (((min k 2:Nat):Int)=k):=mkHid (by omega)
  go_enter Tryz.func124,Tryz.ntmps124
  go_wp2_with fail
  go_ret
  exact ⟨by first | (rw [e.out]; rfl) | (rw [e2.out]; rfl),rfl⟩
 ·have e2:Hid (((min k 2:Nat):Int)=2):=mkHid (by omega)
  go_enter Tryz.func124,Tryz.ntmps124
  go_wp2_with fail
  go_ret
  exact ⟨by first | (rw [e.out]; rfl) | (rw [e2.out]; rfl),rfl⟩
def CE (n:Nt):Prop:=∀ (b off o:Nat) (w:World),o≤24→Env w→NtM w n b off→Calls Tryz.prog 65 #[.pointer (some ⟨b,off,none⟩),.int .i64 o] w (RB (exprB n o) w)
theorem isOperand_ok (n:Nt) (hX:CE n) (b off most o:Nat) (w:World) (ho:o≤24) (hm:most≤4) (hE:Env w) (h:NtM w n b off):Calls Tryz.prog 123 #[.pointer (some ⟨b,off,none⟩),.int .i64 most,.int .i64 o] w (RB (operB n most o) w):=by
 have HR:=mkHid (rankOf_ok n b off w h)
 have hr:=rankN_le n
 have HX:=mkHid (fun o' V (ho':o'≤24) (bl:Bl w V)=>hX b off o' V ho' (hE.mono bl) (h.keep bl))
 have hB:Hid (operB n most o=(decide (opnN n most o≤24) && exprB n (opnN n most o))):=mkHid rfl
 have hO:Hid (opnN n most o=if most < rankN n then o+1 else o):=mkHid rfl
 generalize rankN n=R at *
 generalize opnN n most o=O at *
 generalize operB n most o=BB at *
 clear hX hE h
 by_cases hl:most < R
 ·have q:(most:Int) < R:=by omega
  have eO:O=o+1:=by rw [hO.out,if_pos hl]
  subst eO
  by_cases h24:o+1≤24
  ·have HX1:=mkHid (fun V bl=>HX.out (o+1) V h24 bl)
   have q24:(o:Int)+1≤24:=by omega
   have d24:=mkHid (decide_eq_true h24)
   have hw:IntKind.i64.wrap ((o:Int)+1)=(o:Int)+1:=wrap_id _ (by omega) (by omega)
   have hc:((o+1:Nat):Int)=(o:Int)+1:=by omega
   rw [hc] at HX1
   clear HX hl h24 hO
   generalize exprB n (o+1)=E at *
   go_enter Tryz.func123,Tryz.ntmps123
   go_wp2_with (first
    | (go_at_call 143; refine HR.out.mono ?_; rintro e w1 ⟨rfl,b1⟩)
    | (go_at_call 65; refine (HX1.out _ b1).mono ?_; rintro e w2 ⟨rfl,b2⟩))
   go_ret
   exact ⟨by rw [hB.out,d24.out]; rfl,b1.trans b2⟩
  ·have q24:¬ (o:Int)+1≤24:=by omega
   have d24:=mkHid (decide_eq_false h24)
   have hw:IntKind.i64.wrap ((o:Int)+1)=(o:Int)+1:=wrap_id _ (by omega) (by omega)
   clear HX hl h24 hO
   go_enter Tryz.func123,Tryz.ntmps123
   go_wp2_with (go_at_call 143; refine HR.out.mono ?_; rintro e w1 ⟨rfl,b1⟩)
   go_ret
   exact ⟨by rw [hB.out,d24.out]; rfl,b1⟩
 ·have q:¬ (most:Int) < R:=by omega
  have eO:O=o:=by rw [hO.out,if_neg hl]
  subst eO
  have HX1:=mkHid (fun V bl=>HX.out O V ho bl)
  have q24:(O:Int)≤24:=by omega
  have d24:=mkHid (decide_eq_true ho)
  clear HX hl hO
  generalize exprB n O=E at *
  go_enter Tryz.func123,Tryz.ntmps123
  go_wp2_with (first
   | (go_at_call 143; refine HR.out.mono ?_; rintro e w1 ⟨rfl,b1⟩)
   | (go_at_call 65; refine (HX1.out _ b1).mono ?_; rintro e w2 ⟨rfl,b2⟩))
  go_ret
  exact ⟨by rw [hB.out,d24.out]; rfl,b1.trans b2⟩
theorem isReceiver_ok (n:Nt) (hX:CE n) (b off rank o:Nat) (w:World) (ho:o≤24) (hm:rank≤4) (hE:Env w) (h:NtM w n b off):Calls Tryz.prog 100 #[.pointer (some ⟨b,off,none⟩),.int .i64 rank,.int .i64 o] w (RB (recvB n rank o) w):=by
 have HK:=mkHid (isKind_ok n b off 7 (by omega) (by omega) w hE.knd h)
 have HM:=mkHid (mostRecv_ok rank hm)
 have HO:=mkHid (fun V (bl:Bl w V)=>isOperand_ok n hX b off (min rank 2) o V ho (by omega) (hE.mono bl) (h.keep bl))
 have hB:Hid (recvB n rank o=(kindB n 7 || operB n (min rank 2) o)):=mkHid rfl
 generalize recvB n rank o=BB at *
 generalize operB n (min rank 2) o=OO at *
 generalize min rank 2=MM at *
 generalize kindB n 7=KK at *
 clear hX hE h
 cases KK with
 | true =>
  go_enter Tryz.func100,Tryz.ntmps100
  go_wp2_with (go_at_call 64; refine HK.out.mono ?_; rintro e w1 ⟨rfl,b1⟩)
  go_ret
  exact ⟨by rw [hB.out]; rfl,b1⟩
 | false =>
  go_enter Tryz.func100,Tryz.ntmps100
  go_wp2_with (first
   | (go_at_call 64; refine HK.out.mono ?_; rintro e w1 ⟨rfl,b1⟩)
   | (go_at_call 124; refine (HM.out _).mono ?_; rintro e w2 ⟨rfl,h2⟩; have h3:=h2.symm; subst h3)
   | (go_at_call 123; refine (HO.out _ b1).mono ?_; rintro e w3 ⟨rfl,b3⟩))
  go_ret
  exact ⟨by rw [hB.out]; rfl,b1.trans b3⟩
def tkV (t:Bs):Array Value:=match takesB t with
 | some c=>#[.int .i64 (c:Nat),.bool true]
 | none=>#[.int .i64 0,.bool false]
def CT:Prop:=∀ (t:Bs) (w:World),t.length≤268435456→Calls Tryz.prog 35 #[.string (ba t)] w fun e w'=>e=.returned (.tuple (tkV t))∧Bl w w'
theorem takes_rank {t:Bs} {c:Nat} (h:takesB t=some c):1≤rankS t∧rankS t≤3∧c≤8:=by
 unfold takesB at h
 split at h
 ·cases h
 split at h
 ·cases h
 rename_i h1 h2
 split at h
 ·injection h with h
  subst h
  unfold rankS
  rw [if_neg (by omega)]
  refine ⟨?_,?_,by omega⟩ <;> (repeat' split) <;> omega
 ·cases h
theorem RdN.at_ {w:World} {p:Option Addr} {n c:Nat} {l:List Nt} (h:RdN w (.slice p n c) l) (i:Nat) (hi:i < l.length):∃ kb ko,p=some ⟨kb,ko,none⟩∧NtM w (l.getD i noNt) kb (ko+i * 7):=by
 obtain ⟨p',c',kb,ko,e,_,_,hp,hs⟩:=h
 injection e with e1 e2 e3
 exact ⟨kb,ko,by rw [e1]; exact hp (by omega),hs.get i hi⟩
theorem RdN.slc {w:World} {v:Value} {l:List Nt} (h:RdN w v l):∃ p c,v=.slice p l.length c∧l.length≤c∧l.length≤268435456:=by
 obtain ⟨p',c',kb,ko,e,h1,h2,hp,hs⟩:=h
 exact ⟨p',c',e,h1,h2⟩
theorem isMessage_ok (hT:CT) (t:Bs) (v:Value) (l:List Nt) (o:Nat) (w:World) (ho:o≤24) (ht:t.length≤268435456) (hE:Env w) (hr:RdN w v l) (hX:∀ i,i < l.length→CE (l.getD i noNt)):Calls Tryz.prog 99 #[.string (ba t),v,.int .i64 o] w (RB (msgB t l o) w):=by
 obtain ⟨p,c,rfl,hc1,hc2⟩:=hr.slc
 have hsz:(ba t).size=t.length:=by rw [← lst_len,lst_ba]
 have HK:=mkHid (hT t w ht)
 have HS:=mkHid (fun V=>rankS_ok (ba t) V (by omega))
 rw [lst_ba] at HS
 unfold tkV at HK
 cases hk:takesB t with
 | none =>
  rw [hk] at HK
  have hB:Hid (msgB t l o=false):=mkHid (by unfold msgB; rw [hk]; rfl)
  clear hr hX hE hT ht hk
  go_enter Tryz.func99,Tryz.ntmps99
  go_wp2_with (go_at_call 35; refine HK.out.mono ?_; rintro e w1 ⟨rfl,b1⟩)
  go_ret
  exact ⟨by rw [hB.out]; rfl,b1⟩
 | some m =>
  rw [hk] at HK
  dsimp only at HK
  obtain ⟨k1,k2,k3⟩:=takes_rank hk
  by_cases hm:m=l.length
  rotate_left
  ·have hB:Hid (msgB t l o=false):=mkHid (by unfold msgB; rw [hk,decide_eq_false (by intro h; injection h with h; exact hm h)]; rfl)
   have q:((l.length:Int) != m)=true:=by rw [bne_iff_ne]; omega
   clear hr hX hE hT ht hk hm
   go_enter Tryz.func99,Tryz.ntmps99
   go_wp2_with (go_at_call 35; refine HK.out.mono ?_; rintro e w1 ⟨rfl,b1⟩)
   go_ret
   exact ⟨by rw [hB.out]; rfl,b1⟩
  subst hm
  have HB:Hid (msgB t l o=l.all (fun n=>operB n (rankS t - 1) o)):=mkHid (by unfold msgB; rw [hk,decide_eq_true rfl,opersB_all]; rfl)
  have HA:=mkHid (all_getD noNt (fun n=>operB n (rankS t - 1) o) l)
  have HBd:=mkHid (all_bad noNt (fun n=>operB n (rankS t - 1) o) l)
  have HM:=mkHid (most_arg (rankS t) ⟨k1,k2⟩)
  have HO:=mkHid (fun i (hi:i < l.length) (V:World) (bl:Bl w V) kb ko (hn:NtM V (l.getD i noNt) kb (ko+i * 7))=>isOperand_ok (l.getD i noNt) (hX i hi) kb (ko+i * 7) (rankS t - 1) o V ho (by omega) (hE.mono bl) hn)
  have HR:=mkHid hr
  generalize rankS t - 1=mo at *
  generalize rankS t=rk at *
  generalize msgB t l o=BB at *
  obtain ⟨n,hn⟩:∃ n,l.length=n:=⟨_,rfl⟩
  rw [hn] at hc1 hc2 k3 HK HA HBd HO
  rw [hn]
  have HN:=mkHid hn
  clear hr hX hE hT ht hk hn
  go_enter Tryz.func99,Tryz.ntmps99
  go_wp2_with (first
   | (go_at_call 35; refine HK.out.mono ?_; rintro e w1 ⟨rfl,b1⟩)
   | (go_at_call 101; refine (HS.out _).mono ?_; rintro e w2 ⟨rfl,b2⟩)
   | (go_at_call 122; refine (HM.out _).mono ?_; rintro e w3 ⟨rfl,h2⟩; have h3:=h2.symm; subst h3))
  have BB1:=mkHid (b1.trans b2)
  go_loopw [29] (fun q wr=>∃ i:Nat,i≤n∧q=.int .i64 i∧Hid (∀ j,j < i→operB (l.getD j noNt) mo o=true)∧Hid (Bl w wr)) (fun q _=>n - (intOf q).toNat)
  case atStart=>exact ⟨0,Nat.zero_le _,rfl,(fun j hj=>by omega),BB1.out⟩
  case round =>
   obtain ⟨i,hi,rfl,hok,hbl⟩:=hrel
   by_cases hin:i < n
   ·have hii:(i:Int) < n:=by omega
    obtain ⟨kb,ko,hp,hnd⟩:=(HR.out.keep hbl.out).at_ i (by rw [HN.out]; exact hin)
    subst hp
    have HC:=mkHid (HO.out i hin _ hbl.out kb ko hnd)
    have hJ:Hid (∀ B,operB (l.getD i noNt) mo o=B→(B=true→∀ j,j < i+1→operB (l.getD j noNt) mo o=true)∧(B=false→BB=false)):=mkHid (fun B hB=>⟨fun h j hj=>by
     by_cases he:j=i
     ·rw [he,hB,h]
     ·exact hok.out j (by omega),fun h=>by rw [HB.out]; exact HBd.out i hin (by rw [hB,h])⟩)
    generalize hG:operB (l.getD i noNt) mo o=B at *
    have hJ2:=mkHid (hJ.out B rfl)
    clear hJ hG hok HA HBd HO hnd HK HS HM
    cases B with
    | true =>
     go_wp2_with (go_at_call 123; refine HC.out.mono ?_; rintro e w1 ⟨rfl,b1⟩)
     go_roundw
     case rel=>exact ⟨i+1,by omega,by go_num,hJ2.out.1 (by simp),mkHid (hbl.out.trans b1)⟩
     case measure=>simp [intOf]; omega
    | false =>
     go_wp2_with (go_at_call 123; refine HC.out.mono ?_; rintro e w1 ⟨rfl,b1⟩)
     go_ret
     exact ⟨by rw [hJ2.out.2 (by simp)]; rfl,hbl.out.trans b1⟩
   ·have hie:¬ (i:Int) < n:=by omega
    have hE:Hid (BB=true):=mkHid (by rw [HB.out]; exact HA.out.2 fun j hj=>hok.out j (by omega))
    clear HA HBd HO HR HK HS HM
    go_wp2_with fail
    go_ret
    exact ⟨by rw [hE.out]; rfl,hbl.out⟩
theorem isBody_ok (v:Value) (l:List Nt) (o:Nat) (w:World) (ho:o≤24) (hE:Env w) (hr:RdN w v l) (hX:∀ i,i < l.length→CE (l.getD i noNt)) (hX2:∀ i,i < l.length→0 < (l.getD i noNt).kids.length→CE ((l.getD i noNt).kids.getD 0 noNt)):Calls Tryz.prog 37 #[v,.int .i64 o] w (RB (bodyB l o) w):=by
 obtain ⟨p,c,rfl,hc1,hc2⟩:=hr.slc
 have HA:=mkHid (bodyB_true l o)
 have HBd:Hid (∀ j,j < l.length→stmB (l.getD j noNt) (decide (j+1=l.length)) o=false→bodyB l o=false):=mkHid (fun j hj h=>by
  cases e:bodyB l o with
  | false=>rfl
  | true=>rw [(bodyB_true l o).1 e j hj] at h; cases h)
 have HR:=mkHid hr
 have HX:=mkHid (fun i (hi:i < l.length) (V:World) (bl:Bl w V) kb ko (hn:NtM V (l.getD i noNt) kb ko)=>hX i hi kb ko o V ho (hE.mono bl) hn)
 have HX2:=mkHid (fun i (hi:i < l.length) (V:World) (bl:Bl w V) (h0:0 < (l.getD i noNt).kids.length) kb ko (hn:NtM V ((l.getD i noNt).kids.getD 0 noNt) kb ko)=>hX2 i hi h0 kb ko o V ho (hE.mono bl) hn)
 have HK:=mkHid (fun i (hi:i < l.length) (V:World) (bl:Bl w V) kb ko (hn:NtM V (l.getD i noNt) kb ko)=>isKind_ok (l.getD i noNt) kb ko 13 (by omega) (by omega) V (hE.mono bl).knd hn)
 generalize bodyB l o=BB at *
 obtain ⟨n,hn⟩:∃ n,l.length=n:=⟨_,rfl⟩
 rw [hn] at hc1 hc2 HA HBd HX HX2 HK
 rw [hn]
 have HN:=mkHid hn
 clear hr hX hX2 hE hn
 have hw0:IntKind.i64.wrap ((n:Int) - 1)=(n:Int) - 1:=wrap_id _ (by omega) (by omega)
 go_enter Tryz.func37,Tryz.ntmps37
 go_wp2_with fail
 go_loopw [9] (fun q wr=>∃ i:Nat,i≤n∧q=.int .i64 i∧Hid (∀ j,j < i→stmB (l.getD j noNt) (decide (j+1=n)) o=true)∧Hid (Bl w wr)) (fun q _=>n - (intOf q).toNat)
 case atStart=>exact ⟨0,Nat.zero_le _,rfl,(fun j hj=>by omega),Bl.refl _⟩
 case round =>
  obtain ⟨i,hi,rfl,hok,hbl⟩:=hrel
  by_cases hin:i < n
  rotate_left
  ·have hie:¬ (i:Int) < n:=by omega
   have hE:Hid (BB=true):=mkHid (HA.out.2 fun j hj=>hok.out j (by omega))
   clear HA HBd HX HX2 HK HR
   go_wp2_with fail
   go_ret
   exact ⟨by rw [hE.out]; rfl,hbl.out⟩
  have hii:(i:Int) < n:=by omega
  obtain ⟨kb,ko,hp,hnd⟩:=(HR.out.keep hbl.out).at_ i (by rw [HN.out]; exact hin)
  subst hp
  obtain ⟨sn,sk,nd⟩:=hnd.nod
  have c0:=nd.c0
  have HND:=mkHid (fun V (bl:Bl wr V)=>nd.keep bl)
  have HKi:=mkHid (fun V (bl:Bl wr V)=>HK.out i hin V (hbl.out.trans bl) kb _ (hnd.keep bl))
  have HXi:=mkHid (fun V (bl:Bl wr V)=>HX.out i hin V (hbl.out.trans bl) kb _ (hnd.keep bl))
  have HX2i:=mkHid (fun V (bl:Bl wr V)=>HX2.out i hin V (hbl.out.trans bl))
  have hS:Hid (stmB (l.getD i noNt) (decide (i+1=n)) o=if (l.getD i noNt).kind=13∧decide (i+1=n)=true then kindB (l.getD i noNt) 13 && oneB (l.getD i noNt).kids o else exprB (l.getD i noNt) o):=mkHid rfl
  have hJ:Hid (∀ B,stmB (l.getD i noNt) (decide (i+1=n)) o=B→(B=true→∀ j,j < i+1→stmB (l.getD j noNt) (decide (j+1=n)) o=true)∧(B=false→BB=false)):=mkHid (fun B hB=>⟨fun h j hj=>by
   by_cases he:j=i
   ·rw [he,hB,h]
   ·exact hok.out j (by omega),fun h=>HBd.out i hin (by rw [hB,h])⟩)
  generalize hG:stmB (l.getD i noNt) (decide (i+1=n)) o=B at *
  have hJ2:=mkHid (hJ.out B rfl)
  generalize l.getD i noNt=d at *
  have hO:=mkHid (oneB_is d.kids o)
  clear hJ hG hok HA HBd HX HX2 HK hnd nd HR
  have hsub:decide ((i:Int)=(n:Int) - 1)=decide (i+1=n):=by rw [Bool.eq_iff_iff]; simp; omega
  by_cases h13:d.kind=13∧i+1=n
  ·have q13:(d.kind == 13)=true:=beq_iff_eq.2 h13.1
   have ql:((i:Int) == (n:Int) - 1)=true:=beq_iff_eq.2 (by omega)
   rw [if_pos ⟨h13.1,decide_eq_true h13.2⟩] at hS
   have HK1:=mkHid (HKi.out _ (Bl.refl _))
   generalize kindB d 13=K at *
   clear h13 hsub HKi HXi
   cases K with
   | false =>
    have eB:Hid (B=false):=mkHid (by rw [hS.out]; rfl)
    go_wp2_with (go_at_call 64; refine HK1.out.mono ?_; rintro e w1 ⟨rfl,b1⟩)
    go_ret
    exact ⟨by rw [hJ2.out.2 eB.out]; rfl,hbl.out.trans b1⟩
   | true =>
    obtain ⟨pk,ck,ek,_,_⟩:=(HND.out _ (Bl.refl _)).rn.slc
    subst ek
    by_cases h1:d.kids.length=1
    ·have q1:((d.kids.length:Int) != 1)=false:=by rw [bne_eq_false_iff_eq]; omega
     have HX3:=mkHid (fun V bl=>HX2i.out V bl (by omega))
     have eB:Hid (B=exprB (d.kids.getD 0 noNt) o):=mkHid (by rw [hS.out,hO.out,decide_eq_true h1]; rfl)
     generalize exprB (d.kids.getD 0 noNt) o=E at *
     clear HX2i hS hO
     obtain ⟨kb2,ko2,hp2,hn2⟩:=(HND.out _ (Bl.refl _)).rn.at_ 0 (by omega)
     subst hp2
     have HX4:=mkHid (fun V bl=>HX3.out V bl kb2 (ko2+0 * 7) (hn2.keep bl))
     rw [show ko2+0 * 7=ko2 by omega] at HX4
     have i0:(0:Int) < (d.kids.length:Int):=by omega
     clear HX3 hn2
     generalize hdl:d.kids.length=dl at *
     subst h1
     have eE:Hid (B=E):=eB
     cases E with
     | true =>
      go_wp2_with (first
       | (go_at_call 64; refine HK1.out.mono ?_; rintro e w1 ⟨rfl,b1⟩; have c6:=(HND.out _ b1).c6)
       | (go_at_call 65; refine (HX4.out _ b1).mono ?_; rintro e w2 ⟨rfl,b2⟩))
      go_roundw
      case rel=>exact ⟨i+1,by omega,by go_num,hJ2.out.1 eE.out,mkHid ((hbl.out.trans b1).trans b2)⟩
      case measure=>simp [intOf]; omega
     | false =>
      go_wp2_with (first
       | (go_at_call 64; refine HK1.out.mono ?_; rintro e w1 ⟨rfl,b1⟩; have c6:=(HND.out _ b1).c6)
       | (go_at_call 65; refine (HX4.out _ b1).mono ?_; rintro e w2 ⟨rfl,b2⟩))
      go_ret
      exact ⟨by rw [hJ2.out.2 eE.out]; rfl,(hbl.out.trans b1).trans b2⟩
    ·have q1:((d.kids.length:Int) != 1)=true:=by rw [bne_iff_ne]; omega
     have eB:Hid (B=false):=mkHid (by rw [hS.out,hO.out,decide_eq_false h1]; rfl)
     clear HX2i hS hO h1
     go_wp2_with (go_at_call 64; refine HK1.out.mono ?_; rintro e w1 ⟨rfl,b1⟩; have c6:=(HND.out _ b1).c6)
     go_ret
     exact ⟨by rw [hJ2.out.2 eB.out]; rfl,hbl.out.trans b1⟩
  ·have HX1:=mkHid (HXi.out _ (Bl.refl _))
   rw [if_neg (fun h=>h13 ⟨h.1,of_decide_eq_true h.2⟩)] at hS
   generalize exprB d o=E at *
   clear HKi HX2i HXi hO hsub
   have hq:Hid ((d.kind == 13)=false∨((d.kind == 13)=true∧((i:Int) == (n:Int) - 1)=false)):=mkHid (by
    by_cases hk:d.kind=13
    ·refine Or.inr ⟨beq_iff_eq.2 hk,beq_eq_false_iff_ne.2 ?_⟩
     intro hh
     exact h13 ⟨hk,by omega⟩
    ·exact Or.inl (beq_eq_false_iff_ne.2 hk))
   clear h13
   have eB:Hid (B=E):=hS
   rcases hq.out with q13 | ⟨q13,ql⟩
   ·cases E with
    | true =>
     go_wp2_with (go_at_call 65; refine HX1.out.mono ?_; rintro e w2 ⟨rfl,b2⟩)
     go_roundw
     case rel=>exact ⟨i+1,by omega,by go_num,hJ2.out.1 eB.out,mkHid (hbl.out.trans b2)⟩
     case measure=>simp [intOf]; omega
    | false =>
     go_wp2_with (go_at_call 65; refine HX1.out.mono ?_; rintro e w2 ⟨rfl,b2⟩)
     go_ret
     exact ⟨by rw [hJ2.out.2 eB.out]; rfl,hbl.out.trans b2⟩
   ·cases E with
    | true =>
     go_wp2_with (go_at_call 65; refine HX1.out.mono ?_; rintro e w2 ⟨rfl,b2⟩)
     go_roundw
     case rel=>exact ⟨i+1,by omega,by go_num,hJ2.out.1 eB.out,mkHid (hbl.out.trans b2)⟩
     case measure=>simp [intOf]; omega
    | false =>
     go_wp2_with (go_at_call 65; refine HX1.out.mono ?_; rintro e w2 ⟨rfl,b2⟩)
     go_ret
     exact ⟨by rw [hJ2.out.2 eB.out]; rfl,hbl.out.trans b2⟩
end Go.Proofs.YtfhkhmgodkheaaaGreatDoor
