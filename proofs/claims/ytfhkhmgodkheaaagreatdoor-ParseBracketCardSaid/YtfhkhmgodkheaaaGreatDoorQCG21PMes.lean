import Derived.Test.YtfhkhmgodkheaaaGreatDoorQCPWdN
set_option linter.unusedSimpArgs false
set_option linter.unusedVariables false
set_option maxRecDepth 1000000
set_option maxHeartbeats 16000000
namespace Go.Proofs.YtfhkhmgodkheaaaGreatDoor
open Go.RowKit Go.Maps
theorem twoH {P:Program} {md:Region.Mode} {ops:Array Oper} {Q:Exit→Act→World→Prop} {S:World→Prop} {i j:Nat} {oi oj:Oper} {fuel:Nat} {listed:Array Bool} {a:Act} {w:World} (hr:Region.ready md ops listed=[i,j]) (hi:ops[i]?=some oi) (hj:ops[j]?=some oj)
  (h1:∀ K':Act→World→Prop,Hid (∀ a w,S w→(S w→wpAnyH P md ops Q S fuel (listed.setIfInBounds i true) a w)→K' a w)→if Region.wanted oi (yielded ops a.tmps)=true then Oper.wp P oi a w K' Q else K' (a.put oi.dst undef) w)
  (h2:∀ K':Act→World→Prop,Hid (∀ a w,S w→(S w→wpAnyH P md ops Q S fuel (listed.setIfInBounds j true) a w)→K' a w)→if Region.wanted oj (yielded ops a.tmps)=true then Oper.wp P oj a w K' Q else K' (a.put oj.dst undef) w):wpAnyH P md ops Q S (fuel+1) listed a w:=by
 refine ⟨fun h0=>(by rw [hr] at h0; cases h0),fun k hk=>?_⟩
 rw [hr] at hk
 have e:k=i∨k=j:=by simpa using hk
 rcases e with e | e
 ·subst e
  exact wpOp_step hi (fun K' hK=>h1 K' (fun a w hS hW=>hK a w ⟨hS,hW hS⟩))
 ·subst e
  exact wpOp_step hj (fun K' hK=>h2 K' (fun a w hS hW=>hK a w ⟨hS,hW hS⟩))
def PostS (P g c:Nat) (ts:Ts) (w:World) (r:Rs (Nd × Bool)) (e:Ending) (w':World):Prop:=Fr [P] w w'∧match r with
 | .ok x s'=>∃ c0 c1 c2 c3 c4 c5 c6 ft,e=.returned (.tuple #[.agg #[c0,c1,c2,c3,c4,c5,c6],.bool x.2])∧NdM w' x.1 (.agg #[c0,c1,c2,c3,c4,c5,c6]) ft∧Apt w.heap.size ft∧Pr w' P g c ts s'
 | .bad x=>e=.panicked [{ v:=jl x,recovered:=false }]
theorem posts_bad {P g c:Nat} {ts:Ts} {w w':World} {x:Tok × Nat} {e:Ending} (h:PostS P g c ts w (.bad x) e w'):e=.panicked [{ v:=jl x,recovered:=false }]∧Fr [P] w w':=⟨h.2,h.1⟩
theorem posts_ok {P g c:Nat} {ts:Ts} {w w':World} {n:Nd} {b:Bool} {s':Ps} {e:Ending} (h:PostS P g c ts w (.ok (n,b) s') e w'):∃ c0 c1 c2 c3 c4 c5 c6 ft,e=.returned (.tuple #[.agg #[c0,c1,c2,c3,c4,c5,c6],.bool b])∧NdM w' n (.agg #[c0,c1,c2,c3,c4,c5,c6]) ft∧Apt w.heap.size ft∧Pr w' P g c ts s'∧Fr [P] w w':=by
 obtain ⟨f,c0,c1,c2,c3,c4,c5,c6,ft,h1,h2,h3,h4⟩:=h
 exact ⟨c0,c1,c2,c3,c4,c5,c6,ft,h1,h2,h3,h4,f⟩
def CS3 (ts:Ts) (f:Nat):Prop:=∀ most P g c s w r,most≤3→Pr w P g c ts s→Okq ts s→zm ts f most s=some r→Calls Tryz.prog 153 #[.pointer (some ⟨P,0,none⟩),.int .i64 most] w (PostS P g c ts w r)
theorem most_arg (k:Nat) (hk:1≤k∧k≤3) (w:World):Calls Tryz.prog 122 #[.int .i64 k] w fun e w'=>e=.returned (.int .i64 ((k - 1:Nat):Int))∧w'=w:=by
 have h1:(k:Int) - 1=((k - 1:Nat):Int):=by omega
 obtain ⟨j,hj⟩:∃ j:Nat,k - 1=j:=⟨_,rfl⟩
 have hk3:k=j+1:=by omega
 subst hk3
 rw [hj]
 go_enter Tryz.func122,Tryz.ntmps122
 go_wp2_with fail
 go_ret
 exact ⟨by congr 2,rfl⟩
theorem clo167_ok (ts:Ts) (f:Nat) (hS:CS3 ts f) (P g c bp k:Nat) (hk2:1≤k∧k≤3) (s:Ps) (V:World) (r:Rs Nd) (h:Pr V P g c ts s) (hok:Okq ts s) (hb:Box V bp (.pointer (some ⟨P,0,none⟩)) 62) (hbP:P≠bp) (hr:qF (zm ts f (k - 1) s) (fun x s1=>some (.ok x.1 s1))=some r) :
  Calls Tryz.prog 167 #[.int .i64 k,.pointer (some ⟨bp,0,none⟩)] V (PostN P g c ts V r):=by
 obtain ⟨V1,hV1⟩:∃ X,V.alloc (.cells #[.int .i64 0,.string ⟨#[]⟩,.int .i64 0,.int .i64 0,.slice none 0 0,.slice none 0 0,.slice none 0 0] 34)=X:=⟨_,rfl⟩
 have S1:Hid (Sw V V1.drew P g c ts s):=qd (hV1▸(Sw.start h hok).drew)
 have B1:Hid (Box V1.drew bp (.pointer (some ⟨P,0,none⟩)) 62):=qd ((hb.bl (hV1▸Bl.alloc V _)).bl (qV V1))
 have L1:Hid (V.heap.size < V1.heap.size):=qd S1.out.size
 cases e1:zm ts f (k - 1) s with
 | none=>rw [e1] at hr; cases hr
 | some r1 =>
  rw [e1] at hr;have HS:=qd (fun X p=>hS (k - 1) P g c s X r1 (by omega) p hok e1)
  clear h hok hb hS e1
  cases r1 with
  | bad x =>
   injection hr with hr
   subst hr
   go_enter Tryz.func167,Tryz.ntmps167
   go_wp2_with fail
   refine wp_region_held_drew (S:=fun V=>V.cell? ⟨bp,0,none⟩=some (.pointer (some ⟨P,0,none⟩))) (by kernel_rfl) (B1.out.cell) (fun hHeld=>?_)
   refine tq (i:=0) ?_
   try simp only [Act.put,qq]
   refine tq (i:=1) ?_
   try simp only [Act.put,qq]
   have S2:Hid (Sw V (V1.drew.alloc (.cells #[.int .i64 0,.string ⟨#[]⟩,.int .i64 0,.int .i64 0,.slice none 0 0,.slice none 0 0,.slice none 0 0] 34)) P g c ts s):=qd (S1.out.bl (Bl.alloc V1.drew (.cells #[.int .i64 0,.string ⟨#[]⟩,.int .i64 0,.int .i64 0,.slice none 0 0,.slice none 0 0,.slice none 0 0] 34)));have B2:Hid (Box (V1.drew.alloc (.cells #[.int .i64 0,.string ⟨#[]⟩,.int .i64 0,.int .i64 0,.slice none 0 0,.slice none 0 0,.slice none 0 0] 34)) bp (.pointer (some ⟨P,0,none⟩)) 62):=qd (B1.out.bl (Bl.alloc V1.drew (.cells #[.int .i64 0,.string ⟨#[]⟩,.int .i64 0,.int .i64 0,.slice none 0 0,.slice none 0 0,.slice none 0 0] 34)));have R2:Hid ((V1.drew.alloc (.cells #[.int .i64 0,.string ⟨#[]⟩,.int .i64 0,.int .i64 0,.slice none 0 0,.slice none 0 0,.slice none 0 0] 34)).heap[V1.heap.size]?=some z7):=qd (heap_alloc_new V1.drew (.cells #[.int .i64 0,.string ⟨#[]⟩,.int .i64 0,.int .i64 0,.slice none 0 0,.slice none 0 0,.slice none 0 0] 34));refine twoH (i:=2) (j:=7) (by kernel_rfl) rfl rfl (fun K hK=>?_) (fun K hK=>?_)
   ·refine qO (by rfl) 122 Tryz.f122 Tryz.func122 (by kernel_rfl) (by kernel_rfl) _ _ rfl _ (by first | (simp [Act.eval]; done) | (simp [Act.eval]; rfl)) _ (most_arg k hk2 _) ?_
    rintro _ _ ⟨rfl,rfl⟩;refine hK.out _ _ (B1.out.cell) (fun hHeld=>?_)
    clear hK K
    try simp only [Act.put,qq]
    refine twoH (i:=3) (j:=7) (by kernel_rfl) rfl rfl (fun K hK=>?_) (fun K hK=>?_)
    ·refine qO (by rfl) 153 Tryz.f153 Tryz.func153 (by kernel_rfl) (by kernel_rfl) _ _ rfl _ (by first | (simp [Act.eval]; done) | (simp [Act.eval]; rfl)) _ (HS.out _ S1.out.pr) ?_
     intro e w3 q3;obtain ⟨rfl,f3⟩:=posts_bad q3;exact ⟨rfl,zl (qu S1.out.fr f3)⟩
    ·refine zQ (by rfl) (v:=.pointer (some ⟨V1.heap.size,0,none⟩)) (w':=V1.drew.alloc (.cells #[.int .i64 0,.string ⟨#[]⟩,.int .i64 0,.int .i64 0,.slice none 0 0,.slice none 0 0,.slice none 0 0] 34)) (by go_simp) ?_
     refine hK.out _ _ (B2.out.cell) (fun hHeld=>?_)
     clear hK K
     try simp only [Act.put,qq]
     refine qU (i:=3) (by kernel_rfl) rfl (fun K hK=>?_)
     refine qO (by rfl) 153 Tryz.f153 Tryz.func153 (by kernel_rfl) (by kernel_rfl) _ _ rfl _ (by first | (simp [Act.eval]; done) | (simp [Act.eval]; rfl)) _ (HS.out _ S2.out.pr) ?_
     intro e w3 q3;obtain ⟨rfl,f3⟩:=posts_bad q3;exact ⟨rfl,zl (qu S2.out.fr f3)⟩
   ·refine zQ (by rfl) (v:=.pointer (some ⟨V1.heap.size,0,none⟩)) (w':=V1.drew.alloc (.cells #[.int .i64 0,.string ⟨#[]⟩,.int .i64 0,.int .i64 0,.slice none 0 0,.slice none 0 0,.slice none 0 0] 34)) (by go_simp) ?_
    refine hK.out _ _ (B2.out.cell) (fun hHeld=>?_)
    clear hK K
    try simp only [Act.put,qq]
    refine qU (i:=2) (by kernel_rfl) rfl (fun K hK=>?_)
    refine qO (by rfl) 122 Tryz.f122 Tryz.func122 (by kernel_rfl) (by kernel_rfl) _ _ rfl _ (by first | (simp [Act.eval]; done) | (simp [Act.eval]; rfl)) _ (most_arg k hk2 _) ?_
    rintro _ _ ⟨rfl,rfl⟩;refine hK.out _ _ (B2.out.cell) (fun hHeld=>?_)
    clear hK K
    try simp only [Act.put,qq]
    refine qU (i:=3) (by kernel_rfl) rfl (fun K hK=>?_)
    refine qO (by rfl) 153 Tryz.f153 Tryz.func153 (by kernel_rfl) (by kernel_rfl) _ _ rfl _ (by first | (simp [Act.eval]; done) | (simp [Act.eval]; rfl)) _ (HS.out _ S2.out.pr) ?_
    intro e w3 q3;obtain ⟨rfl,f3⟩:=posts_bad q3;exact ⟨rfl,zl (qu S2.out.fr f3)⟩
  | ok x s1 =>
   obtain ⟨n,bb⟩:=x;injection hr with hr
   subst hr
   go_enter Tryz.func167,Tryz.ntmps167
   go_wp2_with fail
   refine wp_region_held_drew (S:=fun V=>V.cell? ⟨bp,0,none⟩=some (.pointer (some ⟨P,0,none⟩))) (by kernel_rfl) (B1.out.cell) (fun hHeld=>?_)
   refine tq (i:=0) ?_
   try simp only [Act.put,qq]
   refine tq (i:=1) ?_
   try simp only [Act.put,qq]
   have S2:Hid (Sw V (V1.drew.alloc (.cells #[.int .i64 0,.string ⟨#[]⟩,.int .i64 0,.int .i64 0,.slice none 0 0,.slice none 0 0,.slice none 0 0] 34)) P g c ts s):=qd (S1.out.bl (Bl.alloc V1.drew (.cells #[.int .i64 0,.string ⟨#[]⟩,.int .i64 0,.int .i64 0,.slice none 0 0,.slice none 0 0,.slice none 0 0] 34)));have B2:Hid (Box (V1.drew.alloc (.cells #[.int .i64 0,.string ⟨#[]⟩,.int .i64 0,.int .i64 0,.slice none 0 0,.slice none 0 0,.slice none 0 0] 34)) bp (.pointer (some ⟨P,0,none⟩)) 62):=qd (B1.out.bl (Bl.alloc V1.drew (.cells #[.int .i64 0,.string ⟨#[]⟩,.int .i64 0,.int .i64 0,.slice none 0 0,.slice none 0 0,.slice none 0 0] 34)));have R2:Hid ((V1.drew.alloc (.cells #[.int .i64 0,.string ⟨#[]⟩,.int .i64 0,.int .i64 0,.slice none 0 0,.slice none 0 0,.slice none 0 0] 34)).heap[V1.heap.size]?=some z7):=qd (heap_alloc_new V1.drew (.cells #[.int .i64 0,.string ⟨#[]⟩,.int .i64 0,.int .i64 0,.slice none 0 0,.slice none 0 0,.slice none 0 0] 34));refine twoH (i:=2) (j:=7) (by kernel_rfl) rfl rfl (fun K hK=>?_) (fun K hK=>?_)
   ·refine qO (by rfl) 122 Tryz.f122 Tryz.func122 (by kernel_rfl) (by kernel_rfl) _ _ rfl _ (by first | (simp [Act.eval]; done) | (simp [Act.eval]; rfl)) _ (most_arg k hk2 _) ?_
    rintro _ _ ⟨rfl,rfl⟩;refine hK.out _ _ (B1.out.cell) (fun hHeld=>?_)
    clear hK K
    try simp only [Act.put,qq]
    refine twoH (i:=3) (j:=7) (by kernel_rfl) rfl rfl (fun K hK=>?_) (fun K hK=>?_)
    ·refine qO (by rfl) 153 Tryz.f153 Tryz.func153 (by kernel_rfl) (by kernel_rfl) _ _ rfl _ (by first | (simp [Act.eval]; done) | (simp [Act.eval]; rfl)) _ (HS.out _ S1.out.pr) ?_
     intro e w3 q3;obtain ⟨c0,c1,c2,c3,c4,c5,c6,ft,rfl,n3,a3,p3,f3⟩:=posts_ok q3;have S3:=qd (S1.out.go f3 p3);have B3:=qd (B1.out.fr f3 (by simpa using fun e=>hbP e.symm))
     have N3:=qd n3;have A3:Hid (Apt (V.heap.size+1) ft):=qd (a3.mono S1.out.size);clear q3 n3 a3 p3 f3;refine hK.out _ _ (B3.out.cell) (fun hHeld=>?_)
     clear hK K
     try simp only [Act.put,qq]
     refine tq (i:=4) ?_
     try simp only [Act.put,qq]
     refine tq (i:=5) ?_
     try simp only [Act.put,qq]
     refine tq (i:=6) ?_
     try simp only [Act.put,qq]
     have SX:Hid (Sw V (w3.alloc (.cells #[.int .i64 0,.string ⟨#[]⟩,.int .i64 0,.int .i64 0,.slice none 0 0,.slice none 0 0,.slice none 0 0] 34)) P g c ts s1):=qd (S3.out.bl (Bl.alloc w3 (.cells #[.int .i64 0,.string ⟨#[]⟩,.int .i64 0,.int .i64 0,.slice none 0 0,.slice none 0 0,.slice none 0 0] 34)));have BX:Hid (Box (w3.alloc (.cells #[.int .i64 0,.string ⟨#[]⟩,.int .i64 0,.int .i64 0,.slice none 0 0,.slice none 0 0,.slice none 0 0] 34)) bp (.pointer (some ⟨P,0,none⟩)) 62):=qd (B3.out.bl (Bl.alloc w3 (.cells #[.int .i64 0,.string ⟨#[]⟩,.int .i64 0,.int .i64 0,.slice none 0 0,.slice none 0 0,.slice none 0 0] 34)));have RX:Hid ((w3.alloc (.cells #[.int .i64 0,.string ⟨#[]⟩,.int .i64 0,.int .i64 0,.slice none 0 0,.slice none 0 0,.slice none 0 0] 34)).heap[w3.heap.size]?=some z7):=qd (heap_alloc_new w3 (.cells #[.int .i64 0,.string ⟨#[]⟩,.int .i64 0,.int .i64 0,.slice none 0 0,.slice none 0 0,.slice none 0 0] 34));have NX:=qd (N3.out.fr (Fr.alloc [] w3 (.cells #[.int .i64 0,.string ⟨#[]⟩,.int .i64 0,.int .i64 0,.slice none 0 0,.slice none 0 0,.slice none 0 0] 34)) (by simp))
     have hltx:Hid (∀ b∈ft,b≠w3.heap.size):=qd (fun b hb=>by have:=N3.out.lt b hb; omega)
     have hbl2:Hid (bp < w3.heap.size):=qd B3.out.lt;refine qU (i:=7) (by kernel_rfl) rfl (fun K hK=>?_)
     refine zQ (by rfl) (v:=.pointer (some ⟨w3.heap.size,0,none⟩)) (w':=w3.alloc (.cells #[.int .i64 0,.string ⟨#[]⟩,.int .i64 0,.int .i64 0,.slice none 0 0,.slice none 0 0,.slice none 0 0] 34)) (by go_simp) ?_
     refine hK.out _ _ (BX.out.cell) (fun hHeld=>?_)
     clear hK K
     try simp only [Act.put,qq]
     refine qU (i:=8) (by kernel_rfl) rfl (fun K hK=>?_)
     refine jn (by rfl) 34 _ _ rfl w3.heap.size #[c0,c1,c2,c3,c4,c5,c6] rfl rfl 34 _ RX.out (by kernel_rfl) rfl (qL NX.out) ?_
     refine hK.out _ _ ((BX.out.fr (qG _ _ _) (by have:=hbl2.out; simp; omega)).cell) (fun hHeld=>?_)
     clear hK K
     try simp only [Act.put,qq]
     refine tq (i:=9) ?_
     try simp only [Act.put,qq]
     refine wpAnyH_done (by kernel_rfl) ?_ _
     clear hHeld;obtain ⟨W5,hW5⟩:∃ X,(w3.alloc (.cells #[.int .i64 0,.string ⟨#[]⟩,.int .i64 0,.int .i64 0,.slice none 0 0,.slice none 0 0,.slice none 0 0] 34)).setRow (w3.heap.size) #[c0,c1,c2,c3,c4,c5,c6]=X:=⟨_,rfl⟩;have S5:Hid (Sw V W5 P g c ts s1):=qd (hW5▸SX.out.row _ _ S3.out.size);have N5:Hid (NdM W5 n (.agg #[c0,c1,c2,c3,c4,c5,c6]) ft):=qd (hW5▸NX.out.fr (qG _ _ _) (fun b hb=>by have:=hltx.out b hb; simpa using this))
     have R5:Hid (W5.heap[w3.heap.size]?=some (.cells #[c0,c1,c2,c3,c4,c5,c6] 34 (0,0))):=qd (hW5▸setRow_heap _ _ _ _ 34 (0,0) RX.out);obtain ⟨u0,u1,u2,u3,u4,u5,u6⟩:=zp R5.out;rw [hW5]
     go_wp2_with (refine wpList_store_row rfl 34 _ _ rfl V.heap.size #[c0,c1,c2,c3,c4,c5,c6] rfl rfl 34 _ S5.out.res (by kernel_rfl) rfl (qL N5.out) ?_)
     exact S5.out.endN Tryz.results167 rfl N5.out A3.out
    ·refine zQ (by rfl) (v:=.pointer (some ⟨V1.heap.size,0,none⟩)) (w':=V1.drew.alloc (.cells #[.int .i64 0,.string ⟨#[]⟩,.int .i64 0,.int .i64 0,.slice none 0 0,.slice none 0 0,.slice none 0 0] 34)) (by go_simp) ?_
     refine hK.out _ _ (B2.out.cell) (fun hHeld=>?_)
     clear hK K
     try simp only [Act.put,qq]
     refine qU (i:=3) (by kernel_rfl) rfl (fun K hK=>?_)
     refine qO (by rfl) 153 Tryz.f153 Tryz.func153 (by kernel_rfl) (by kernel_rfl) _ _ rfl _ (by first | (simp [Act.eval]; done) | (simp [Act.eval]; rfl)) _ (HS.out _ S2.out.pr) ?_
     intro e w3 q3;obtain ⟨c0,c1,c2,c3,c4,c5,c6,ft,rfl,n3,a3,p3,f3⟩:=posts_ok q3;have S3:=qd (S2.out.go f3 p3);have B3:=qd (B2.out.fr f3 (by simpa using fun e=>hbP e.symm))
     have N3:=qd n3;have A3:Hid (Apt (V.heap.size+1) ft):=qd (a3.mono S2.out.size);have R3:Hid (w3.heap[V1.heap.size]?=some z7):=qd ((f3.block _ (qf R2.out) (by have:=S2.out.lp; have:=L1.out; simp; omega)).trans R2.out)
     have hlt:∀ b∈ft,b≠V1.heap.size:=fun b hb=>by have h8:=a3.lo b hb; have h9:=qf R2.out; omega
     clear q3 n3 a3 p3 f3;refine hK.out _ _ (B3.out.cell) (fun hHeld=>?_)
     clear hK K
     try simp only [Act.put,qq]
     refine tq (i:=4) ?_
     try simp only [Act.put,qq]
     refine tq (i:=5) ?_
     try simp only [Act.put,qq]
     refine tq (i:=6) ?_
     try simp only [Act.put,qq]
     have NX:=N3;have SX:=S3;have hltx:Hid (∀ b∈ft,b≠V1.heap.size):=qd hlt;have hbl2:Hid (bp < V1.heap.size):=qd B1.out.lt;refine qU (i:=8) (by kernel_rfl) rfl (fun K hK=>?_)
     refine jn (by rfl) 34 _ _ rfl V1.heap.size #[c0,c1,c2,c3,c4,c5,c6] rfl rfl 34 _ R3.out (by kernel_rfl) rfl (qL NX.out) ?_
     refine hK.out _ _ ((B3.out.fr (qG _ _ _) (by have:=hbl2.out; simp; omega)).cell) (fun hHeld=>?_)
     clear hK K
     try simp only [Act.put,qq]
     refine tq (i:=9) ?_
     try simp only [Act.put,qq]
     refine wpAnyH_done (by kernel_rfl) ?_ _
     clear hHeld;obtain ⟨W5,hW5⟩:∃ X,(w3).setRow (V1.heap.size) #[c0,c1,c2,c3,c4,c5,c6]=X:=⟨_,rfl⟩;have S5:Hid (Sw V W5 P g c ts s1):=qd (hW5▸SX.out.row _ _ L1.out);have N5:Hid (NdM W5 n (.agg #[c0,c1,c2,c3,c4,c5,c6]) ft):=qd (hW5▸NX.out.fr (qG _ _ _) (fun b hb=>by have:=hltx.out b hb; simpa using this))
     have R5:Hid (W5.heap[V1.heap.size]?=some (.cells #[c0,c1,c2,c3,c4,c5,c6] 34 (0,0))):=qd (hW5▸setRow_heap _ _ _ _ 34 (0,0) R3.out);obtain ⟨u0,u1,u2,u3,u4,u5,u6⟩:=zp R5.out;rw [hW5]
     go_wp2_with (refine wpList_store_row rfl 34 _ _ rfl V.heap.size #[c0,c1,c2,c3,c4,c5,c6] rfl rfl 34 _ S5.out.res (by kernel_rfl) rfl (qL N5.out) ?_)
     exact S5.out.endN Tryz.results167 rfl N5.out A3.out
   ·refine zQ (by rfl) (v:=.pointer (some ⟨V1.heap.size,0,none⟩)) (w':=V1.drew.alloc (.cells #[.int .i64 0,.string ⟨#[]⟩,.int .i64 0,.int .i64 0,.slice none 0 0,.slice none 0 0,.slice none 0 0] 34)) (by go_simp) ?_
    refine hK.out _ _ (B2.out.cell) (fun hHeld=>?_)
    clear hK K
    try simp only [Act.put,qq]
    refine qU (i:=2) (by kernel_rfl) rfl (fun K hK=>?_)
    refine qO (by rfl) 122 Tryz.f122 Tryz.func122 (by kernel_rfl) (by kernel_rfl) _ _ rfl _ (by first | (simp [Act.eval]; done) | (simp [Act.eval]; rfl)) _ (most_arg k hk2 _) ?_
    rintro _ _ ⟨rfl,rfl⟩;refine hK.out _ _ (B2.out.cell) (fun hHeld=>?_)
    clear hK K
    try simp only [Act.put,qq]
    refine qU (i:=3) (by kernel_rfl) rfl (fun K hK=>?_)
    refine qO (by rfl) 153 Tryz.f153 Tryz.func153 (by kernel_rfl) (by kernel_rfl) _ _ rfl _ (by first | (simp [Act.eval]; done) | (simp [Act.eval]; rfl)) _ (HS.out _ S2.out.pr) ?_
    intro e w3 q3;obtain ⟨c0,c1,c2,c3,c4,c5,c6,ft,rfl,n3,a3,p3,f3⟩:=posts_ok q3;have S3:=qd (S2.out.go f3 p3);have B3:=qd (B2.out.fr f3 (by simpa using fun e=>hbP e.symm))
    have N3:=qd n3;have A3:Hid (Apt (V.heap.size+1) ft):=qd (a3.mono S2.out.size);have R3:Hid (w3.heap[V1.heap.size]?=some z7):=qd ((f3.block _ (qf R2.out) (by have:=S2.out.lp; have:=L1.out; simp; omega)).trans R2.out)
    have hlt:∀ b∈ft,b≠V1.heap.size:=fun b hb=>by have h8:=a3.lo b hb; have h9:=qf R2.out; omega
    clear q3 n3 a3 p3 f3;refine hK.out _ _ (B3.out.cell) (fun hHeld=>?_)
    clear hK K
    try simp only [Act.put,qq]
    refine tq (i:=4) ?_
    try simp only [Act.put,qq]
    refine tq (i:=5) ?_
    try simp only [Act.put,qq]
    refine tq (i:=6) ?_
    try simp only [Act.put,qq]
    have NX:=N3;have SX:=S3;have hltx:Hid (∀ b∈ft,b≠V1.heap.size):=qd hlt;have hbl2:Hid (bp < V1.heap.size):=qd B1.out.lt;refine qU (i:=8) (by kernel_rfl) rfl (fun K hK=>?_)
    refine jn (by rfl) 34 _ _ rfl V1.heap.size #[c0,c1,c2,c3,c4,c5,c6] rfl rfl 34 _ R3.out (by kernel_rfl) rfl (qL NX.out) ?_
    refine hK.out _ _ ((B3.out.fr (qG _ _ _) (by have:=hbl2.out; simp; omega)).cell) (fun hHeld=>?_)
    clear hK K
    try simp only [Act.put,qq]
    refine tq (i:=9) ?_
    try simp only [Act.put,qq]
    refine wpAnyH_done (by kernel_rfl) ?_ _
    clear hHeld;obtain ⟨W5,hW5⟩:∃ X,(w3).setRow (V1.heap.size) #[c0,c1,c2,c3,c4,c5,c6]=X:=⟨_,rfl⟩;have S5:Hid (Sw V W5 P g c ts s1):=qd (hW5▸SX.out.row _ _ L1.out);have N5:Hid (NdM W5 n (.agg #[c0,c1,c2,c3,c4,c5,c6]) ft):=qd (hW5▸NX.out.fr (qG _ _ _) (fun b hb=>by have:=hltx.out b hb; simpa using this))
    have R5:Hid (W5.heap[V1.heap.size]?=some (.cells #[c0,c1,c2,c3,c4,c5,c6] 34 (0,0))):=qd (hW5▸setRow_heap _ _ _ _ 34 (0,0) R3.out);obtain ⟨u0,u1,u2,u3,u4,u5,u6⟩:=zp R5.out;rw [hW5]
    go_wp2_with (refine wpList_store_row rfl 34 _ _ rfl V.heap.size #[c0,c1,c2,c3,c4,c5,c6] rfl rfl 34 _ S5.out.res (by kernel_rfl) rfl (qL N5.out) ?_)
    exact S5.out.endN Tryz.results167 rfl N5.out A3.out
theorem message_ok (ts:Ts) (f:Nat) (hS:CS3 ts f):CN 156 ts (qM ts (f+1)):=by
 intro P g c s w r h hok hr
 have hbp:P≠w.heap.size:=by have:=h.lt; omega
 obtain ⟨w0,hW0⟩:∃ X,w.alloc (.cells #[.pointer (some ⟨P,0,none⟩)] 62)=X:=⟨_,rfl⟩
 have b0:Bl w w0:=hW0▸Bl.alloc _ _
 have HB0:Hid (Box w0 w.heap.size (.pointer (some ⟨P,0,none⟩)) 62):=qd (hW0▸heap_alloc_new w _)
 have hb0:=(HB0.out.bl (Bl.alloc w0 (.cells #[.int .i64 0,.string ⟨#[]⟩,.int .i64 0,.int .i64 0,.slice none 0 0,.slice none 0 0,.slice none 0 0] 34))).cell
 have S0:=qd (Sw.start (h.keep b0) hok)
 have HA:=qd (fun V p=>zI P g c ts s V p hok.lt (by have:=hok.len; omega))
 unfold tkv at HA
 refine Calls.mono (R:=PostN P g c ts w0 r) ?_ (fun e w' q=>PostN.back b0 q)
 unfold qM at hr
 cases e1:zt ts (fun rank s=>qF (zm ts f (rank - 1) s) fun x s1=>some (.ok x.1 s1)) f s with
 | none=>rw [e1] at hr; cases hr
 | some r1 =>
  rw [e1] at hr;have HW:=qd (fun V (p:Pr V P g c ts s) (b:Box V w.heap.size (.pointer (some ⟨P,0,none⟩)) 62)=>wordedN_ok (ts:=ts) f 167 w.heap.size (ent 167 _ _ Tryz.func167 (by kernel_rfl) rfl) (fun rank s=>qF (zm ts f (rank - 1) s) fun x s1=>some (.ok x.1 s1)) (fun k s _ hs=>(Pg.bind ((zS ts f).sends (k - 1) s hs) (fun x s1 _ h1=>Pq.ok h1)).q) P g c s V r1 b.lt (fun e=>hbp e.symm)
   (fun k V' s r hk q p' o' e'=>clo167_ok ts f hS P g c w.heap.size k (by omega) s V' r p' o' (q.trans b) hbp e') p hok e1)
  clear h hok b0 hS e1;generalize hdT ts s=y at *;obtain ⟨⟨tk,tt,tn⟩,tp⟩:=y;dsimp only at *
  cases r1 with
  | bad x =>
   injection hr with hr
   subst hr
   go_enter Tryz.func156,Tryz.ntmps156
   have hfd:=fun W=>js (.int .i64 tk) (.string (ba tt)) (.int .i64 tn) (.int .i64 tp) W
   go_wp2_with (first
    | (go_at_call 54; refine (HA.out _ S0.out.pr).mono ?_; rintro e w1 ⟨rfl,b1⟩; have S1:=qd (S0.out.bl b1); have B1:=qd (HB0.out.bl ((Bl.alloc w0 _).trans b1)); have k1:=B1.out.cell; clear b1)
    | (go_at_call 166; refine (HW.out _ S1.out.pr B1.out).mono ?_; rintro e w2 ⟨f2,rfl⟩; have F2:=qd (qu S1.out.fr f2); clear f2))
   exact ⟨rfl,zl F2.out⟩
  | ok x s1 =>
   injection hr with hr
   subst hr
   go_enter Tryz.func156,Tryz.ntmps156
   have hfd:=fun W=>js (.int .i64 tk) (.string (ba tt)) (.int .i64 tn) (.int .i64 tp) W
   go_wp2_with (first
    | (go_at_call 54; refine (HA.out _ S0.out.pr).mono ?_; rintro e w1 ⟨rfl,b1⟩; have S1:=qd (S0.out.bl b1); have B1:=qd (HB0.out.bl ((Bl.alloc w0 _).trans b1)); have k1:=B1.out.cell; clear b1)
    | (
     go_at_call 166; refine (HW.out _ S1.out.pr B1.out).mono ?_; rintro e w2 ⟨f2,v,xs,ft,rfl,z2,n2,a2,p2⟩
     have S2:=qd (S1.out.go f2 p2);obtain ⟨pv,cv,rfl⟩:=qz z2.1;have N2:Hid (NdM w2 (.mk 11 x.1 0 tp [] [] x.2) (.agg #[.int .i64 11,.string (ba x.1),.int .i64 0,.int .i64 tp,.slice none 0 0,.slice none 0 0,.slice pv x.2.length cv]) ((Value.slice pv x.2.length cv).ownBlock.toList++ft)):=qd (by
      have:=NdM.mk (k:=11) (t:=x.1) (n:=0) (a:=tp) (nms:=[]) (pls:=[]) (RowM.nil w2 9 1) (RowM.nil w2 3 1) z2.row n2
      simpa using this)
     have A2:Hid (Apt (w0.heap.size+1) ((Value.slice pv x.2.length cv).ownBlock.toList++ft)):=qd (a2.mono S1.out.size);clear f2 z2 n2 a2 p2)
    | (refine wpList_store_row rfl 34 _ _ rfl w0.heap.size #[.int .i64 11,.string (ba x.1),.int .i64 0,.int .i64 tp,.slice none 0 0,.slice none 0 0,.slice pv x.2.length cv] rfl rfl 34 _ S2.out.res (by kernel_rfl) rfl (qL N2.out) ?_))
   exact S2.out.endN Tryz.results156 rfl N2.out A2.out
end Go.Proofs.YtfhkhmgodkheaaaGreatDoor
