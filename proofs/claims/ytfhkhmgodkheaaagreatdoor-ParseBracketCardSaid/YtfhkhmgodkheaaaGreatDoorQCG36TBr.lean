import Derived.Test.YtfhkhmgodkheaaaGreatDoorQCG35TPt
set_option linter.unusedSimpArgs false
set_option linter.unusedVariables false
set_option maxRecDepth 1000000
set_option maxHeartbeats 16000000
namespace Go.Proofs.YtfhkhmgodkheaaaGreatDoor
open Go.RowKit Go.Maps
theorem RdS.take {w:World} {p:Option Addr} {cn:Nat} {ns:List Bs} (h:RdS w (.slice p ns.length cn) ns) (m:Nat):RdS w (.slice p (ns.take m).length cn) (ns.take m):=by
 obtain ⟨p',c',e,hc,hp⟩:=h
 injection e with e1 e2 e3
 refine ⟨p,cn,rfl,by rw [List.length_take]; omega,fun hl=>?_⟩
 rw [List.length_take] at hl
 obtain ⟨g,off,e4,hg,hcs⟩:=hp (by omega)
 refine ⟨g,off,by rw [e1]; exact e4,hg,fun j hj=>?_⟩
 rw [List.length_take] at hj
 rw [hcs j (by omega)]
 congr 3
 rw [List.getD_eq_getElem?_getD,List.getD_eq_getElem?_getD,List.getElem?_take_of_lt (by omega)]
theorem text0 (t:Tr) (a sn sp sb:Value) (cn:Nat) (pn:Option Addr) (w:World) (hE:Env w) (h:TrM w t a sn sp sb) (hpr:t.params=0) (hsn:sn=.slice pn t.names.length cn) (hsl:t.sel.length≤268435456) (hN:∀ y∈t.names,y.length≤268435456) (hX:∀ i,i < t.body.length→CW (t.body.getD i qE)) (h2:qI t.sel=2→0 < 0) (h3:qI t.sel=3→(zo (jq t.sel)).length=0) :
  Calls Tryz.prog 28 #[trV t a sn sp sb] w fun e w'=>e=.returned (.string (ba (qH [] (zk t.sel ((t.names.take 0).map fun n=>[n])++jt (decide (t.sel≠[])) (t.names.drop 0) t.body))))∧Bl w w':=by
 have rs:=h.rs
 rw [hsn] at rs
 have hcn:t.names.length≤cn:=by
  obtain ⟨p',c',e,hc,_⟩:=rs;injection e with e1 e2 e3
  omega
 obtain ⟨w0,hw0⟩:∃ X,w.alloc (.cells #[.string (ba t.sel),a,.int .i64 0,sn,sp,sb] 27)=X:=⟨_,rfl⟩
 have b0:Bl w w0:=hw0▸Bl.alloc _ _
 have z0:w0.heap.size=w.heap.size+1:=by rw [← hw0]; simp
 have gA:w0.heap[w.heap.size]?=some (.cells #[.string (ba t.sel),a,.int .i64 0,sn,sp,sb] 27 (0,0)):=hw0▸heap_alloc_new w _
 obtain ⟨w2,hw2⟩:∃ X,w0.alloc (.cells #[.pointer none,.slice none 0 0] 88)=X:=⟨_,rfl⟩
 have b2:Bl w0 w2:=hw2▸Bl.alloc _ _
 have hWt:Wt w0.heap.size w0.heap.size [] w2:=⟨.pointer none,.slice none 0 0,Or.inl rfl,Nat.le_refl _,hw2▸heap_alloc_new w0 _,World.ownsRowF_of (World.ownsRow_nil _ _ _ _),by simp [Value.ownBlock],fun _=>rfl⟩
 have hE0:=hE.mono b0
 have HS:Hid (∀ V,Hid (Bl w0 V)→V.cell? ⟨w.heap.size,0,none⟩=some (.string (ba t.sel))∧V.cell? ⟨w.heap.size,2,none⟩=some (.int .i64 0)∧V.cell? ⟨w.heap.size,3,none⟩=some (.slice pn t.names.length cn)∧V.cell? ⟨w.heap.size,5,none⟩=some sb):=qd (fun V hV=>by
  obtain ⟨x0,x1,x2,x3,x4,x5⟩:=jo ((hV.out.block _ (qf gA)).trans gA);exact ⟨x0,x2,by rw [x3,hsn],x5⟩)
 have hrt:RdS w0 (.slice pn (t.names.take 0).length cn) (t.names.take 0):=(rs.keep b0).take 0
 have htk:(t.names.take 0).length=0:=by rw [List.length_take]; omega
 have hR:Hid (Bl w0 w2):=qd b2
 have D2:=qd (Wk.ofBl hWt b2 (qV w2))
 have hhd:=head_ok w0 w0.heap.size cn pn [] t.sel (t.names.take 0) w2.drew (hbd hR).out D2.out.wt hrt (fun y hy=>Nat.le_trans (hN y (List.mem_of_mem_take hy)) (by decide)) hsl (by rw [htk]; exact h2) (by rw [htk]; exact h3)
 rw [htk] at hhd
 have HH:=qd hhd
 have hrd:RdS w0 (.slice pn t.names.length cn) (t.names.drop 0):=by simpa using rs.keep b0
 have hnl:=h.nl
 obtain ⟨sne,hsn2⟩:∃ s,decide (t.sel≠[])=s:=⟨_,rfl⟩
 have hsne:Hid (((ba t.sel).toList != [])=sne):=qd (by
  rw [← hsn2];have:=ba_empty t.sel;rw [bne,this];simp)
 have hsne2:(!(ba t.sel).toList.isEmpty)=sne:=by
  rw [← hsne.out]
  cases (ba t.sel).toList <;> rfl
 have HRs:=qd (fun (l':Bs) V (hV:Hid (Bl w0 V)) (hw:Wt w0.heap.size w0.heap.size l' V)=>wrest_ok w0 w0.heap.size l' sne _ sb (t.names.drop 0) t.body V hV.out hE0 hw hrd (by rw [List.length_drop]; omega) (fun y hy=>hN y (List.mem_of_mem_drop hy)) (h.rn.keep b0) hX)
 rw [hsn2]
 have e:Hid (qH [] (zk t.sel ((t.names.take 0).map fun n=>[n])++jt sne (t.names.drop 0) t.body)=qH (qH [] (zk t.sel ((t.names.take 0).map fun n=>[n]))) (jt sne (t.names.drop 0) t.body)):=qd (zw _ _ _)
 have HB0:=qd b0
 have ho:=h.one
 unfold trV
 rw [hpr]
 generalize hQ:zk t.sel ((t.names.take 0).map fun n=>[n])=Q at *
 generalize hRP:jt sne (t.names.drop 0) t.body=RP at *
 have Z0:=qd z0
 have hln:t.names.length≤140737488355328:=hnl
 subst hsn
 generalize t.names.length=ln at *
 generalize t.sel=ts at *
 clear hE h hX h2 h3 hrt hrd rs hhd hWt hE0 gA b0 hN hQ hRP hsl htk hsn2 z0 hnl
 go_enter Tryz.func28,Tryz.ntmps28
 go_wp2_with fail
 refine wp_region_held_drew (S:=fun V=>V.cell? ⟨w.heap.size,0,none⟩=some (.string (ba ts))∧V.cell? ⟨w.heap.size,2,none⟩=some (.int .i64 0)∧V.cell? ⟨w.heap.size,3,none⟩=some (.slice pn ln cn)∧V.cell? ⟨w.heap.size,5,none⟩=some sb) (by kernel_rfl) (HS.out _ (hbd hR)) (fun hHeld=>?_)
 refine tq (i:=0) ?_
 try simp only [Act.put,qq]
 refine tq (i:=1) ?_
 try simp only [Act.put,qq]
 refine tq (i:=2) ?_
 try simp only [Act.put,qq]
 refine tq (i:=3) ?_
 try simp only [Act.put,qq]
 refine tq (i:=4) ?_
 try simp only [Act.put,qq]
 refine tq (i:=5) ?_
 try simp only [Act.put,qq]
 refine tq (i:=6) ?_
 try simp only [Act.put,qq]
 refine wpAnyH_take (i:=7) (v:=.slice pn 0 cn) rfl (by kernel_rfl) (by kernel_rfl) (by kernel_rfl) (fun _ _ _ h=>h) (Or.inl ⟨by rfl,?_⟩) (by assumption) ?_
 ·(intro w hSw; (try dsimp only at hSw); (try go_split_ands); go_simp; try first | omega | rfl | (simp; omega))
 try simp only [Act.put,qq]
 refine qU (i:=8) (by kernel_rfl) rfl (fun K hK=>?_)
 refine qO (by rfl) 38 Tryz.f38 Tryz.func38 (by kernel_rfl) (by kernel_rfl) _ _ rfl _ (by first | (simp [Act.eval]; done) | (simp [Act.eval]; rfl)) _ (HH.out) ?_
 rintro _ w3 ⟨rfl,k3⟩
 refine hK.out _ _ (HS.out _ (qd (k3.bl (hbd hR).out))) (fun hHeld=>?_)
 clear hK K
 try simp only [Act.put,qq]
 refine wpAnyH_done (by kernel_rfl) ?_ _
 go_wp2_with fail
 have hR3:Hid (Bl w0 w3):=qd (k3.bl (hbd hR).out)
 have D3:=qd (Wk.ofBl k3.wt hR3.out (qV w3))
 refine wp_region_held_drew (S:=fun V=>V.cell? ⟨w.heap.size,0,none⟩=some (.string (ba ts))∧V.cell? ⟨w.heap.size,2,none⟩=some (.int .i64 0)∧V.cell? ⟨w.heap.size,3,none⟩=some (.slice pn ln cn)∧V.cell? ⟨w.heap.size,5,none⟩=some sb) (by kernel_rfl) (HS.out _ (hbd hR3)) (fun hHeld=>?_)
 refine tq (i:=0) ?_
 try simp only [Act.put,qq]
 refine tq (i:=1) ?_
 try simp only [Act.put,qq]
 refine tq (i:=2) ?_
 try simp only [Act.put,qq]
 refine wpAnyH_take (i:=3) (v:=.bool sne) rfl (by kernel_rfl) (by kernel_rfl) (by kernel_rfl) (fun _ _ _ h=>h) (Or.inl ⟨by rfl,?_⟩) (by assumption) ?_
 ·(intro w hSw; (try dsimp only at hSw); (try go_split_ands); go_simp; try first | rfl | exact hsne.out | (simp [hsne.out]; done))
 try simp only [Act.put,qq]
 refine tq (i:=4) ?_
 try simp only [Act.put,qq]
 refine tq (i:=5) ?_
 try simp only [Act.put,qq]
 refine tq (i:=6) ?_
 try simp only [Act.put,qq]
 refine tq (i:=7) ?_
 try simp only [Act.put,qq]
 refine wpAnyH_take (i:=8) (v:=.slice pn ln cn) rfl (by kernel_rfl) (by kernel_rfl) (by kernel_rfl) (fun _ _ _ h=>h) (Or.inl ⟨by rfl,?_⟩) (by assumption) ?_
 ·(intro w hSw; (try dsimp only at hSw); (try go_split_ands); go_simp; try first | omega | rfl | (simp; done))
 try simp only [Act.put,qq]
 refine tq (i:=9) ?_
 try simp only [Act.put,qq]
 refine tq (i:=10) ?_
 try simp only [Act.put,qq]
 refine qU (i:=11) (by kernel_rfl) rfl (fun K hK=>?_)
 refine qO (by rfl) 39 Tryz.f39 Tryz.func39 (by kernel_rfl) (by kernel_rfl) _ _ rfl _ (by first | (simp [Act.eval]; done) | (simp [Act.eval]; rfl)) _ (HRs.out _ _ (hbd hR3) D3.out.wt) ?_
 rintro _ w5 ⟨rfl,k5⟩
 refine hK.out _ _ (HS.out _ (qd (k5.bl (hbd hR3).out))) (fun hHeld=>?_)
 clear hK K
 try simp only [Act.put,qq]
 refine wpAnyH_done (by kernel_rfl) ?_ _
 have hlt5:=k5.wt.lt
 have HSt:=qd (bstr_ok _ _ _ w5 k5.wt)
 have B5:=qd ((HB0.out).trans (k5.bl (hbd hR3).out))
 have HZ5:Hid (∀ V,Below w0.heap.size w5 V→Bl w V):=qd (fun V kv=>(HB0.out).trans (Below.trans (k5.bl (hbd hR3).out) kv))
 go_wp2_with (go_at_call 40; refine HSt.out.mono ?_; rintro e w6 ⟨rfl,k6⟩)
 go_ret
 exact ⟨by rw [e.out]; rfl,HZ5.out _ k6⟩
theorem text1 (t:Tr) (a sn sp sb:Value) (cn:Nat) (w:World) (g off m nx:Nat) (hm:0 < m) (hml:m≤t.names.length) (hkx0:(cn=m∧nx=off)∨(cn≠m∧nx=off+m)) (hE:Env w) (h:TrM w t a sn sp sb) (hpr:t.params=(m:Nat)) (hsn:sn=.slice (some ⟨g,off,none⟩) t.names.length cn) (hsl:t.sel.length≤268435456) (hN:∀ y∈t.names,y.length≤268435456) (hX:∀ i,i < t.body.length→CW (t.body.getD i qE)) (h2:qI t.sel=2→0 < m) (h3:qI t.sel=3→(zo (jq t.sel)).length=m) :
  Calls Tryz.prog 28 #[trV t a sn sp sb] w fun e w'=>e=.returned (.string (ba (qH [] (zk t.sel ((t.names.take m).map fun n=>[n])++jt (decide (t.sel≠[])) (t.names.drop m) t.body))))∧Bl w w':=by
 have rs:=h.rs
 rw [hsn] at rs
 have hcn:t.names.length≤cn:=by
  obtain ⟨p',c',e,hc,_⟩:=rs;injection e with e1 e2 e3
  omega
 obtain ⟨w0,hw0⟩:∃ X,w.alloc (.cells #[.string (ba t.sel),a,.int .i64 (m:Nat),sn,sp,sb] 27)=X:=⟨_,rfl⟩
 have b0:Bl w w0:=hw0▸Bl.alloc _ _
 have z0:w0.heap.size=w.heap.size+1:=by rw [← hw0]; simp
 have gA:w0.heap[w.heap.size]?=some (.cells #[.string (ba t.sel),a,.int .i64 (m:Nat),sn,sp,sb] 27 (0,0)):=hw0▸heap_alloc_new w _
 obtain ⟨w2,hw2⟩:∃ X,w0.alloc (.cells #[.pointer none,.slice none 0 0] 88)=X:=⟨_,rfl⟩
 have b2:Bl w0 w2:=hw2▸Bl.alloc _ _
 have hWt:Wt w0.heap.size w0.heap.size [] w2:=⟨.pointer none,.slice none 0 0,Or.inl rfl,Nat.le_refl _,hw2▸heap_alloc_new w0 _,World.ownsRowF_of (World.ownsRow_nil _ _ _ _),by simp [Value.ownBlock],fun _=>rfl⟩
 have hE0:=hE.mono b0
 have HS:Hid (∀ V,Hid (Bl w0 V)→V.cell? ⟨w.heap.size,0,none⟩=some (.string (ba t.sel))∧V.cell? ⟨w.heap.size,2,none⟩=some (.int .i64 (m:Nat))∧V.cell? ⟨w.heap.size,3,none⟩=some (.slice (some ⟨g,off,none⟩) t.names.length cn)∧V.cell? ⟨w.heap.size,5,none⟩=some sb):=qd (fun V hV=>by
  obtain ⟨x0,x1,x2,x3,x4,x5⟩:=jo ((hV.out.block _ (qf gA)).trans gA);exact ⟨x0,x2,by rw [x3,hsn],x5⟩)
 have hrt:RdS w0 (.slice (some ⟨g,off,none⟩) (t.names.take m).length cn) (t.names.take m):=(rs.keep b0).take m
 have htk:(t.names.take m).length=m:=by rw [List.length_take]; omega
 have hR:Hid (Bl w0 w2):=qd b2
 have D2:=qd (Wk.ofBl hWt b2 (qV w2))
 have hhd:=head_ok w0 w0.heap.size cn (some ⟨g,off,none⟩) [] t.sel (t.names.take m) w2.drew (hbd hR).out D2.out.wt hrt (fun y hy=>Nat.le_trans (hN y (List.mem_of_mem_take hy)) (by decide)) hsl (by rw [htk]; exact h2) (by rw [htk]; exact h3)
 rw [htk] at hhd
 have HH:=qd hhd
 have hrd:RdS w0 (.slice (some ⟨g,nx,none⟩) (t.names.length - m) (cn - m)) (t.names.drop m):=(rs.keep b0).drop (ln:=0) m hml _ (Or.inr ⟨g,off,nx,hm,rfl,rfl,fun h=>by rcases hkx0 with ⟨h1,h2⟩ | ⟨h1,h2⟩ <;> omega⟩)
 have hkx:=qd hkx0
 have hnl:=h.nl
 obtain ⟨sne,hsn2⟩:∃ s,decide (t.sel≠[])=s:=⟨_,rfl⟩
 have hsne:Hid (((ba t.sel).toList != [])=sne):=qd (by
  rw [← hsn2];have:=ba_empty t.sel;rw [bne,this];simp)
 have hsne2:(!(ba t.sel).toList.isEmpty)=sne:=by
  rw [← hsne.out]
  cases (ba t.sel).toList <;> rfl
 have HRs:=qd (fun (l':Bs) V (hV:Hid (Bl w0 V)) (hw:Wt w0.heap.size w0.heap.size l' V)=>wrest_ok w0 w0.heap.size l' sne _ sb (t.names.drop m) t.body V hV.out hE0 hw hrd (by rw [List.length_drop]; omega) (fun y hy=>hN y (List.mem_of_mem_drop hy)) (h.rn.keep b0) hX)
 rw [hsn2]
 have e:Hid (qH [] (zk t.sel ((t.names.take m).map fun n=>[n])++jt sne (t.names.drop m) t.body)=qH (qH [] (zk t.sel ((t.names.take m).map fun n=>[n]))) (jt sne (t.names.drop m) t.body)):=qd (zw _ _ _)
 have HB0:=qd b0
 have ho:=h.one
 unfold trV
 rw [hpr]
 generalize hQ:zk t.sel ((t.names.take m).map fun n=>[n])=Q at *
 generalize hRP:jt sne (t.names.drop m) t.body=RP at *
 have Z0:=qd z0
 have hln:t.names.length≤140737488355328:=hnl
 subst hsn
 generalize t.names.length=ln at *
 generalize t.sel=ts at *
 clear hE h hX h2 h3 hrt hrd rs hhd hWt hE0 gA b0 hN hQ hRP hsl htk hsn2 z0 hnl hkx0
 go_enter Tryz.func28,Tryz.ntmps28
 go_wp2_with fail
 refine wp_region_held_drew (S:=fun V=>V.cell? ⟨w.heap.size,0,none⟩=some (.string (ba ts))∧V.cell? ⟨w.heap.size,2,none⟩=some (.int .i64 (m:Nat))∧V.cell? ⟨w.heap.size,3,none⟩=some (.slice (some ⟨g,off,none⟩) ln cn)∧V.cell? ⟨w.heap.size,5,none⟩=some sb) (by kernel_rfl) (HS.out _ (hbd hR)) (fun hHeld=>?_)
 refine tq (i:=0) ?_
 try simp only [Act.put,qq]
 refine tq (i:=1) ?_
 try simp only [Act.put,qq]
 refine tq (i:=2) ?_
 try simp only [Act.put,qq]
 refine tq (i:=3) ?_
 try simp only [Act.put,qq]
 refine tq (i:=4) ?_
 try simp only [Act.put,qq]
 refine tq (i:=5) ?_
 try simp only [Act.put,qq]
 refine tq (i:=6) ?_
 try simp only [Act.put,qq]
 refine wpAnyH_take (i:=7) (v:=.slice (some ⟨g,off,none⟩) m cn) rfl (by kernel_rfl) (by kernel_rfl) (by kernel_rfl) (fun _ _ _ h=>h) (Or.inl ⟨by rfl,?_⟩) (by assumption) ?_
 ·(intro w hSw; (try dsimp only at hSw); (try go_split_ands); go_simp; try first | omega | rfl | (simp; omega))
 try simp only [Act.put,qq]
 refine qU (i:=8) (by kernel_rfl) rfl (fun K hK=>?_)
 refine qO (by rfl) 38 Tryz.f38 Tryz.func38 (by kernel_rfl) (by kernel_rfl) _ _ rfl _ (by first | (simp [Act.eval]; done) | (simp [Act.eval]; rfl)) _ (HH.out) ?_
 rintro _ w3 ⟨rfl,k3⟩
 refine hK.out _ _ (HS.out _ (qd (k3.bl (hbd hR).out))) (fun hHeld=>?_)
 clear hK K
 try simp only [Act.put,qq]
 refine wpAnyH_done (by kernel_rfl) ?_ _
 go_wp2_with fail
 have hR3:Hid (Bl w0 w3):=qd (k3.bl (hbd hR).out)
 have D3:=qd (Wk.ofBl k3.wt hR3.out (qV w3))
 refine wp_region_held_drew (S:=fun V=>V.cell? ⟨w.heap.size,0,none⟩=some (.string (ba ts))∧V.cell? ⟨w.heap.size,2,none⟩=some (.int .i64 (m:Nat))∧V.cell? ⟨w.heap.size,3,none⟩=some (.slice (some ⟨g,off,none⟩) ln cn)∧V.cell? ⟨w.heap.size,5,none⟩=some sb) (by kernel_rfl) (HS.out _ (hbd hR3)) (fun hHeld=>?_)
 refine tq (i:=0) ?_
 try simp only [Act.put,qq]
 refine tq (i:=1) ?_
 try simp only [Act.put,qq]
 refine tq (i:=2) ?_
 try simp only [Act.put,qq]
 refine wpAnyH_take (i:=3) (v:=.bool sne) rfl (by kernel_rfl) (by kernel_rfl) (by kernel_rfl) (fun _ _ _ h=>h) (Or.inl ⟨by rfl,?_⟩) (by assumption) ?_
 ·(intro w hSw; (try dsimp only at hSw); (try go_split_ands); go_simp; try first | rfl | exact hsne.out | (simp [hsne.out]; done))
 try simp only [Act.put,qq]
 refine tq (i:=4) ?_
 try simp only [Act.put,qq]
 refine tq (i:=5) ?_
 try simp only [Act.put,qq]
 refine tq (i:=6) ?_
 try simp only [Act.put,qq]
 refine tq (i:=7) ?_
 try simp only [Act.put,qq]
 refine wpAnyH_take (i:=8) (v:=.slice (some ⟨g,nx,none⟩) (ln - m) (cn - m)) rfl (by kernel_rfl) (by kernel_rfl) (by kernel_rfl) (fun _ _ _ h=>h) (Or.inl ⟨by rfl,?_⟩) (by assumption) ?_
 ·(intro w hSw; (try dsimp only at hSw); (try go_split_ands); (rcases hkx.out with ⟨hx1,hx2⟩ | ⟨hx1,hx2⟩ <;> (rw [hx2]; go_simp; try first | omega | rfl | (simp [hx1]; done) | (simp [hx1]; omega))))
 try simp only [Act.put,qq]
 refine tq (i:=9) ?_
 try simp only [Act.put,qq]
 refine tq (i:=10) ?_
 try simp only [Act.put,qq]
 refine qU (i:=11) (by kernel_rfl) rfl (fun K hK=>?_)
 refine qO (by rfl) 39 Tryz.f39 Tryz.func39 (by kernel_rfl) (by kernel_rfl) _ _ rfl _ (by first | (simp [Act.eval]; done) | (simp [Act.eval]; rfl)) _ (HRs.out _ _ (hbd hR3) D3.out.wt) ?_
 rintro _ w5 ⟨rfl,k5⟩
 refine hK.out _ _ (HS.out _ (qd (k5.bl (hbd hR3).out))) (fun hHeld=>?_)
 clear hK K
 try simp only [Act.put,qq]
 refine wpAnyH_done (by kernel_rfl) ?_ _
 have hlt5:=k5.wt.lt
 have HSt:=qd (bstr_ok _ _ _ w5 k5.wt)
 have B5:=qd ((HB0.out).trans (k5.bl (hbd hR3).out))
 have HZ5:Hid (∀ V,Below w0.heap.size w5 V→Bl w V):=qd (fun V kv=>(HB0.out).trans (Below.trans (k5.bl (hbd hR3).out) kv))
 go_wp2_with (go_at_call 40; refine HSt.out.mono ?_; rintro e w6 ⟨rfl,k6⟩)
 go_ret
 exact ⟨by rw [e.out]; rfl,HZ5.out _ k6⟩
theorem treePc_is (t:Tr) (m:Nat) (hm:t.params=m):treePc t=zk t.sel ((t.names.take m).map fun n=>[n])++jt (decide (t.sel≠[])) (t.names.drop m) t.body:=by
 unfold treePc jt blkPc
 rw [hm]
 simp
theorem rank_nil:qI []=0:=by decide
theorem tree_parts {t:Tr} (h:treeB t=true):∃ m:Nat,t.params=m∧m≤t.names.length∧t.sel.length≤96∧(∀ y∈t.names,y.length≤268435456)∧jF t.body 0=true∧(qI t.sel=2→0 < m)∧(qI t.sel=3→(zo (jq t.sel)).length=m):=by
 unfold treeB at h
 have fin:∀ c:Nat,(decide (t.params=c) && (decide (c≤t.names.length) && (nmsB t.names && jF t.body 0)))=true→t.params=c∧c≤t.names.length∧(∀ y∈t.names,y.length≤268435456)∧jF t.body 0=true:=fun c hc=>by
  rw [Bool.and_eq_true,Bool.and_eq_true,Bool.and_eq_true] at hc;refine ⟨of_decide_eq_true hc.1,of_decide_eq_true hc.2.1,fun y hy=>?_,hc.2.2.2⟩
  have:=List.all_eq_true.1 hc.2.2.1 y hy;unfold nmB at this;simp at this;omega
 by_cases he:t.sel=[]
 ·rw [if_pos he] at h
  obtain ⟨h1,h2,h3,h4⟩:=fin 0 h;exact ⟨0,h1,h2,by rw [he]; simp,h3,h4,by rw [he,rank_nil]; omega,by rw [he,rank_nil]; omega⟩
 ·rw [if_neg he] at h
  cases hk:jB t.sel with
  | none=>rw [hk] at h; cases h
  | some c =>
   rw [hk] at h;obtain ⟨h1,h2,h3,h4⟩:=fin c h;have hF:=fits_of hk;have hl:t.sel.length≤96:=by
    unfold jB at hk
    split at hk
    ·cases hk
    ·omega
   exact ⟨c,h1,h2,hl,h3,h4,hF.two,hF.three⟩
theorem textOf_ok (t:Tr) (a sn sp sb:Value) (w:World) (hE:Env w) (h:TrM w t a sn sp sb) (ht:treeB t=true):Calls Tryz.prog 28 #[trV t a sn sp sb] w fun e w'=>e=.returned (.string (ba (qH [] (treePc t))))∧Bl w w':=by
 obtain ⟨m,hm,hml,hsl,hN,hB,h2,h3⟩:=tree_parts ht
 rw [treePc_is t m hm]
 obtain ⟨pn,cn,en,hcn,hpn⟩:=h.rs
 by_cases hm0:m=0
 ·subst hm0
  exact text0 t a sn sp sb cn pn w hE h (by rw [hm]; rfl) en (by omega) hN (stm_pn hB) h2 h3
 ·have hm1:0 < m:=Nat.pos_of_ne_zero hm0
  obtain ⟨g,off,hp,hg,hcs⟩:=hpn (by omega)
  subst hp;obtain ⟨nx,hnx⟩:∃ nx,(cn=m∧nx=off)∨(cn≠m∧nx=off+m):=by
   by_cases hc:cn=m
   ·exact ⟨off,Or.inl ⟨hc,rfl⟩⟩
   ·exact ⟨off+m,Or.inr ⟨hc,rfl⟩⟩
  exact text1 t a sn sp sb cn w g off m nx hm1 hml hnx hE h hm en (by omega) hN (stm_pn hB) h2 h3
theorem print_top (t:Tr) (a sn sp sb:Value) (w:World) (hE:Env w) (h:TrM w t a sn sp sb):Calls Tryz.prog 14 #[trV t a sn sp sb] w fun e w'=>e=.returned (.tuple #[.string (ba (printP t).1),.int .i64 ((printP t).2:Nat)])∧Bl w w':=by
 obtain ⟨W1,hW1⟩:∃ X,w.alloc (.cells #[.string (ba t.sel),a,.int .i64 t.params,sn,sp,sb] 27)=X:=⟨_,rfl⟩
 have b1:Bl w W1:=hW1▸Bl.alloc _ _
 have gA:W1.heap[w.heap.size]?=some (.cells #[.string (ba t.sel),a,.int .i64 t.params,sn,sp,sb] 27 (0,0)):=hW1▸heap_alloc_new w _
 obtain ⟨x0,x1,x2,x3,x4,x5⟩:=jo gA
 have HT:=qd (isTree_ok t a sn sp sb W1 (hE.mono b1) (h.keep b1))
 have HX:=qd (fun (ht:treeB t=true) V (bl:Bl W1 V)=>textOf_ok t a sn sp sb V (hE.mono (b1.trans bl)) (h.keep (b1.trans bl)) ht)
 have HC:Hid (∀ V,Bl W1 V→V.heap[w.heap.size]?=some (.cells #[.string (ba t.sel),a,.int .i64 t.params,sn,sp,sb] 27 (0,0))):=qd (fun V bl=>(bl.block _ (qf gA)).trans gA)
 have B1:=qd b1
 have ho:=h.one
 obtain ⟨pn,cn,en,_,_⟩:=h.rs
 obtain ⟨pk,ck,ek,_,_⟩:=h.rn.slc
 have hP:Hid (printP t=if treeB t=false then ([],77) else if 4096 < (qH [] (treePc t)).length then ([],73) else (qH [] (treePc t),0)):=qd rfl
 generalize printP t=P at *
 generalize qH [] (treePc t)=TX at *
 unfold trV at *
 subst en; subst ek
 generalize treeB t=TB at *
 generalize t.sel=ts at *
 generalize t.params=tp at *
 generalize t.names.length=tl at *
 generalize t.body.length=tb at *
 clear h hE b1 gA
 cases TB with
 | false =>
  have e:Hid (P=([],77)):=qd (by rw [hP.out]; rfl)
  clear hP HX
  go_enter Tryz.func14,Tryz.ntmps14
  go_wp2_with (go_at_call 27; refine HT.out.mono ?_; rintro e w1 ⟨rfl,b1⟩)
  go_ret2
  exact ⟨by rw [e.out]; rfl,B1.out.trans b1⟩
 | true =>
  have HX1:=qd (HX.out rfl);have hsz:(ba TX).size=TX.length:=by rw [← qo,qJ]
  by_cases hl:4096 < TX.length
  ·have e:Hid (P=([],73)):=qd (by rw [hP.out,if_neg (by simp),if_pos hl])
   have q:(4096:Int) < TX.length:=by omega
   clear hP HX hl
   go_enter Tryz.func14,Tryz.ntmps14
   go_wp2_with (first
    | (go_at_call 27; refine HT.out.mono ?_; rintro e w1 ⟨rfl,b1⟩; obtain ⟨y0,y1,y2,y3,y4,y5⟩:=jo (HC.out _ b1))
    | (go_at_call 28; refine (HX1.out _ b1).mono ?_; rintro e w2 ⟨rfl,b2⟩))
   go_ret2
   exact ⟨by rw [e.out]; rfl,(B1.out.trans b1).trans b2⟩
  ·have e:Hid (P=(TX,0)):=qd (by rw [hP.out,if_neg (by simp),if_neg hl])
   have q:¬ (4096:Int) < TX.length:=by omega
   clear hP HX hl
   go_enter Tryz.func14,Tryz.ntmps14
   go_wp2_with (first
    | (go_at_call 27; refine HT.out.mono ?_; rintro e w1 ⟨rfl,b1⟩; obtain ⟨y0,y1,y2,y3,y4,y5⟩:=jo (HC.out _ b1))
    | (go_at_call 28; refine (HX1.out _ b1).mono ?_; rintro e w2 ⟨rfl,b2⟩))
   go_ret2
   exact ⟨by rw [e.out]; rfl,(B1.out.trans b1).trans b2⟩
mutual
def trN:Nd→Nt
 | .mk k t n _ nms _ kids=>.mk k t n nms (trL kids)
def trL:List Nd→List Nt
 | []=>[]
 | n :: r=>trN n :: trL r
end
mutual
def smN:Nd→Bool
 | .mk _ t _ _ nms _ kids=>decide (t.length≤268435456) && (decide (nms.length≤268435456) && (decide (kids.length≤268435456) && smL kids))
def smL:List Nd→Bool
 | []=>true
 | n :: r=>smN n && smL r
end
theorem jA:∀ (l:List Nd),(trL l).length=l.length:=by
 intro l
 induction l with
 | nil=>rfl
 | cons n r ih=>rw [trL,List.length_cons,List.length_cons,ih]
theorem row_cells {w:World} {e:TypeId} {sz:Nat} {v:Value} {n:Nat} {xs:List Value} {ft:List Nat} (h:RowM w e sz v n xs ft) (h0:0 < n):∃ g cap,v=.slice (some ⟨g,0,none⟩) n cap∧n≤cap∧g < w.heap.size∧xs.length=n * sz∧∀ j,j < xs.length→w.cell? ⟨g,j,none⟩=xs[j]?:=by
 rcases h with ⟨hz,_⟩ | ⟨_,ho,_⟩
 ·omega
 ·rcases ho.2 with ⟨_,h2⟩ | ⟨g,cap,cur,rfl,h1,h2,h3,h4,h5,h6⟩
  ·omega
  ·refine ⟨g,cap,rfl,h3,qf h2,ho.1,fun j hj=>?_⟩
   rw [qh h2,← h6];rw [← h6,List.length_take] at hj;rw [List.getElem?_take_of_lt (by omega)]
   simp
theorem rows_rd {w:World} {v:Value} {l:List Bs} {ft:List Nat} (h:RowM w 9 1 v l.length (l.map fun b=>.string (ba b)) ft):RdS w v l:=by
 by_cases h0:0 < l.length
 ·obtain ⟨g,cap,rfl,hc,hg,hl,hcs⟩:=row_cells h h0
  refine ⟨_,_,rfl,hc,fun _=>⟨g,0,rfl,hg,fun j hj=>?_⟩⟩
  rw [Nat.zero_add,hcs j (by rw [List.length_map]; exact hj),List.getElem?_map,List.getD_eq_getElem?_getD,List.getElem?_eq_getElem hj]
  rfl
 ·obtain ⟨p,c,rfl⟩:=h.slice
  rcases h with ⟨h1,_,_,p',hv⟩ | ⟨h1,_⟩
  ·injection hv with e1 e2 e3
   exact ⟨p,c,rfl,by omega,fun h=>absurd h h0⟩
  ·exact absurd h1 h0
mutual
theorem NdM.nt {w:World} {n:Nd} {c0 c1 c2 c3 c4 c5 c6:Value} {ft:List Nat} (h:NdM w n (.agg #[c0,c1,c2,c3,c4,c5,c6]) ft) (g off:Nat) (hg:g < w.heap.size) (hs:smN n=true)
  (q0:w.cell? ⟨g,off,none⟩=some c0) (q1:w.cell? ⟨g,off+1,none⟩=some c1) (q2:w.cell? ⟨g,off+2,none⟩=some c2) (q4:w.cell? ⟨g,off+4,none⟩=some c4) (q6:w.cell? ⟨g,off+6,none⟩=some c6):NtM w (trN n) g off:=by
 cases h with
 | @mk k t m a nms pls kids sn sp sk f1 f2 f3 f4 xs h1 h2 h3 h4 =>
  rw [smN,Bool.and_eq_true,Bool.and_eq_true,Bool.and_eq_true] at hs;obtain ⟨s1,s2,s3,s4⟩:=hs;have s1:=of_decide_eq_true s1;have s2:=of_decide_eq_true s2;have s3:=of_decide_eq_true s3;rw [trN]
  by_cases h0:0 < kids.length
  ·obtain ⟨kb,cap,rfl,hc,hkb,hl,hcs⟩:=row_cells h3 h0
   exact NtM.mk hg q0 q1 q2 q4 (by rw [jA]; exact q6) s1 s2 (by rw [jA]; exact s3) (by rw [jA]; exact hc) (rows_rd h1) (fun _=>rfl) (NdsM.nt h4 kb 0 hkb s4 (fun j hj=>by rw [Nat.zero_add]; exact hcs j hj))
  ·have hk0:kids=[]:=List.length_eq_zero_iff.1 (by omega)
   subst hk0;obtain ⟨p,c,rfl⟩:=h3.slice;rw [trL];exact NtM.mk (kb:=0) (ko:=0) hg q0 q1 q2 q4 q6 s1 s2 (by simp) (by simp) (rows_rd h1) (fun h=>by simp at h) .nil
theorem NdsM.nt {w:World} {ns:List Nd} {xs:List Value} {ft:List Nat} (h:NdsM w ns xs ft) (g off:Nat) (hg:g < w.heap.size) (hs:smL ns=true) (hc:∀ j,j < xs.length→w.cell? ⟨g,off+j,none⟩=xs[j]?):NtsM w (trL ns) g off:=by
 cases h with
 | nil=>rw [trL]; exact .nil
 | @cons n r c0 c1 c2 c3 c4 c5 c6 ys f1 f2 h1 h2 =>
  rw [smL,Bool.and_eq_true] at hs;rw [trL];refine .cons (NdM.nt h1 g off hg hs.1 (hc 0 (by simp)) (hc 1 (by simp)) (hc 2 (by simp)) (hc 4 (by simp)) (hc 6 (by simp))) (NdsM.nt h2 g (off+7) hg hs.2 (fun j hj=>?_))
  have:=hc (7+j) (by simp; omega)
  rw [← Nat.add_assoc] at this;rw [this];rw [show 7+j=j+1+1+1+1+1+1+1 by omega]
  simp
end
def trS (t:Src):Tr:=⟨t.sel,t.params,t.names,trL t.body⟩
theorem SrM.tr {w:World} {t:Src} {v:Value} {ft:List Nat} (h:SrM w t v ft) (h1:t.names.length≤140737488355328) (h2:t.body.length≤268435456) (h3:smL t.body=true):∃ a sn sp sb,v=trV (trS t) a sn sp sb∧TrM w (trS t) a sn sp sb:=by
 obtain ⟨sn,sp,sb,f1,f2,f3,f4,xs,rfl,rfl,r1,r2,r3,r4⟩:=h
 refine ⟨_,sn,sp,sb,rfl,rows_rd r1,?_,h1,rfl,?_⟩
 ·by_cases h0:0 < t.body.length
  ·obtain ⟨kb,cap,rfl,hc,hkb,hl,hcs⟩:=row_cells r3 h0
   exact ⟨_,_,kb,0,by show _=Value.slice _ (trL t.body).length _; rw [jA],by show (trL t.body).length≤_; rw [jA]; exact hc,by show (trL t.body).length≤_; rw [jA]; exact h2,fun _=>rfl,NdsM.nt r4 kb 0 hkb h3 (fun j hj=>by rw [Nat.zero_add]; exact hcs j hj)⟩
  ·have hk0:t.body=[]:=List.length_eq_zero_iff.1 (by omega)
   obtain ⟨p,c,hv⟩:=r3.slice;rw [hk0] at hv;subst hv;refine ⟨p,c,0,0,?_,?_,?_,?_,?_⟩
   ·show _=Value.slice p (trL t.body).length c; rw [hk0]; rfl
   ·show (trL t.body).length≤_; rw [hk0]; simp [trL]
   ·show (trL t.body).length≤_; rw [hk0]; simp [trL]
   ·show 0 < (trL t.body).length→_; rw [hk0]; simp [trL]
   ·show NtsM w (trL t.body) 0 0; rw [hk0]; exact .nil
 ·obtain ⟨p,c,rfl⟩:=r2.slice
  rfl
end Go.Proofs.YtfhkhmgodkheaaaGreatDoor
