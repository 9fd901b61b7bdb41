import Derived.Test.YtfhkhmgodkheaaaGreatDoorQCG22PCln
set_option linter.unusedSimpArgs false
set_option linter.unusedVariables false
set_option maxRecDepth 1000000
set_option maxHeartbeats 16000000
namespace Go.Proofs.YtfhkhmgodkheaaaGreatDoor
open Go.RowKit Go.Maps
theorem add7 (g j:Nat):(⟨g,7,none⟩:Addr).add j=⟨g,j+7,none⟩:=by
 unfold Addr.add
 split
 ·rename_i h; subst h; rfl
 ·rw [Nat.add_comm j 7]
theorem unsend_ok (k:Nat) (t:Bs) (num:Int) (pl:Nat) (nms:List Bs) (pls:List Nat) (r:Nd) (ks:List Nd) (nv:Value) (fn:List Nat) (w:World) (hn:NdM w (.mk k t num pl nms pls (r :: ks)) nv fn) (hd:fn.Nodup) (hl:ks.length≤100000) :
  Calls Tryz.prog 154 #[nv] w fun e w'=>Bl w w'∧∃ r0 r1 r2 r3 r4 r5 r6 m0 m1 m2 m3 m4 m5 m6 fr fm,e=.returned (.tuple #[.agg #[r0,r1,r2,r3,r4,r5,r6],.agg #[m0,m1,m2,m3,m4,m5,m6]])∧NdM w' r (.agg #[r0,r1,r2,r3,r4,r5,r6]) fr∧NdM w' (.mk 11 t num pl nms pls ks) (.agg #[m0,m1,m2,m3,m4,m5,m6]) fm∧(fr++fm).Nodup∧∀ b∈fr++fm,b∈fn∨w.heap.size≤b:=by
 cases hn with
 | @mk _ _ _ _ _ _ _ sn sp sk f1 f2 f3 f4 xs h1 h2 h3 h4 =>
 obtain ⟨pn,cn,rfl⟩:=h1.slice
 obtain ⟨pp,cp,rfl⟩:=h2.slice
 obtain ⟨pk,ck,rfl⟩:=h3.slice
 rcases h3 with ⟨hz,_⟩ | ⟨_,ho3,gk,hgk,rfl⟩
 ·simp at hz
 obtain ⟨gk',e1,q1,q2,q3,q4⟩:=row_at ho3 (by simp)
 subst e1
 have egk:gk'=gk:=by simpa [Value.ownBlock] using hgk
 subst egk
 rw [List.length_cons] at *
 cases h4 with
 | @cons _ _ r0 r1 r2 r3 r4 r5 r6 xs fr fks hr hks =>
 have hxs:=hks.len
 obtain ⟨W1,hW1⟩:∃ X,((w.alloc (.cells #[.int .i64 k,.string (ba t),.int .i64 num,.int .i64 pl,.slice pn nms.length cn,.slice pp pls.length cp,.slice (some ⟨gk',0,none⟩) (ks.length+1) ck] 34)).alloc (.cells #[.int .i64 0,.string ⟨#[]⟩,.int .i64 0,.int .i64 0,.slice none 0 0,.slice none 0 0,.slice none 0 0] 34)).alloc (.cells #[.int .i64 0,.string ⟨#[]⟩,.int .i64 0,.int .i64 0,.slice none 0 0,.slice none 0 0,.slice none 0 0] 34)=X:=⟨_,rfl⟩
 have s1:W1.heap.size=w.heap.size+3:=by rw [← hW1]; simp
 have b1:Bl w W1:=hW1▸((Bl.alloc w _).trans (Bl.alloc _ _)).trans (Bl.alloc _ _)
 have a0:W1.heap[w.heap.size]?=some (.cells #[.int .i64 k,.string (ba t),.int .i64 num,.int .i64 pl,.slice pn nms.length cn,.slice pp pls.length cp,.slice (some ⟨gk',0,none⟩) (ks.length+1) ck] 34 (0,0)):=by
  rw [← hW1,Below.heap_alloc _ _ _ (by simp; omega),Below.heap_alloc _ _ _ (by simp)]; exact heap_alloc_new w _
 have a1:W1.heap[w.heap.size+1]?=some z7:=by
  rw [← hW1,Below.heap_alloc _ _ _ (by simp)]
  have:=heap_alloc_new (w.alloc (.cells #[.int .i64 k,.string (ba t),.int .i64 num,.int .i64 pl,.slice pn nms.length cn,.slice pp pls.length cp,.slice (some ⟨gk',0,none⟩) (ks.length+1) ck] 34)) (.cells #[.int .i64 0,.string ⟨#[]⟩,.int .i64 0,.int .i64 0,.slice none 0 0,.slice none 0 0,.slice none 0 0] 34);rw [show (w.alloc (.cells #[.int .i64 k,.string (ba t),.int .i64 num,.int .i64 pl,.slice pn nms.length cn,.slice pp pls.length cp,.slice (some ⟨gk',0,none⟩) (ks.length+1) ck] 34)).heap.size=w.heap.size+1 by simp] at this
  exact this
 have a2:W1.heap[w.heap.size+2]?=some z7:=by
  rw [← hW1];have:=heap_alloc_new ((w.alloc (.cells #[.int .i64 k,.string (ba t),.int .i64 num,.int .i64 pl,.slice pn nms.length cn,.slice pp pls.length cp,.slice (some ⟨gk',0,none⟩) (ks.length+1) ck] 34)).alloc (.cells #[.int .i64 0,.string ⟨#[]⟩,.int .i64 0,.int .i64 0,.slice none 0 0,.slice none 0 0,.slice none 0 0] 34)) (.cells #[.int .i64 0,.string ⟨#[]⟩,.int .i64 0,.int .i64 0,.slice none 0 0,.slice none 0 0,.slice none 0 0] 34);rw [show ((w.alloc (.cells #[.int .i64 k,.string (ba t),.int .i64 num,.int .i64 pl,.slice pn nms.length cn,.slice pp pls.length cp,.slice (some ⟨gk',0,none⟩) (ks.length+1) ck] 34)).alloc (.cells #[.int .i64 0,.string ⟨#[]⟩,.int .i64 0,.int .i64 0,.slice none 0 0,.slice none 0 0,.slice none 0 0] 34)).heap.size=w.heap.size+2 by simp] at this
  exact this
 obtain ⟨W2,hW2⟩:∃ X,W1.setRow (w.heap.size+2) #[.int .i64 k,.string (ba t),.int .i64 num,.int .i64 pl,.slice pn nms.length cn,.slice pp pls.length cp,.slice (some ⟨gk',0,none⟩) (ks.length+1) ck]=X:=⟨_,rfl⟩
 have f2':Fr [w.heap.size+2] W1 W2:=hW2▸qG _ _ _
 have c0:=(f2'.block _ (by omega) (by simp)).trans a0
 have c1:=(f2'.block _ (by omega) (by simp)).trans a1
 have c2:W2.heap[w.heap.size+2]?=some (.cells #[.int .i64 k,.string (ba t),.int .i64 num,.int .i64 pl,.slice pn nms.length cn,.slice pp pls.length cp,.slice (some ⟨gk',0,none⟩) (ks.length+1) ck] 34 (0,0)):=hW2▸setRow_heap _ _ _ _ 34 (0,0) a2
 obtain ⟨W3,hW3⟩:∃ X,W2.setCell ⟨w.heap.size+2,0,none⟩ (.int .i64 11)=X:=⟨_,rfl⟩
 have f3':Fr [w.heap.size+2] W2 W3:=hW3▸Fr.setCell W2 _ _ (by simp)
 have s2:=f2'.size
 have s3:=f3'.size
 have d0:=(f3'.block _ (by omega) (by simp)).trans c0
 have d1:=(f3'.block _ (by omega) (by simp)).trans c1
 have d2:W3.heap[w.heap.size+2]?=some (.cells #[.int .i64 11,.string (ba t),.int .i64 num,.int .i64 pl,.slice pn nms.length cn,.slice pp pls.length cp,.slice (some ⟨gk',0,none⟩) (ks.length+1) ck] 34 (0,0)):=by rw [← hW3,zc c2]; rfl
 have fw3:Fr [] w W3:=((Fr.ofBl b1 []).trans f2' (by simp)).trans f3' (by simp)
 have hc3:∀ j u,(r0 :: r1 :: r2 :: r3 :: r4 :: r5 :: r6 :: xs)[j]?=some u→W3.cell? ⟨gk',j,none⟩=some u:=fun j u hj=>(World.cell?_of_block (w:=w) (fw3.block _ q2 (by simp))).trans (q4 j u hj)
 obtain ⟨aa,haa⟩:∃ aa:Addr,(if ck=1 then some (⟨gk',0,none⟩:Addr) else some ⟨gk',7,none⟩)=some aa:=by split <;> exact ⟨_,rfl⟩
 have hsl:(Instr.slice 25 (.slice (some ⟨gk',0,none⟩) (ks.length+1) ck) (some (.int .i64 1)) none none).run Tryz.prog W3=.ok (.slice (some aa) ks.length (ck - 1)) W3:=by
  go_simp
  intro h;omega
 have hcl:∀ j u,xs[j]?=some u→W3.cell? (aa.add j)=some u:=fun j u hj=>by
  have hn1:ck≠1:=by
   intro e;subst e;have:ks.length=0:=by omega
   rw [this,Nat.zero_mul] at hxs;rw [List.length_eq_zero_iff.1 hxs] at hj;simp at hj
  rw [if_neg hn1] at haa;injection haa with haa
  subst haa;have:=hc3 (j+7) u (by simpa using hj)
  rw [show (⟨gk',7,none⟩:Addr).add j=⟨gk',j+7,none⟩ from add7 _ _]
  exact this
 have HC:=qd (clone_ok aa ks.length (ck - 1) xs W3 hxs hcl (fun h0=>by
  have hb:aa.block=gk':=by
   revert haa; split <;> (intro e; injection e with e; subst e; rfl)
  rw [hb]; have:=fw3.size; omega) hks.oneCells hl)
 have HAl:=qd (qL hr)
 have k0:=zp d0
 have z20:W2.cell? ⟨w.heap.size+2,0,none⟩=some (.int .i64 k):=(zp c2).1
 have z2f:=qK c2 0
 have k10:=zp a0
 obtain ⟨x0,x1,x2,x3,x4,x5,x6⟩:=k0
 obtain ⟨y0,y1,y2,y3,y4,y5,y6⟩:=k10
 have A2:=qd a2
 have HX:Hid (Bl w W1∧Fr [] w W3∧w.heap.size+3≤W3.heap.size):=qd ⟨b1,fw3,by omega⟩
 have D0:=qd d0
 have D1:=qd d1
 have D2:=qd d2
 have HC3:=qd hc3
 have HN:Hid (RowM w 9 1 (.slice pn nms.length cn) nms.length (nms.map fun b=>.string (ba b)) f1∧RowM w 3 1 (.slice pp pls.length cp) pls.length (pls.map fun p=>.int .i64 (p:Nat)) f2∧NdM w r (.agg #[r0,r1,r2,r3,r4,r5,r6]) fr∧NdsM w ks xs fks∧(f1++(f2++([gk']++(fr++fks)))).Nodup∧gk' < w.heap.size):=qd ⟨h1,h2,hr,hks,hd,q2⟩
 have hckb:ks.length+1≤ck:=q3
 have HSZ:=qd s1
 clear h1 h2 hr hks hd q1 q2 q3 q4 ho3 hgk a0 a1 a2 c0 c1 c2 d0 d1 d2 f2' f3' s2 s3 fw3 hc3 hcl haa b1 hxs s1
 go_enter Tryz.func154,Tryz.ntmps154
 go_wp2_with (first
  | (refine wpList_store_row rfl 34 _ _ rfl (w.heap.size+2) #[.int .i64 k,.string (ba t),.int .i64 num,.int .i64 pl,.slice pn nms.length cn,.slice pp pls.length cp,.slice (some ⟨gk',0,none⟩) (ks.length+1) ck] rfl rfl 34 _ A2.out (by kernel_rfl) rfl (by kernel_rfl) ?_; rw [hW2])
  | (
   go_at_call 165; refine HC.out.mono ?_; rintro e w4 ⟨b4,v,fv,rfl,rm4,n4⟩
   obtain ⟨pv,cv,ev⟩:=rm4.slice;have E2:=qd ((b4.block _ (qf D2.out)).trans D2.out);have E0:=qd ((b4.block _ (qf D0.out)).trans D0.out);have E1:=qd ((b4.block _ (qf D1.out)).trans D1.out);have g6:w4.cell? ⟨w.heap.size+2,6,none⟩=some (.slice (some ⟨gk',0,none⟩) (ks.length+1) ck):=(zp E2.out).2.2.2.2.2.2;have g6f:=qK E2.out 6;have RM:=qd rm4;have NV:=qd n4;have B4:=qd b4;subst ev;clear b4 rm4 n4))
 obtain ⟨W5,hW5⟩:∃ X,w4.setCell ⟨w.heap.size+2,6,none⟩ (.slice pv ks.length cv)=X:=⟨_,rfl⟩
 rw [hW5]
 have f5:Fr [w.heap.size+2] w4 W5:=hW5▸Fr.setCell w4 _ _ (by simp)
 have s5:=f5.size
 have s4:=B4.out.size
 have s3:=HX.out.2.2
 have hgl:=HN.out.2.2.2.2.2
 have g0:W5.heap[w.heap.size]?=_:=(f5.block _ (by omega) (by simp)).trans E0.out
 have g1:W5.heap[w.heap.size+1]?=_:=(f5.block _ (by omega) (by simp)).trans E1.out
 have g2:W5.heap[w.heap.size+2]?=some (.cells #[.int .i64 11,.string (ba t),.int .i64 num,.int .i64 pl,.slice pn nms.length cn,.slice pp pls.length cp,.slice pv ks.length cv] 34 (0,0)):=by rw [← hW5,zc E2.out]; rfl
 have hc5:∀ j u,[r0,r1,r2,r3,r4,r5,r6][j]?=some u→W5.cell? ⟨gk',j,none⟩=some u:=fun j u hj=>by
  have hj2:(r0 :: r1 :: r2 :: r3 :: r4 :: r5 :: r6 :: xs)[j]?=some u:=by
   rw [show r0 :: r1 :: r2 :: r3 :: r4 :: r5 :: r6 :: xs=[r0,r1,r2,r3,r4,r5,r6]++xs by rfl,List.getElem?_append_left (by have:=(List.getElem?_eq_some_iff.1 hj).1; exact this)]; exact hj
  have h9:=HC3.out j u hj2;rw [← h9];refine (World.cell?_of_block (w:=w4) (f5.block gk' (by omega) (by simp; omega))).trans (World.cell?_of_block (w:=W3) (B4.out.block gk' (by omega)))
 have fw5:Fr [] w W5:=(HX.out.2.1.trans (Fr.ofBl B4.out []) (by simp)).trans f5 (by simp)
 have HAm:Hid ((Array.all (#[.int .i64 11,.string (ba t),.int .i64 num,.int .i64 pl,.slice pn nms.length cn,.slice pp pls.length cp,.slice pv ks.length cv]:Array Value) fun x=>x.oneCell')=true):=qd (by kernel_rfl)
 have R1:Hid (W5.drew.heap[w.heap.size+1]?=some z7):=qd g1
 obtain ⟨W6,hW6⟩:∃ X,W5.drew.setRow (w.heap.size+1) #[r0,r1,r2,r3,r4,r5,r6]=X:=⟨_,rfl⟩
 have f6:Fr [w.heap.size+1] W5.drew W6:=hW6▸qG _ _ _
 have s6:W5.heap.size≤W6.heap.size:=f6.size
 have i0:W6.heap[w.heap.size]?=_:=(f6.block _ (show w.heap.size < W5.heap.size by omega) (by simp)).trans g0
 have i1:W6.heap[w.heap.size+1]?=some (.cells #[r0,r1,r2,r3,r4,r5,r6] 34 (0,0)):=hW6▸setRow_heap _ _ _ _ 34 (0,0) R1.out
 have i2:W6.heap[w.heap.size+2]?=_:=(f6.block _ (show w.heap.size+2 < W5.heap.size by omega) (by simp)).trans g2
 obtain ⟨W7,hW7⟩:∃ X,W6.setRow (w.heap.size+2) #[.int .i64 11,.string (ba t),.int .i64 num,.int .i64 pl,.slice pn nms.length cn,.slice pp pls.length cp,.slice pv ks.length cv]=X:=⟨_,rfl⟩
 have f7:Fr [w.heap.size+2] W6 W7:=hW7▸qG _ _ _
 have j0:W7.heap[w.heap.size]?=_:=(f7.block _ (by omega) (by simp)).trans i0
 have j1:W7.heap[w.heap.size+1]?=_:=(f7.block _ (by omega) (by simp)).trans i1
 have j2:W7.heap[w.heap.size+2]?=some (.cells #[.int .i64 11,.string (ba t),.int .i64 num,.int .i64 pl,.slice pn nms.length cn,.slice pp pls.length cp,.slice pv ks.length cv] 34 (0,0)):=hW7▸setRow_heap _ _ _ _ 34 (0,0) i2
 have hc6:∀ j u,[r0,r1,r2,r3,r4,r5,r6][j]?=some u→W6.cell? ⟨gk',j,none⟩=some u:=fun j u hj=>(World.cell?_of_block (w:=W5.drew) (f6.block gk' (show gk' < W5.heap.size by omega) (by simp; omega))).trans (hc5 j u hj)
 have hc7:∀ j u,[r0,r1,r2,r3,r4,r5,r6][j]?=some u→W7.cell? ⟨gk',j,none⟩=some u:=fun j u hj=>(World.cell?_of_block (w:=W6) (f7.block gk' (by omega) (by simp; omega))).trans (hc6 j u hj)
 have HS4:Hid (W5.drew.heap[w.heap.size]?=_∧W5.drew.heap[w.heap.size+2]?=_∧∀ j u,[r0,r1,r2,r3,r4,r5,r6][j]?=some u→W5.drew.cell? ⟨gk',j,none⟩=some u):=qd ⟨g0,g2,hc5⟩
 have HS5:=qd (And.intro i0 (And.intro i2 hc6))
 have HS6:=qd (And.intro j0 (And.intro j2 hc7))
 have R2:=qd i2
 have J1:=qd j1
 have J2:=qd j2
 have fw7:Hid (Fr [] w W7):=qd (((fw5.trans (Fr.drew [] _) (by simp)).trans f6 (by simp)).trans f7 (by simp))
 have fW47:Hid (Fr [w.heap.size+2,w.heap.size+1] w4 W7):=qd (((f5.mono (fun b hb=>Or.inl (by simp at hb; simp [hb]))).trans ((Fr.drew [w.heap.size+1] W5).trans f6 (fun b hb=>Or.inl hb)) (fun b hb=>Or.inl (by simp at hb; simp [hb]))).trans f7 (fun b hb=>Or.inl (by simp at hb; simp [hb])))
 clear f5 f6 f7 g0 g1 g2 i0 i1 i2 j0 j1 j2 hc5 hc6 hc7 fw5 E0 E1 E2 D0 D1 D2 HC3 g6 g6f
 refine wp_region_held_drew (S:=fun V=>V.heap[w.heap.size]?=some (.cells #[.int .i64 k,.string (ba t),.int .i64 num,.int .i64 pl,.slice pn nms.length cn,.slice pp pls.length cp,.slice (some ⟨gk',0,none⟩) (ks.length+1) ck] 34 (0,0))∧V.heap[w.heap.size+2]?=some (.cells #[.int .i64 11,.string (ba t),.int .i64 num,.int .i64 pl,.slice pn nms.length cn,.slice pp pls.length cp,.slice pv ks.length cv] 34 (0,0))∧∀ j u,[r0,r1,r2,r3,r4,r5,r6][j]?=some u→V.cell? ⟨gk',j,none⟩=some u) (by kernel_rfl) (HS4.out) (fun hHeld=>?_)
 refine wpAnyH_take (i:=0) (v:=.pointer (some ⟨w.heap.size,6,none⟩)) rfl (by kernel_rfl) (by kernel_rfl) (by kernel_rfl) (fun _ _ _ h=>h) (Or.inl ⟨by rfl,?_⟩) (by assumption) ?_
 ·(intro w hSw; obtain ⟨hS1,hS2,hS3⟩:=hSw; obtain ⟨x0,x1,x2,x3,x4,x5,x6⟩:=zp hS1; obtain ⟨y0,y1,y2,y3,y4,y5,y6⟩:=zp hS2; have e0:=hS3 0 _ rfl; have e1:=hS3 1 _ rfl; have e2:=hS3 2 _ rfl; have e3:=hS3 3 _ rfl; have e4:=hS3 4 _ rfl; have e5:=hS3 5 _ rfl; have e6:=hS3 6 _ rfl; clear hS1 hS2 hS3; go_simp; try omega)
 try simp only [Act.put,qq]
 refine wpAnyH_take (i:=1) (v:=.slice (some ⟨gk',0,none⟩) (ks.length+1) ck) rfl (by kernel_rfl) (by kernel_rfl) (by kernel_rfl) (fun _ _ _ h=>h) (Or.inl ⟨by rfl,?_⟩) (by assumption) ?_
 ·(intro w hSw; obtain ⟨hS1,hS2,hS3⟩:=hSw; obtain ⟨x0,x1,x2,x3,x4,x5,x6⟩:=zp hS1; obtain ⟨y0,y1,y2,y3,y4,y5,y6⟩:=zp hS2; have e0:=hS3 0 _ rfl; have e1:=hS3 1 _ rfl; have e2:=hS3 2 _ rfl; have e3:=hS3 3 _ rfl; have e4:=hS3 4 _ rfl; have e5:=hS3 5 _ rfl; have e6:=hS3 6 _ rfl; clear hS1 hS2 hS3; go_simp; try omega)
 try simp only [Act.put,qq]
 refine wpAnyH_take (i:=2) (v:=.pointer (some ⟨gk',0,none⟩)) rfl (by kernel_rfl) (by kernel_rfl) (by kernel_rfl) (fun _ _ _ h=>h) (Or.inl ⟨by rfl,?_⟩) (by assumption) ?_
 ·(intro w hSw; obtain ⟨hS1,hS2,hS3⟩:=hSw; obtain ⟨x0,x1,x2,x3,x4,x5,x6⟩:=zp hS1; obtain ⟨y0,y1,y2,y3,y4,y5,y6⟩:=zp hS2; have e0:=hS3 0 _ rfl; have e1:=hS3 1 _ rfl; have e2:=hS3 2 _ rfl; have e3:=hS3 3 _ rfl; have e4:=hS3 4 _ rfl; have e5:=hS3 5 _ rfl; have e6:=hS3 6 _ rfl; clear hS1 hS2 hS3; go_simp; try omega)
 try simp only [Act.put,qq]
 refine wpAnyH_take (i:=3) (v:=.agg #[r0,r1,r2,r3,r4,r5,r6]) rfl (by kernel_rfl) (by kernel_rfl) (by kernel_rfl) (fun _ _ _ h=>h) (Or.inl ⟨by rfl,?_⟩) (by assumption) ?_
 ·(intro w hSw; obtain ⟨hS1,hS2,hS3⟩:=hSw; obtain ⟨x0,x1,x2,x3,x4,x5,x6⟩:=zp hS1; obtain ⟨y0,y1,y2,y3,y4,y5,y6⟩:=zp hS2; have e0:=hS3 0 _ rfl; have e1:=hS3 1 _ rfl; have e2:=hS3 2 _ rfl; have e3:=hS3 3 _ rfl; have e4:=hS3 4 _ rfl; have e5:=hS3 5 _ rfl; have e6:=hS3 6 _ rfl; clear hS1 hS2 hS3; go_simp; try omega)
 try simp only [Act.put,qq]
 refine wpAnyH_take (i:=4) (v:=.agg #[.int .i64 11,.string (ba t),.int .i64 num,.int .i64 pl,.slice pn nms.length cn,.slice pp pls.length cp,.slice pv ks.length cv]) rfl (by kernel_rfl) (by kernel_rfl) (by kernel_rfl) (fun _ _ _ h=>h) (Or.inl ⟨by rfl,?_⟩) (by assumption) ?_
 ·(intro w hSw; obtain ⟨hS1,hS2,hS3⟩:=hSw; obtain ⟨x0,x1,x2,x3,x4,x5,x6⟩:=zp hS1; obtain ⟨y0,y1,y2,y3,y4,y5,y6⟩:=zp hS2; have e0:=hS3 0 _ rfl; have e1:=hS3 1 _ rfl; have e2:=hS3 2 _ rfl; have e3:=hS3 3 _ rfl; have e4:=hS3 4 _ rfl; have e5:=hS3 5 _ rfl; have e6:=hS3 6 _ rfl; clear hS1 hS2 hS3; go_simp; try omega)
 try simp only [Act.put,qq]
 refine qU (i:=5) (by kernel_rfl) rfl (fun K hK=>?_)
 refine jn (by rfl) 34 _ _ rfl (w.heap.size+1) #[r0,r1,r2,r3,r4,r5,r6] rfl rfl 34 _ R1.out (by kernel_rfl) rfl HAl.out ?_
 rw [hW6]
 refine hK.out _ _ (HS5.out) (fun hHeld=>?_)
 clear hK K
 try simp only [Act.put,qq]
 refine qU (i:=6) (by kernel_rfl) rfl (fun K hK=>?_)
 refine jn (by rfl) 34 _ _ rfl (w.heap.size+2) #[.int .i64 11,.string (ba t),.int .i64 num,.int .i64 pl,.slice pn nms.length cn,.slice pp pls.length cp,.slice pv ks.length cv] rfl rfl 34 _ R2.out (by kernel_rfl) rfl HAm.out ?_
 rw [hW7]
 refine hK.out _ _ (HS6.out) (fun hHeld=>?_)
 clear hK K
 try simp only [Act.put,qq]
 refine wpAnyH_done (by kernel_rfl) ?_ _
 clear hHeld
 go_wp2_with fail
 obtain ⟨p0,p1,p2,p3,p4,p5,p6⟩:=zp J1.out
 obtain ⟨t0,t1,t2,t3,t4,t5,t6⟩:=zp J2.out
 refine bodyPost_ret (v:=.tuple #[.agg #[r0,r1,r2,r3,r4,r5,r6],.agg #[.int .i64 11,.string (ba t),.int .i64 num,.int .i64 pl,.slice pn nms.length cn,.slice pp pls.length cp,.slice pv ks.length cv]]) (by simp [results,Tryz.results154,go_sem,p0,p1,p2,p3,p4,p5,p6,t0,t1,t2,t3,t4,t5,t6]) rfl ?_
 obtain ⟨o1,o2,o3,o4,o5,o6⟩:=HN.out
 have hz:=HX.out.2.2
 have hw4:=B4.out.size
 refine ⟨fw7.out.bl (by simp),_,_,_,_,_,_,_,_,_,_,_,_,_,_,fr,f1++(f2++(fv++fks)),rfl,o3.fr fw7.out (by simp),?_,?_,?_⟩
 ·have rm7:=RM.out.fr fW47.out (fun b hb=>by have:=NV.out b hb; simp; omega)
  exact NdM.mk (o1.fr fw7.out (by simp)) (o2.fr fw7.out (by simp)) rm7 (o4.fr fw7.out (by simp))
 ·have hfv:fv.Nodup∧∀ b∈fv,w.heap.size≤b:=by
   refine ⟨?_,fun b hb=>by have:=NV.out b hb; omega⟩
   rcases RM.out with ⟨_,_,e,_⟩ | ⟨_,_,x,_,e⟩
   ·rw [e]; exact List.nodup_nil
   ·rw [e]; exact List.nodup_cons.2 ⟨by simp,List.nodup_nil⟩
  have hold:∀ b∈fr++(f1++(f2++fks)),b < w.heap.size:=fun b hb=>by
   simp only [List.mem_append] at hb
   rcases hb with h | h | h | h
   ·exact o3.lt b h
   ·exact o1.lt b h
   ·exact o2.lt b h
   ·exact o4.lt b h
  have hq:(fr++(f1++(f2++fks))).Nodup:=by
   have h0:List.Sublist (f1++(f2++(fr++fks))) (f1++(f2++([gk']++(fr++fks)))):=List.Sublist.append (List.Sublist.refl _) (List.Sublist.append (List.Sublist.refl _) (List.sublist_append_right _ _));refine (List.Perm.nodup_iff ?_).1 (h0.nodup o5);have p1:List.Perm (f1++(f2++(fr++fks))) ((f1++f2)++(fr++fks)):=by rw [List.append_assoc]
   have p2:List.Perm ((f1++f2)++(fr++fks)) (fr++((f1++f2)++fks)):=by
    have:=List.Perm.append_right fks (List.perm_append_comm (l₁:=f1++f2) (l₂:=fr))
    simpa using this
   have p3:List.Perm (fr++((f1++f2)++fks)) (fr++(f1++(f2++fks))):=by rw [List.append_assoc]
   exact (p1.trans p2).trans p3
  have hq2:(fv++(fr++(f1++(f2++fks)))).Nodup:=List.nodup_append.2 ⟨hfv.1,hq,fun a ha b hb e=>by have:=hfv.2 a ha; have:=hold b hb; omega⟩
  refine (List.Perm.nodup_iff ?_).1 hq2;have p1:List.Perm (fv++(fr++(f1++(f2++fks)))) ((fr++(f1++f2))++(fv++fks)):=by
   have:=List.Perm.append_right fks (List.perm_append_comm (l₁:=fv) (l₂:=fr++(f1++f2)))
   simpa using this
  refine p1.trans ?_;simp
 ·intro b hb
  simp only [List.mem_append,List.mem_cons,List.mem_singleton] at hb ⊢
  rcases hb with h | h | h | h | h
  ·exact Or.inl (Or.inr (Or.inr (Or.inr (Or.inl h))))
  ·exact Or.inl (Or.inl h)
  ·exact Or.inl (Or.inr (Or.inl h))
  ·right; have:=NV.out b h; omega
  ·exact Or.inl (Or.inr (Or.inr (Or.inr (Or.inr h))))
end Go.Proofs.YtfhkhmgodkheaaaGreatDoor
