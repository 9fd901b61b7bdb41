import Derived.Test.YtfhkhmgodkheaaaGreatDoorQCG26PRd
import Derived.Deep.RegionHeld3
import Derived.Test.YtfhkhmgodkheaaaGreatDoorQCG08TSym
import Derived.Test.YtfhkhmgodkheaaaGreatDoorQCG07PTree
import Derived.Test.YtfhkhmgodkheaaaGreatDoorQCG04LKnown
set_option linter.unusedSimpArgs false
set_option linter.unusedVariables false
set_option maxRecDepth 1000000
set_option maxHeartbeats 16000000
namespace Go.Proofs.YtfhkhmgodkheaaaGreatDoor
open Go.RowKit Go.Maps
theorem read_good (wf:Nat) (ew:Enters Tryz.prog wf) (src:ByteArray) (ts:Ts) (t:Src) (s9:Ps) (h9:s9.code=0) (w:World) (hT:Tab w) (hs:src.size≤140737488355328) (hl:LexR (lst src) ts 0 0) (hok:Okq ts ⟨0,0,0,0⟩) (hW:∀ P g c V,Pr V P g c ts ⟨0,0,0,0⟩→Calls Tryz.prog wf #[.pointer (some ⟨P,0,none⟩)] V (PostR P g c ts V (.ok t s9))) :
  Calls Tryz.prog 24 #[.string src,.func (.func wf) #[] #[]] w fun e w'=>Bl w w'∧∃ t0 t1 t2 t3 t4 t5 ft,e=.returned (.tuple #[.agg #[t0,t1,t2,t3,t4,t5],.agg #[.int .i64 0,.int .i64 0]])∧SrM w' t (.agg #[t0,t1,t2,t3,t4,t5]) ft∧Apt w.heap.size ft:=by
 have hmf:∀ (fn:Fn) (first cap:Array Value) (w:World),(Instr.makeFunc fn first cap).run Tryz.prog w=.ok (.func fn first cap) w:=fun _ _ _ _=>rfl
 obtain ⟨W1,hW1⟩:∃ X,(w.alloc (.cells #[.string ⟨#[]⟩,.int .i64 0,.int .i64 0,.slice none 0 0,.slice none 0 0,.slice none 0 0] 27)).alloc (.cells #[.int .i64 0,.int .i64 0] 30)=X:=⟨_,rfl⟩
 have b1:Bl w W1:=hW1▸(Bl.alloc _ _).trans (Bl.alloc _ _)
 have s1:W1.heap.size=w.heap.size+2:=by rw [← hW1]; simp
 have g1:W1.heap[w.heap.size]?=some z6:=by rw [← hW1,Below.heap_alloc _ _ _ (by simp)]; exact heap_alloc_new w _
 have g2:W1.heap[w.heap.size+1]?=some (.cells #[.int .i64 0,.int .i64 0] 30 (0,0)):=by
  have:=heap_alloc_new (w.alloc (.cells #[.string ⟨#[]⟩,.int .i64 0,.int .i64 0,.slice none 0 0,.slice none 0 0,.slice none 0 0] 27)) (.cells #[.int .i64 0,.int .i64 0] 30);rw [show (w.alloc (.cells #[.string ⟨#[]⟩,.int .i64 0,.int .i64 0,.slice none 0 0,.slice none 0 0,.slice none 0 0] 27)).heap.size=w.heap.size+1 by simp,hW1] at this
  exact this
 have HTk:=qd (tokens_v hl hs W1 (hT.mono b1))
 have HW:=qd hW
 have G1:=qd g1
 have G2:=qd g2
 have B1:=qd b1
 have HS1:=qd s1
 have hlt:=hok.lt
 have hlen:=hok.len
 unfold Enters at ew
 clear hl hs hT b1 s1 g1 g2 hW
 go_enter_defers Tryz.func24,Tryz.ntmps24
 go_wp2_with (first
  | (
   go_at_call 19; refine HTk.out.mono ?_; rintro e w2 ⟨p,cap,rfl,r2,p2,l2,m2,b2⟩
   obtain ⟨gt,rfl⟩:=p2 (by omega)
   have E1:=qd ((b2.block _ (qf G1.out)).trans G1.out);have E2:=qd ((b2.block _ (qf G2.out)).trans G2.out);obtain ⟨W3,hW3⟩:∃ X,w2.setRow (w.heap.size+1) #[.int .i64 0,.int .i64 0]=X:=⟨_,rfl⟩;have f3:Fr [w.heap.size+1] w2 W3:=hW3▸qG _ _ _;have hz2:=b2.size;have hz1:=HS1.out;have k1:W3.heap[w.heap.size]?=some z6:=(f3.block _ (by omega) (by simp)).trans E1.out
   have k2:W3.heap[w.heap.size+1]?=some (.cells #[.int .i64 0,.int .i64 0] 30 (0,0)):=hW3▸setRow_heap _ _ _ _ 30 (0,0) E2.out;have c20:W3.cell? ⟨w.heap.size+1,0,none⟩=some (.int .i64 0):=by rw [qh k2]; rfl
   obtain ⟨W4,hW4⟩:∃ X,W3.alloc (.cells #[.slice (some ⟨gt,0,none⟩) ts.length cap,.int .i64 0,.int .i64 0,.int .i64 0,.int .i64 0] 77)=X:=⟨_,rfl⟩;have b4:Bl W3 W4:=hW4▸Bl.alloc _ _;have hz3:=f3.size;have n1:=qd ((b4.block _ (qf k1)).trans k1);have n2:=qd ((b4.block _ (qf k2)).trans k2);have PR:Hid (Pr W4 W3.heap.size gt cap ts ⟨0,0,0,0⟩):=qd (pr_new hW4 r2 f3 (tok_blk r2 hlt E2.out) hlt);have B4:Hid (Bl w W4):=qd (((Fr.ofBl (B1.out.trans b2) []).trans (f3.trans (Fr.ofBl b4 _) (fun b hb=>Or.inl hb)) (by simp)).bl (by simp))
   have Z4:Hid (w.heap.size+2≤W3.heap.size∧W3.heap.size < W4.heap.size):=qd ⟨by omega,by rw [← hW4]; simp⟩
   clear r2 p2 l2 m2 b2 f3 k1 k2 b4 hz1 hz2 hz3)
  | (refine wpList_store_row rfl 30 _ _ rfl (w.heap.size+1) #[.int .i64 0,.int .i64 0] rfl rfl 30 _ E2.out (by kernel_rfl) rfl (by kernel_rfl) ?_; rw [hW3])
  | (
   go_at_fn wf; refine (HW.out _ _ _ _ PR.out).mono ?_; rintro e w5 ⟨f5,t0,t1,t2,t3,t4,t5,ft,rfl,n5,a5,p5⟩
   have m1:Hid (w5.heap[w.heap.size]?=some (.cells #[.string ⟨#[]⟩,.int .i64 0,.int .i64 0,.slice none 0 0,.slice none 0 0,.slice none 0 0] 27 (0,0))):=qd ((f5.block _ (qf n1.out) (by have:=Z4.out.1; simp; omega)).trans n1.out)
   have m2:=qd ((f5.block _ (qf n2.out) (by have:=Z4.out.1; simp; omega)).trans n2.out)
   have B5:Hid (Bl w w5):=qd (((Fr.ofBl B4.out []).trans f5 (by have:=Z4.out.1; simp; omega)).bl (by simp))
   have A5:=qd a5;have N5:=qd n5;have T5:=qd n5.all.1;obtain ⟨W6,hW6⟩:∃ X,w5.setRow w.heap.size #[t0,t1,t2,t3,t4,t5]=X:=⟨_,rfl⟩;have f6:Fr [w.heap.size] w5 W6:=hW6▸qG _ _ _;have p6:Pr W6 W3.heap.size gt cap ts s9∨True:=Or.inr trivial;have q3:W6.heap[W3.heap.size]?=some (.cells #[.slice (some ⟨gt,0,none⟩) ts.length cap,.int .i64 s9.pos,.int .i64 s9.opn,.int .i64 s9.code,.int .i64 s9.place] 77 (0,0)):=(f6.block _ (qf p5.par) (by have:=Z4.out.1; simp; omega)).trans p5.par
   have q4:W6.cell? ⟨W3.heap.size,3,none⟩=some (.int .i64 0):=by rw [qh q3,h9]; rfl
   have r1:Hid (W6.heap[w.heap.size]?=some (.cells #[t0,t1,t2,t3,t4,t5] 27 (0,0))):=qd (hW6▸setRow_heap _ _ _ _ 27 (0,0) m1.out);have r2:W6.heap[w.heap.size+1]?=some (.cells #[.int .i64 0,.int .i64 0] 30 (0,0)):=(f6.block _ (qf m2.out) (by simp)).trans m2.out
   obtain ⟨x0,x1,x2,x3,x4,x5⟩:=jo r1.out;obtain ⟨W7,hW7⟩:∃ X,W6.setRow w.heap.size #[t0,t1,t2,t3,t4,t5]=X:=⟨_,rfl⟩;have f7:Fr [w.heap.size] W6 W7:=hW7▸qG _ _ _;have s1:W7.heap[w.heap.size]?=some (.cells #[t0,t1,t2,t3,t4,t5] 27 (0,0)):=hW7▸setRow_heap _ _ _ _ 27 (0,0) r1.out;have s2:Hid (W7.heap[w.heap.size+1]?=some (.cells #[.int .i64 0,.int .i64 0] 30 (0,0))):=qd ((f7.block _ (qf r2) (by simp)).trans r2)
   obtain ⟨W8,hW8⟩:∃ X,W7.setRow (w.heap.size+1) #[.int .i64 0,.int .i64 0]=X:=⟨_,rfl⟩;have f8:Fr [w.heap.size+1] W7 W8:=hW8▸qG _ _ _;have y1:=qd ((f8.block _ (qf s1) (by simp)).trans s1)
   have y2:Hid (W8.heap[w.heap.size+1]?=some (.cells #[.int .i64 0,.int .i64 0] 30 (0,0))):=qd (hW8▸setRow_heap _ _ _ _ 30 (0,0) s2.out);have lo:∀ b∈ft,w.heap.size+1 < b:=fun b hb=>by have:=a5.lo b hb; have:=Z4.out; omega
   have N8:=qd (((n5.fr f6 (fun b hb=>by have:=lo b hb; simp; omega)).fr f7 (fun b hb=>by have:=lo b hb; simp; omega)).fr f8 (fun b hb=>by have:=lo b hb; simp; omega))
   have A8:Hid (Apt w.heap.size ft):=qd (a5.mono (by have:=Z4.out; omega))
   have B8:Hid (Bl w W8):=qd (((((Fr.ofBl B5.out []).trans f6 (by simp)).trans f7 (by simp)).trans f8 (by simp)).bl (by simp))
   clear f5 n5 a5 p5 f6 p6 q3 r2 f7 s1 f8 lo)
  | (refine wpList_store_row rfl 27 _ _ rfl w.heap.size #[t0,t1,t2,t3,t4,t5] rfl rfl 27 _ m1.out (by kernel_rfl) rfl T5.out ?_; rw [hW6])
  | (refine wpList_store_row rfl 27 _ _ rfl w.heap.size #[t0,t1,t2,t3,t4,t5] rfl rfl 27 _ r1.out (by kernel_rfl) rfl T5.out ?_; rw [hW7])
  | (refine wpList_store_row rfl 30 _ _ rfl (w.heap.size+1) #[.int .i64 0,.int .i64 0] rfl rfl 30 _ s2.out (by kernel_rfl) rfl (by kernel_rfl) ?_; rw [hW8]))
 refine leaves_cons (f:=33) (args:=#[.pointer (some ⟨w.heap.size+1,0,none⟩)]) (by simp) (by simp [go_sem]) ?_
 refine (catch_idle (w.heap.size+1) _).mono ?_
 rintro e u' w6 ⟨rfl,rfl,rfl⟩
 obtain ⟨z0,z1,z2,z3,z4,z5⟩:=jo y1.out
 have u0:w6.cell? ⟨w.heap.size+1,0,none⟩=some (.int .i64 0):=by rw [qh y2.out]; rfl
 have u1:w6.cell? ⟨w.heap.size+1,1,none⟩=some (.int .i64 0):=by rw [qh y2.out]; rfl
 simp [Leaves,settle,results,Tryz.results24,go_sem,z0,z1,z2,z3,z4,z5,u0,u1]
 first
  | exact ⟨B8.out,t0,t1,t2,t3,t4,t5,⟨rfl,rfl,rfl,rfl,rfl,rfl⟩,ft,N8.out,A8.out⟩
  | exact ⟨B8.out,t0,t1,t2,t3,t4,t5,⟨⟨rfl,rfl,rfl,rfl,rfl,rfl⟩,ft,N8.out,A8.out⟩⟩
  | exact ⟨B8.out,t0,t1,t2,t3,t4,t5,rfl,ft,N8.out,A8.out⟩
theorem read_lex (v:Value) (src:ByteArray) (c a:Nat) (hc:c≠0) (w:World) (hT:Tab w) (hs:src.size≤140737488355328) (hl:LexR (lst src) [] c a) :
  Calls Tryz.prog 24 #[.string src,v] w fun e w'=>Bl w w'∧e=.returned (.tuple #[noSrc,.agg #[.int .i64 c,.int .i64 a]]):=by
 obtain ⟨W1,hW1⟩:∃ X,(w.alloc (.cells #[.string ⟨#[]⟩,.int .i64 0,.int .i64 0,.slice none 0 0,.slice none 0 0,.slice none 0 0] 27)).alloc (.cells #[.int .i64 0,.int .i64 0] 30)=X:=⟨_,rfl⟩
 have b1:Bl w W1:=hW1▸(Bl.alloc _ _).trans (Bl.alloc _ _)
 have s1:W1.heap.size=w.heap.size+2:=by rw [← hW1]; simp
 have g1:W1.heap[w.heap.size]?=some z6:=by rw [← hW1,Below.heap_alloc _ _ _ (by simp)]; exact heap_alloc_new w _
 have g2:W1.heap[w.heap.size+1]?=some (.cells #[.int .i64 0,.int .i64 0] 30 (0,0)):=by
  have:=heap_alloc_new (w.alloc (.cells #[.string ⟨#[]⟩,.int .i64 0,.int .i64 0,.slice none 0 0,.slice none 0 0,.slice none 0 0] 27)) (.cells #[.int .i64 0,.int .i64 0] 30);rw [show (w.alloc (.cells #[.string ⟨#[]⟩,.int .i64 0,.int .i64 0,.slice none 0 0,.slice none 0 0,.slice none 0 0] 27)).heap.size=w.heap.size+1 by simp,hW1] at this
  exact this
 have HTk:=qd (tokens_v hl hs W1 (hT.mono b1))
 have G1:=qd g1
 have G2:=qd g2
 have B1:=qd b1
 have HS1:=qd s1
 have qc:((c:Int) != 0)=true:=by rw [bne_iff_ne]; omega
 clear hl hs hT b1 s1 g1 g2 hc
 go_enter_defers Tryz.func24,Tryz.ntmps24
 go_wp2_with (first
  | (
   go_at_call 19; refine HTk.out.mono ?_; rintro e w2 ⟨p,cap,rfl,r2,p2,l2,m2,b2⟩
   have E1:=qd ((b2.block _ (qf G1.out)).trans G1.out);have E2:=qd ((b2.block _ (qf G2.out)).trans G2.out);obtain ⟨W3,hW3⟩:∃ X,w2.setRow (w.heap.size+1) #[.int .i64 c,.int .i64 a]=X:=⟨_,rfl⟩;have f3:Fr [w.heap.size+1] w2 W3:=hW3▸qG _ _ _;have hz2:=b2.size;have hz1:=HS1.out;have k1:Hid (W3.heap[w.heap.size]?=some z6):=qd ((f3.block _ (by omega) (by simp)).trans E1.out)
   have k2:Hid (W3.heap[w.heap.size+1]?=some (.cells #[.int .i64 c,.int .i64 a] 30 (0,0))):=qd (hW3▸setRow_heap _ _ _ _ 30 (0,0) E2.out);have c20:W3.cell? ⟨w.heap.size+1,0,none⟩=some (.int .i64 c):=by rw [qh k2.out]; rfl
   have c21:W3.cell? ⟨w.heap.size+1,1,none⟩=some (.int .i64 a):=by rw [qh k2.out]; rfl
   have B3:Hid (Bl w W3):=qd (((Fr.ofBl (B1.out.trans b2) []).trans f3 (by simp)).bl (by simp))
   clear r2 p2 l2 m2 b2 f3 hz1 hz2)
  | (refine wpList_store_row rfl 30 _ _ rfl (w.heap.size+1) #[.int .i64 c,.int .i64 a] rfl rfl 30 _ E2.out (by kernel_rfl) rfl (by kernel_rfl) ?_; rw [hW3]))
 refine wp_region_noPanic ?_
 refine wp_region_held_drew (S:=fun V=>V.cell? ⟨w.heap.size+1,0,none⟩=some (.int .i64 c)∧V.cell? ⟨w.heap.size+1,1,none⟩=some (.int .i64 a)) (by kernel_rfl) ⟨c20,c21⟩ (fun hHeld=>?_)
 refine wpAnyH_take (i:=0) (v:=noSrc) rfl (by kernel_rfl) (by kernel_rfl) (by kernel_rfl) (fun _ _ _ h=>h) (Or.inl ⟨by rfl,?_⟩) (by assumption) ?_
 ·(intro w hSw; go_simp; try rfl)
 try simp only [Act.put,qq]
 refine wpAnyH_take (i:=1) (v:=.agg #[.int .i64 c,.int .i64 a]) rfl (by kernel_rfl) (by kernel_rfl) (by kernel_rfl) (fun _ _ _ h=>h) (Or.inl ⟨by rfl,?_⟩) (by assumption) ?_
 ·(intro w hSw; obtain ⟨h1,h2⟩:=hSw; go_simp; try rfl)
 try simp only [Act.put,qq]
 refine qU (i:=2) (by kernel_rfl) rfl (fun K hK=>?_)
 refine jn (by rfl) 27 _ _ rfl w.heap.size #[.string ⟨#[]⟩,.int .i64 0,.int .i64 0,.slice none 0 0,.slice none 0 0,.slice none 0 0] rfl rfl 27 _ k1.out (by kernel_rfl) rfl (by kernel_rfl) ?_
 have hne:w.heap.size+1≠w.heap.size:=by omega
 refine hK.out _ _ ⟨jC k2.out hne 0,jC k2.out hne 1⟩ (fun hHeld2=>?_)
 clear hK K
 try simp only [Act.put,qq]
 refine qU (i:=3) (by kernel_rfl) rfl (fun K hK=>?_)
 have k3:((W3.drew).setRow w.heap.size #[.string ⟨#[]⟩,.int .i64 0,.int .i64 0,.slice none 0 0,.slice none 0 0,.slice none 0 0]).heap[w.heap.size+1]?=some (.cells #[.int .i64 c,.int .i64 a] 30 (0,0)):=(setRow_other _ _ _ _ hne).trans k2.out
 refine jn (by rfl) 30 _ _ rfl (w.heap.size+1) #[.int .i64 c,.int .i64 a] rfl rfl 30 _ k3 (by kernel_rfl) rfl (by kernel_rfl) ?_
 have k4:=setRow_heap _ _ _ #[.int .i64 c,.int .i64 a] 30 (0,0) k3
 refine hK.out _ _ ⟨by rw [qh k4]; rfl,by rw [qh k4]; rfl⟩ (fun hHeld3=>?_)
 clear hK K
 try simp only [Act.put,qq]
 refine wpAnyH_done (by kernel_rfl) ?_ _
 have k5:((W3.drew).setRow w.heap.size #[.string ⟨#[]⟩,.int .i64 0,.int .i64 0,.slice none 0 0,.slice none 0 0,.slice none 0 0]).heap[w.heap.size]?=some z6:=setRow_heap _ _ _ _ 27 (0,0) k1.out
 have f4:Fr [w.heap.size] W3 ((W3.drew).setRow w.heap.size #[.string ⟨#[]⟩,.int .i64 0,.int .i64 0,.slice none 0 0,.slice none 0 0,.slice none 0 0]):=(Fr.ofBl (qV W3) _).trans (qG _ _ _) (fun b hb=>Or.inl hb)
 generalize ((W3.drew).setRow w.heap.size #[.string ⟨#[]⟩,.int .i64 0,.int .i64 0,.slice none 0 0,.slice none 0 0,.slice none 0 0])=W4 at *
 have f5:Fr [w.heap.size+1] W4 (W4.setRow (w.heap.size+1) #[.int .i64 c,.int .i64 a]):=qG _ _ _
 have k6:=(f5.block _ (qf k5) (by simp)).trans k5
 generalize W4.setRow (w.heap.size+1) #[.int .i64 c,.int .i64 a]=W5 at *
 have B5:Hid (Bl w W5):=qd ((((Fr.ofBl B3.out []).trans f4 (by simp)).trans f5 (by simp)).bl (by simp))
 obtain ⟨x0,x1,x2,x3,x4,x5⟩:=jo k6
 have y0:W5.cell? ⟨w.heap.size+1,0,none⟩=some (.int .i64 c):=by rw [qh k4]; rfl
 have y1:W5.cell? ⟨w.heap.size+1,1,none⟩=some (.int .i64 a):=by rw [qh k4]; rfl
 refine NoPanic.normal ?_
 clear f4 f5 k3 k4 k5 k6 hHeld hHeld2 hHeld3 k1 k2 c20 c21 B3
 go_wp2_with fail
 simp [bodyPostD,Leaves,settle,results,Tryz.results24,go_sem,x0,x1,x2,x3,x4,x5,y0,y1,noSrc]
 exact B5.out
theorem read_pass (wf:Nat) (ew:Enters Tryz.prog wf) (src:ByteArray) (ts:Ts) (t:Src) (s9:Ps) (h9:s9.code≠0) (w:World) (hT:Tab w) (hs:src.size≤140737488355328) (hl:LexR (lst src) ts 0 0) (hok:Okq ts ⟨0,0,0,0⟩) (hW:∀ P g c V,Pr V P g c ts ⟨0,0,0,0⟩→Calls Tryz.prog wf #[.pointer (some ⟨P,0,none⟩)] V (PostR P g c ts V (.ok t s9))) :
  Calls Tryz.prog 24 #[.string src,.func (.func wf) #[] #[]] w fun e w'=>Bl w w'∧e=.returned (.tuple #[noSrc,.agg #[.int .i64 s9.code,.int .i64 s9.place]]):=by
 have hmf:∀ (fn:Fn) (first cap:Array Value) (w:World),(Instr.makeFunc fn first cap).run Tryz.prog w=.ok (.func fn first cap) w:=fun _ _ _ _=>rfl
 obtain ⟨W1,hW1⟩:∃ X,(w.alloc (.cells #[.string ⟨#[]⟩,.int .i64 0,.int .i64 0,.slice none 0 0,.slice none 0 0,.slice none 0 0] 27)).alloc (.cells #[.int .i64 0,.int .i64 0] 30)=X:=⟨_,rfl⟩
 have b1:Bl w W1:=hW1▸(Bl.alloc _ _).trans (Bl.alloc _ _)
 have s1:W1.heap.size=w.heap.size+2:=by rw [← hW1]; simp
 have g1:W1.heap[w.heap.size]?=some z6:=by rw [← hW1,Below.heap_alloc _ _ _ (by simp)]; exact heap_alloc_new w _
 have g2:W1.heap[w.heap.size+1]?=some (.cells #[.int .i64 0,.int .i64 0] 30 (0,0)):=by
  have:=heap_alloc_new (w.alloc (.cells #[.string ⟨#[]⟩,.int .i64 0,.int .i64 0,.slice none 0 0,.slice none 0 0,.slice none 0 0] 27)) (.cells #[.int .i64 0,.int .i64 0] 30);rw [show (w.alloc (.cells #[.string ⟨#[]⟩,.int .i64 0,.int .i64 0,.slice none 0 0,.slice none 0 0,.slice none 0 0] 27)).heap.size=w.heap.size+1 by simp,hW1] at this
  exact this
 have HTk:=qd (tokens_v hl hs W1 (hT.mono b1))
 have HW:=qd hW
 have G1:=qd g1
 have G2:=qd g2
 have B1:=qd b1
 have HS1:=qd s1
 have hlt:=hok.lt
 have hlen:=hok.len
 unfold Enters at ew
 have qc:((s9.code:Int) != 0)=true:=by rw [bne_iff_ne]; omega
 clear hl hs hT b1 s1 g1 g2 hW h9
 go_enter_defers Tryz.func24,Tryz.ntmps24
 go_wp2_with (first
  | (
   go_at_call 19; refine HTk.out.mono ?_; rintro e w2 ⟨p,cap,rfl,r2,p2,l2,m2,b2⟩
   obtain ⟨gt,rfl⟩:=p2 (by omega)
   have E1:=qd ((b2.block _ (qf G1.out)).trans G1.out);have E2:=qd ((b2.block _ (qf G2.out)).trans G2.out);obtain ⟨W3,hW3⟩:∃ X,w2.setRow (w.heap.size+1) #[.int .i64 0,.int .i64 0]=X:=⟨_,rfl⟩;have f3:Fr [w.heap.size+1] w2 W3:=hW3▸qG _ _ _;have hz2:=b2.size;have hz1:=HS1.out;have k1:W3.heap[w.heap.size]?=some z6:=(f3.block _ (by omega) (by simp)).trans E1.out
   have k2:W3.heap[w.heap.size+1]?=some (.cells #[.int .i64 0,.int .i64 0] 30 (0,0)):=hW3▸setRow_heap _ _ _ _ 30 (0,0) E2.out;have c20:W3.cell? ⟨w.heap.size+1,0,none⟩=some (.int .i64 0):=by rw [qh k2]; rfl
   obtain ⟨W4,hW4⟩:∃ X,W3.alloc (.cells #[.slice (some ⟨gt,0,none⟩) ts.length cap,.int .i64 0,.int .i64 0,.int .i64 0,.int .i64 0] 77)=X:=⟨_,rfl⟩;have b4:Bl W3 W4:=hW4▸Bl.alloc _ _;have hz3:=f3.size;have n1:=qd ((b4.block _ (qf k1)).trans k1);have n2:=qd ((b4.block _ (qf k2)).trans k2);have PR:Hid (Pr W4 W3.heap.size gt cap ts ⟨0,0,0,0⟩):=qd (pr_new hW4 r2 f3 (tok_blk r2 hlt E2.out) hlt);have B4:Hid (Bl w W4):=qd (((Fr.ofBl (B1.out.trans b2) []).trans (f3.trans (Fr.ofBl b4 _) (fun b hb=>Or.inl hb)) (by simp)).bl (by simp))
   have Z4:Hid (w.heap.size+2≤W3.heap.size∧W3.heap.size < W4.heap.size):=qd ⟨by omega,by rw [← hW4]; simp⟩
   clear r2 p2 l2 m2 b2 f3 k1 k2 b4 hz1 hz2 hz3)
  | (refine wpList_store_row rfl 30 _ _ rfl (w.heap.size+1) #[.int .i64 0,.int .i64 0] rfl rfl 30 _ E2.out (by kernel_rfl) rfl (by kernel_rfl) ?_; rw [hW3])
  | (
   go_at_fn wf; refine (HW.out _ _ _ _ PR.out).mono ?_; rintro e w5 ⟨f5,t0,t1,t2,t3,t4,t5,ft,rfl,n5,a5,p5⟩
   have m1:Hid (w5.heap[w.heap.size]?=some (.cells #[.string ⟨#[]⟩,.int .i64 0,.int .i64 0,.slice none 0 0,.slice none 0 0,.slice none 0 0] 27 (0,0))):=qd ((f5.block _ (qf n1.out) (by have:=Z4.out.1; simp; omega)).trans n1.out)
   have m2:=qd ((f5.block _ (qf n2.out) (by have:=Z4.out.1; simp; omega)).trans n2.out)
   have B5:Hid (Bl w w5):=qd (((Fr.ofBl B4.out []).trans f5 (by have:=Z4.out.1; simp; omega)).bl (by simp))
   have A5:=qd a5;have N5:=qd n5;have T5:=qd n5.all.1;obtain ⟨W6,hW6⟩:∃ X,w5.setRow w.heap.size #[t0,t1,t2,t3,t4,t5]=X:=⟨_,rfl⟩;have f6:Fr [w.heap.size] w5 W6:=hW6▸qG _ _ _;have p6:Pr W6 W3.heap.size gt cap ts s9∨True:=Or.inr trivial;have q3:W6.heap[W3.heap.size]?=some (.cells #[.slice (some ⟨gt,0,none⟩) ts.length cap,.int .i64 s9.pos,.int .i64 s9.opn,.int .i64 s9.code,.int .i64 s9.place] 77 (0,0)):=(f6.block _ (qf p5.par) (by have:=Z4.out.1; simp; omega)).trans p5.par
   have q4:W6.cell? ⟨W3.heap.size,3,none⟩=some (.int .i64 s9.code):=by rw [qh q3]; rfl
   have q5:W6.cell? ⟨W3.heap.size,4,none⟩=some (.int .i64 s9.place):=by rw [qh q3]; rfl
   have r1:Hid (W6.heap[w.heap.size]?=some (.cells #[t0,t1,t2,t3,t4,t5] 27 (0,0))):=qd (hW6▸setRow_heap _ _ _ _ 27 (0,0) m1.out);have r2:Hid (W6.heap[w.heap.size+1]?=some (.cells #[.int .i64 0,.int .i64 0] 30 (0,0))):=qd ((f6.block _ (qf m2.out) (by simp)).trans m2.out)
   have Q3:=qd q3;have B6:Hid (Bl w W6):=qd (((Fr.ofBl B5.out []).trans f6 (by simp)).bl (by simp))
   clear f5 n5 a5 p5 f6 p6 q3)
  | (refine wpList_store_row rfl 27 _ _ rfl w.heap.size #[t0,t1,t2,t3,t4,t5] rfl rfl 27 _ m1.out (by kernel_rfl) rfl T5.out ?_; rw [hW6]))
 refine wp_region_noPanic ?_
 refine wp_region_held_drew (S:=fun V=>V.cell? ⟨W3.heap.size,3,none⟩=some (.int .i64 s9.code)∧V.cell? ⟨W3.heap.size,4,none⟩=some (.int .i64 s9.place)) (by kernel_rfl) ⟨q4,q5⟩ (fun hHeld=>?_)
 refine wpAnyH_take (i:=0) (v:=noSrc) rfl (by kernel_rfl) (by kernel_rfl) (by kernel_rfl) (fun _ _ _ h=>h) (Or.inl ⟨by rfl,?_⟩) (by assumption) ?_
 ·(intro w hSw; go_simp; try rfl)
 try simp only [Act.put,qq]
 refine wpAnyH_take (i:=1) (v:=.pointer (some ⟨W3.heap.size,0,none⟩)) rfl (by kernel_rfl) (by kernel_rfl) (by kernel_rfl) (fun _ _ _ h=>h) (Or.inl ⟨by rfl,?_⟩) (by assumption) ?_
 ·(intro w hSw; go_simp; try rfl)
 try simp only [Act.put,qq]
 refine wpAnyH_take (i:=2) (v:=.pointer (some ⟨W3.heap.size,0,none⟩)) rfl (by kernel_rfl) (by kernel_rfl) (by kernel_rfl) (fun _ _ _ h=>h) (Or.inl ⟨by rfl,?_⟩) (by assumption) ?_
 ·(intro w hSw; go_simp; try rfl)
 try simp only [Act.put,qq]
 refine wpAnyH_take (i:=3) (v:=.pointer (some ⟨W3.heap.size,3,none⟩)) rfl (by kernel_rfl) (by kernel_rfl) (by kernel_rfl) (fun _ _ _ h=>h) (Or.inl ⟨by rfl,?_⟩) (by assumption) ?_
 ·(intro w hSw; go_simp; try rfl)
 try simp only [Act.put,qq]
 refine wpAnyH_take (i:=4) (v:=.agg #[.int .i64 s9.code,.int .i64 s9.place]) rfl (by kernel_rfl) (by kernel_rfl) (by kernel_rfl) (fun _ _ _ h=>h) (Or.inl ⟨by rfl,?_⟩) (by assumption) ?_
 ·(intro w hSw; obtain ⟨h1,h2⟩:=hSw; go_simp; try rfl)
 try simp only [Act.put,qq]
 have hz:=Z4.out
 refine qU (i:=5) (by kernel_rfl) rfl (fun K hK=>?_)
 refine jn (by rfl) 27 _ _ rfl w.heap.size #[.string ⟨#[]⟩,.int .i64 0,.int .i64 0,.slice none 0 0,.slice none 0 0,.slice none 0 0] rfl rfl 27 _ r1.out (by kernel_rfl) rfl (by kernel_rfl) ?_
 have hne:w.heap.size+1≠w.heap.size:=by omega
 have hne3:W3.heap.size≠w.heap.size:=by omega
 have hne4:W3.heap.size≠w.heap.size+1:=by omega
 refine hK.out _ _ ⟨jC Q3.out hne3 3,jC Q3.out hne3 4⟩ (fun hHeld2=>?_)
 clear hK K
 try simp only [Act.put,qq]
 refine qU (i:=6) (by kernel_rfl) rfl (fun K hK=>?_)
 have k3:((W6.drew).setRow w.heap.size #[.string ⟨#[]⟩,.int .i64 0,.int .i64 0,.slice none 0 0,.slice none 0 0,.slice none 0 0]).heap[w.heap.size+1]?=some (.cells #[.int .i64 0,.int .i64 0] 30 (0,0)):=(setRow_other _ _ _ _ hne).trans r2.out
 have k7:((W6.drew).setRow w.heap.size #[.string ⟨#[]⟩,.int .i64 0,.int .i64 0,.slice none 0 0,.slice none 0 0,.slice none 0 0]).heap[W3.heap.size]?=_:=(setRow_other _ _ _ _ hne3).trans Q3.out
 refine jn (by rfl) 30 _ _ rfl (w.heap.size+1) #[.int .i64 s9.code,.int .i64 s9.place] rfl rfl 30 _ k3 (by kernel_rfl) rfl (by kernel_rfl) ?_
 have k4:=setRow_heap _ _ _ #[.int .i64 s9.code,.int .i64 s9.place] 30 (0,0) k3
 refine hK.out _ _ ⟨jC k7 hne4 3,jC k7 hne4 4⟩ (fun hHeld3=>?_)
 clear hK K
 try simp only [Act.put,qq]
 refine wpAnyH_done (by kernel_rfl) ?_ _
 have k5:((W6.drew).setRow w.heap.size #[.string ⟨#[]⟩,.int .i64 0,.int .i64 0,.slice none 0 0,.slice none 0 0,.slice none 0 0]).heap[w.heap.size]?=some z6:=setRow_heap _ _ _ _ 27 (0,0) r1.out
 have f4:Fr [w.heap.size] W6 ((W6.drew).setRow w.heap.size #[.string ⟨#[]⟩,.int .i64 0,.int .i64 0,.slice none 0 0,.slice none 0 0,.slice none 0 0]):=(Fr.ofBl (qV W6) _).trans (qG _ _ _) (fun b hb=>Or.inl hb)
 generalize ((W6.drew).setRow w.heap.size #[.string ⟨#[]⟩,.int .i64 0,.int .i64 0,.slice none 0 0,.slice none 0 0,.slice none 0 0])=W7 at *
 have f5:Fr [w.heap.size+1] W7 (W7.setRow (w.heap.size+1) #[.int .i64 s9.code,.int .i64 s9.place]):=qG _ _ _
 have k6:=qd ((f5.block _ (qf k5) (by simp)).trans k5)
 generalize W7.setRow (w.heap.size+1) #[.int .i64 s9.code,.int .i64 s9.place]=W8 at *
 have B8:Hid (Bl w W8):=qd ((((Fr.ofBl B6.out []).trans f4 (by simp)).trans f5 (by simp)).bl (by simp))
 have K4:=qd k4
 refine NoPanic.normal ?_
 clear f4 f5 k3 k4 k5 k7 hHeld hHeld2 hHeld3 r1 r2 q4 q5 B6 Q3
 go_wp2_with fail
 refine leaves_cons (f:=33) (args:=#[.pointer (some ⟨w.heap.size+1,0,none⟩)]) (by simp) (by simp [go_sem]) ?_
 refine (catch_idle (w.heap.size+1) _).mono ?_
 rintro e u' w9 ⟨rfl,rfl,rfl⟩
 obtain ⟨z0,z1,z2,z3,z4,z5⟩:=jo k6.out
 have u0:w9.cell? ⟨w.heap.size+1,0,none⟩=some (.int .i64 s9.code):=by rw [qh K4.out]; rfl
 have u1:w9.cell? ⟨w.heap.size+1,1,none⟩=some (.int .i64 s9.place):=by rw [qh K4.out]; rfl
 simp [Leaves,settle,results,Tryz.results24,go_sem,z0,z1,z2,z3,z4,z5,u0,u1,noSrc]
 exact B8.out
def wholeP (m:Bool) (ts:Ts) (f:Nat) (s:Ps):Option (Rs Src):=if m=true then methodP ts f s else doitP ts f s
def s0:Ps:=⟨0,0,0,0⟩
def fuelT (ts:Ts):Nat:=16 * zZ ts s0+40
def Reads (m:Bool) (l:Bs) (r:Option Src) (c a:Nat):Prop:=∃ ts c0 a0,LexR l ts c0 a0∧((c0≠0∧r=none∧c=c0∧a=a0)∨(c0=0∧readP ts (wholeP m ts) (fuelT ts)=some (r,c,a)))
theorem txt_lek:∀ (n:Nat) (l:Bs) (x:Bs × Nat),l.length≤n→txt l=some x→x.1.length≤l.length:=by
 intro n
 induction n with
 | zero=>intro l x hk h; have:l=[]:=List.length_eq_zero_iff.1 (by omega); subst this; simp [txt] at h
 | succ n ih =>
  intro l x hk h
  cases l with
  | nil=>simp [txt] at h
  | cons c r =>
   cases r with
   | nil =>
    unfold txt at h
    by_cases hc:c.toNat=39
    ·rw [if_pos hc] at h; injection h with h; subst h; simp
    ·rw [if_neg hc] at h; cases h
   | cons d r =>
    unfold txt at h
    by_cases hc:c.toNat=39
    ·rw [if_pos hc] at h
     by_cases hd:d.toNat=39
     ·rw [if_pos hd] at h
      cases hy:txt r with
      | none=>rw [hy] at h; cases h
      | some y =>
       rw [hy] at h;injection h with h
       subst h;have:=ih r y (by simp at hk; omega) hy
       simp
       omega
     ·rw [if_neg hd] at h; injection h with h; subst h; simp
    ·rw [if_neg hc] at h
     cases hy:txt (d :: r) with
     | none=>rw [hy] at h; cases h
     | some y =>
      rw [hy] at h;injection h with h
      subst h;have:=ih (d :: r) y (by simp at hk ⊢; omega) hy
      simp at this ⊢
      omega
theorem cut_text {l:Bs} {t:Tok} {n:Nat} (h:cut l=some (some t,n)):t.text.length≤l.length:=by
 cases l with
 | nil=>cases h
 | cons c r =>
  unfold cut at h;dsimp only at h
  split at h
  ·cases h
  split at h
  ·cases hc:cmt r with
   | none=>rw [hc] at h; cases h
   | some m=>rw [hc] at h; cases h
  split at h
  ·split at h
   ·injection h with h; injection h with h _; injection h with h; subst h
    exact List.length_take_le' _ _
   ·injection h with h; injection h with h _; injection h with h; subst h
    exact List.length_take_le' _ _
  split at h
  ·split at h
   ·injection h with h; injection h with h _; injection h with h; subst h
    exact Nat.zero_le _
   ·cases h
  split at h
  ·split at h
   ·split at h
    ·injection h with h; injection h with h _; unfold mk at h; injection h with h; subst h
     exact Nat.zero_le _
    ·cases h
   ·injection h with h; injection h with h _; injection h with h; subst h
    exact Nat.le_trans (List.length_take_le' _ _) (by simp)
  split at h
  ·injection h with h; injection h with h _; injection h with h; subst h
   exact List.length_take_le' _ _
  split at h
  ·cases hc:txt r with
   | none=>rw [hc] at h; cases h
   | some m =>
    rw [hc] at h;injection h with h; injection h with h _; injection h with h; subst h
    have:=txt_lek r.length r m (Nat.le_refl _) hc;simp;omega
  split at h
  ·injection h with h; injection h with h _; unfold mk at h; injection h with h; subst h
   exact Nat.zero_le _
  split at h
  ·cases h
  ·injection h with h; injection h with h _; unfold mk at h; injection h with h; subst h
   exact Nat.zero_le _
theorem lx_facts {p:Nat} {l:Bs} {ts:List (Tok × Nat)} {e:Option Nat} (h:Lx p l ts e):ts.length≤l.length∧∀ x∈ts,x.1.text.length≤l.length∧x.2≤p+l.length:=by
 induction h with
 | stop p=>simp
 | bad p l h1 h2=>simp
 | pass p l n ts e hc hx ih =>
  have hn:=cut_n hc;rw [List.length_drop] at ih;exact ⟨by omega,fun x hx=>by have:=ih.2 x hx; omega⟩
 | tok p l t n ts e hc hx ih =>
  have hn:=cut_n hc;have ht:=cut_text hc;rw [List.length_drop] at ih;refine ⟨by simp; omega,fun x hx=>?_⟩
  rcases List.mem_cons.1 hx with rfl | hx
  ·exact ⟨ht,by simp⟩
  ·have:=ih.2 x hx; omega
theorem LexR.okq {l:Bs} {ts:Ts} (h:LexR l ts 0 0):Okq ts s0∧∀ x∈ts,x.1.num≤9007199254740992:=by
 rcases h with ⟨_,_,h,_⟩ | ⟨hl,us,er,hx,hr⟩
 ·cases h
 rcases hr with ⟨rfl,rfl,_,_⟩ | ⟨p,_,_,h,_⟩
 rotate_left
 ·cases h
 obtain ⟨h1,h2⟩:=lx_facts hx
 have h3:=hx.can
 have hk:∀ y∈us,y.1.kind≠18:=fun y hy=>by
  obtain ⟨_,c2⟩:=h3 y hy;omega
 refine ⟨⟨⟨by simp; omega,fun x hx=>?_,Nat.zero_le _,by simp [s0],by simp [s0],by simp [s0]⟩,by simp [s0],⟨us,_,rfl,rfl,hk⟩⟩,fun x hx=>?_⟩
 ·rcases List.mem_append.1 hx with hx | hx
  ·have:=h2 x hx; omega
  ·have:x=(zx,l.length):=by simpa using hx
   subst this;exact ⟨Nat.zero_le _,hl⟩
 ·rcases List.mem_append.1 hx with hx | hx
  ·obtain ⟨c1,c2⟩:=h3 x hx
   by_cases h4:x.1.kind=4
   ·omega
   ·rw [c1 h4]; omega
  ·have:x=(zx,l.length):=by simpa using hx
   subst this;exact Nat.zero_le _
theorem LexR.none {l:Bs} {ts:Ts} {c a:Nat} (h:LexR l ts c a) (hc:c≠0):ts=[]:=by
 rcases h with ⟨_,h,_,_⟩ | ⟨hl,us,er,hx,hr⟩
 ·exact h
 rcases hr with ⟨rfl,rfl,h,_⟩ | ⟨p,_,h,_,_⟩
 ·exact absurd h hc
 ·exact h
def PostD (w:World) (r:Option Src) (c a:Nat) (e:Ending) (w':World):Prop:=Bl w w'∧match r with
 | none=>e=.returned (.tuple #[noSrc,.agg #[.int .i64 c,.int .i64 a]])
 | some t=>∃ t0 t1 t2 t3 t4 t5 ft,e=.returned (.tuple #[.agg #[t0,t1,t2,t3,t4,t5],.agg #[.int .i64 c,.int .i64 a]])∧SrM w' t (.agg #[t0,t1,t2,t3,t4,t5]) ft∧Apt w.heap.size ft
theorem readP_cases {ts:Ts} {wh:Nat→Ps→Option (Rs Src)} {f:Nat} {r:Option Src} {c a:Nat} (h:readP ts wh f=some (r,c,a)):(∃ x,wh f s0=some (.bad x)∧r=none∧c=71∧a=x.2)∨(∃ t s,wh f s0=some (.ok t s)∧((s.code=0∧r=some t∧c=0∧a=0)∨(s.code≠0∧r=none∧c=s.code∧a=s.place))):=by
 unfold readP at h
 split at h
 ·cases h
 ·rename_i x hx
  injection h with h; injection h with h1 h2; injection h2 with h2 h3
  exact Or.inl ⟨x,hx,h1.symm,h2.symm,h3.symm⟩
 ·rename_i t s hx
  refine Or.inr ⟨t,s,hx,?_⟩
  split at h
  ·rename_i hc
   injection h with h; injection h with h1 h2; injection h2 with h2 h3
   exact Or.inl ⟨hc,h1.symm,h2.symm,h3.symm⟩
  ·rename_i hc
   injection h with h; injection h with h1 h2; injection h2 with h2 h3
   exact Or.inr ⟨hc,h1.symm,h2.symm,h3.symm⟩
theorem Reads.all (m:Bool) {l:Bs} {ts:Ts} {c0 a0:Nat} (h:LexR l ts c0 a0):∃ r c a,Reads m l r c a:=by
 by_cases hc:c0=0
 ·have ha:a0=0:=by
   rcases h with ⟨_,_,h,_⟩ | ⟨hl,us,er,hx,hr⟩
   ·omega
   ·rcases hr with ⟨_,_,_,h⟩ | ⟨p,_,_,h,_⟩
    ·exact h
    ·omega
  subst hc; subst ha;obtain ⟨hok,_⟩:=h.okq;have:∃ r,wholeP m ts (fuelT ts) s0=some r:=by
   cases m
   ·exact doit_df ts s0 hok
   ·exact method_df ts s0 hok
  obtain ⟨r,hr⟩:=this;have:∃ q,readP ts (wholeP m ts) (fuelT ts)=some q:=by
   unfold readP;rw [show (⟨0,0,0,0⟩:Ps)=s0 from rfl,hr]
   cases r with
   | bad x=>exact ⟨_,rfl⟩
   | ok t s=>dsimp only; split <;> exact ⟨_,rfl⟩
  obtain ⟨⟨r,c,a⟩,hq⟩:=this;exact ⟨r,c,a,ts,0,0,h,Or.inr ⟨rfl,hq⟩⟩
 ·exact ⟨none,c0,a0,ts,c0,a0,h,Or.inl ⟨hc,rfl,rfl,rfl⟩⟩
theorem enters25:Enters Tryz.prog 25:=fun _ _=>by kernel_rfl
theorem enters32:Enters Tryz.prog 32:=fun _ _=>by kernel_rfl
theorem read_all (m:Bool) (src:ByteArray) (r:Option Src) (c a:Nat) (w:World) (hT:Tab w) (hs:src.size≤140737488355328) (h:Reads m (lst src) r c a):Calls Tryz.prog 24 #[.string src,.func (.func (if m=true then 32 else 25)) #[] #[]] w (PostD w r c a):=by
 obtain ⟨ts,c0,a0,h1,h2⟩:=h
 rcases h2 with ⟨n1,rfl,rfl,rfl⟩ | ⟨z1,e1⟩
 ·have:=h1.none n1
  subst this;exact read_lex _ src c a n1 w hT hs h1
 ·subst z1
  have ha:a0=0:=by
   rcases h1 with ⟨_,_,h,_⟩ | ⟨hl,us,er,hx,hr⟩
   ·cases h
   ·rcases hr with ⟨_,_,_,h⟩ | ⟨p,_,_,h,_⟩
    ·exact h
    ·cases h
  subst ha;obtain ⟨hok,hnum⟩:=h1.okq;have hent:Enters Tryz.prog (if m=true then 32 else 25):=by
   cases m
   ·exact enters25
   ·exact enters32
  have hW:∀ q,wholeP m ts (fuelT ts) s0=some q→∀ P g c V,Pr V P g c ts s0→Calls Tryz.prog (if m=true then 32 else 25) #[.pointer (some ⟨P,0,none⟩)] V (PostR P g c ts V q):=by
   intro q hq P g c V hp
   cases m
   ·exact doit_all ts hnum _ P g c s0 V q hp hok hq
   ·exact method_all ts hnum _ P g c s0 V q hp hok hq
  rcases readP_cases e1 with ⟨x,hx,rfl,rfl,rfl⟩ | ⟨t,s,hx,⟨hc,rfl,rfl,rfl⟩ | ⟨hc,rfl,rfl,rfl⟩⟩
  ·exact read_bad _ hent src ts x w hT hs h1 hok (hW _ hx)
  ·exact read_good _ hent src ts t s hc w hT hs h1 hok (hW _ hx)
  ·exact read_pass _ hent src ts t s hc w hT hs h1 hok (hW _ hx)
end Go.Proofs.YtfhkhmgodkheaaaGreatDoor
namespace Go.Proofs.YtfhkhmgodkheaaaGreatDoor
mutual
def mvN (f:Nat→Nat):Nd→Nd
 | .mk k t n p ns ps ks=>.mk k t n (f p) ns (ps.map f) (mvL f ks)
def mvL (f:Nat→Nat):List Nd→List Nd
 | []=>[]
 | n :: r=>mvN f n :: mvL f r
end
/-! a gap between two tokens -/
end Go.Proofs.YtfhkhmgodkheaaaGreatDoor
namespace Go.Proofs.YtfhkhmgodkheaaaGreatDoor
open Go.RowKit Go.Maps
theorem ba_empty (t:Bs):((ba t).toList == [])=decide (t=[]):=by
 rw [tl_lst,qJ,Bool.eq_iff_iff]
 simp
theorem kind_w (b off k:Nat) (hk1:1≤k) (hk2:k≤13) (T N M K:Bool) (kd m:Int) (tx:Bs) (ps pk:Option Addr) (ln lk cs ck:Nat) (w:World) (o1:1 < w.heap.size) (hb:b < w.heap.size)
  (q0:w.cell? ⟨1,k * 4,none⟩=some (.bool T)) (q1:w.cell? ⟨1,k * 4+1,none⟩=some (.bool N)) (q2:w.cell? ⟨1,k * 4+2,none⟩=some (.bool M)) (q3:w.cell? ⟨1,k * 4+3,none⟩=some (.bool K))
  (c0:w.cell? ⟨b,off,none⟩=some (.int .i64 kd)) (c1:w.cell? ⟨b,off+1,none⟩=some (.string (ba tx))) (c2:w.cell? ⟨b,off+2,none⟩=some (.int .i64 m)) (c4:w.cell? ⟨b,off+4,none⟩=some (.slice ps ln cs)) (c6:w.cell? ⟨b,off+6,none⟩=some (.slice pk lk ck)) :
  Calls Tryz.prog 64 #[.pointer (some ⟨b,off,none⟩),.int .i64 k] w fun e w'=>e=.returned (.bool (decide (kd=k) && ((T || decide (tx=[])) && ((N || decide (m=0)) && ((M || decide (ln=0)) && (K || decide (lk=0)))))))∧Bl w w':=by
 have hbe:=ba_empty tx
 obtain ⟨E,hE⟩:∃ E,decide (tx=[])=E:=⟨_,rfl⟩
 rw [hE] at hbe ⊢
 clear hE
 obtain ⟨W1,hW1⟩:∃ X,w.alloc (.cells #[.bool false,.bool false,.bool false,.bool false] 131)=X:=⟨_,rfl⟩
 have g1:W1.heap[w.heap.size]?=some (.cells #[.bool false,.bool false,.bool false,.bool false] 131 (0,0)):=hW1▸heap_alloc_new w _
 obtain ⟨W2,hW2⟩:∃ X,W1.setRow w.heap.size #[.bool T,.bool N,.bool M,.bool K]=X:=⟨_,rfl⟩
 have g2:W2.heap[w.heap.size]?=some (.cells #[.bool T,.bool N,.bool M,.bool K] 131 (0,0)):=hW2▸setRow_heap _ _ _ _ 131 (0,0) g1
 have BL:Hid (Bl w W2):=qd (((Fr.ofBl (hW1▸Bl.alloc w _) []).trans (hW2▸qG W1 w.heap.size _) (by simp)).bl (by simp))
 have e:∀ i,W2.cell? ⟨b,i,none⟩=w.cell? ⟨b,i,none⟩:=fun i=>World.cell?_of_block (w:=w) (BL.out.block b hb)
 rw [← e] at c0 c1 c2 c4 c6
 have x0:W2.cell? ⟨w.heap.size,0,none⟩=some (.bool T):=by rw [qh g2]; rfl
 have x1:W2.cell? ⟨w.heap.size,1,none⟩=some (.bool N):=by rw [qh g2]; rfl
 have x2:W2.cell? ⟨w.heap.size,2,none⟩=some (.bool M):=by rw [qh g2]; rfl
 have x3:W2.cell? ⟨w.heap.size,3,none⟩=some (.bool K):=by rw [qh g2]; rfl
 have G1:=qd g1
 have k1:(k:Int) < 14:=by omega
 clear e g1 g2 hb
 have hlk:Hid (((lk:Int) == 0)=decide (lk=0)):=qd (by rw [Bool.eq_iff_iff]; simp)
 go_enter Tryz.func64,Tryz.ntmps64
 go_upto_region 2 with (refine wpList_store_row rfl 131 _ _ rfl w.heap.size #[.bool T,.bool N,.bool M,.bool K] rfl rfl 131 _ G1.out (by kernel_rfl) rfl (by kernel_rfl) ?_; rw [hW2])
 go_wp2_with fail
 all_goals go_ret
 all_goals refine ⟨?_,BL.out⟩
 all_goals first
  | (show Ending.returned (.bool ((lk:Int) == 0))=_; rw [hlk.out]; simp_all; done)
  | (simp_all; done)
theorem jG (n:Nt) (b off k:Nat) (hk1:1≤k) (hk2:k≤13) (w:World) (hK:Knd w) (h:NtM w n b off):Calls Tryz.prog 64 #[.pointer (some ⟨b,off,none⟩),.int .i64 k] w fun e w'=>e=.returned (.bool (zd n k))∧Bl w w':=by
 obtain ⟨sn,sk,hn⟩:=h.nod
 obtain ⟨q0,q1,q2,q3⟩:=hK.row k hk2 hk1
 obtain ⟨ps,cs,es,_,_⟩:=hn.rs
 obtain ⟨pk,ck,kb,ko,ek,_,_,_,_⟩:=hn.rn
 have c4:=hn.c4
 have c6:=hn.c6
 rw [es] at c4
 rw [ek] at c6
 exact kind_w b off k hk1 hk2 _ _ _ _ _ _ _ _ _ _ _ _ _ w hK.one hn.lt q0 q1 q2 q3 hn.c0 hn.c1 hn.c2 c4 c6
theorem isNm_ok (l:Bs) (w:World):Calls Tryz.prog 63 #[.string (ba l)] w fun e w'=>e=.returned (.bool (nmB l))∧Bl w w':=by
 have hsz:(ba l).size=l.length:=by rw [← qo,qJ]
 by_cases h:l.length≤32
 ·have HV:=qd (fun V=>vari_ok (ba l) V (by omega))
  rw [qJ] at HV;have h1:(l.length:Int)≤32:=by omega
  have hE:Hid (nmB l=((vari l:Int) != 1)):=qd (by
   unfold nmB;rw [decide_eq_true h,Bool.true_and,Bool.eq_iff_iff];simp;omega)
  generalize vari l=v at *;clear h
  go_enter Tryz.func63,Tryz.ntmps63
  go_wp2_with (go_at_call 98; refine (HV.out _).mono ?_; rintro e w1 ⟨rfl,b1⟩)
  go_ret
  exact ⟨by rw [hE.out]; rfl,b1⟩
 ·have h1:¬ (l.length:Int)≤32:=by omega
  have hE:Hid (nmB l=false):=qd (by unfold nmB; rw [decide_eq_false h]; rfl)
  clear h
  go_enter Tryz.func63,Tryz.ntmps63
  go_wp2_with fail
  go_ret
  exact ⟨by rw [hE.out]; rfl,Bl.refl _⟩
theorem areNames_ok (v:Value) (l:List Bs) (w:World) (hr:RdS w v l) (hl:l.length≤140737488355328):Calls Tryz.prog 36 #[v] w fun e w'=>e=.returned (.bool (nmsB l))∧Bl w w':=by
 obtain ⟨p,c,rfl,hc,hp⟩:=hr
 have HP:=qd hp
 have HA:=qd (all_getD [] nmB l)
 have HB:=qd (all_bad [] nmB l)
 have HE:Hid (nmsB l=l.all nmB):=qd rfl
 generalize hn:l.length=n at *
 clear hp
 go_enter Tryz.func36,Tryz.ntmps36
 go_wp2_with fail
 go_loopw [7] (fun q wr=>∃ i:Nat,i≤n∧q=.int .i64 i∧Hid (∀ j,j < i→nmB (l.getD j [])=true)∧Hid (Bl w wr)) (fun q _=>n - (intOf q).toNat)
 case atStart=>exact ⟨0,Nat.zero_le _,rfl,(fun j hj=>by omega),Bl.refl _⟩
 case round =>
  obtain ⟨i,hi,rfl,hok,hbl⟩:=hrel
  by_cases hin:i < n
  ·have hii:(i:Int) < n:=by omega
   obtain ⟨b,off,rfl,hb,hcs⟩:=HP.out (by omega)
   have x0:wr.cell? ⟨b,off+i,none⟩=some (.string (ba (l.getD i []))):=by rw [World.cell?_of_block (w:=w) (hbl.out.block b hb)]; exact hcs i hin
   have HC:=qd (isNm_ok (l.getD i []));have hI:Hid (∀ B,nmB (l.getD i [])=B→(B=true→∀ j,j < i+1→nmB (l.getD j [])=true)∧(B=false→nmsB l=false)):=qd (fun B hB=>⟨fun h j hj=>by
    by_cases he:j=i
    ·rw [he,hB,h]
    ·exact hok.out j (by omega),fun h=>by rw [HE.out]; exact HB.out i hin (by rw [hB,h])⟩)
   generalize hG:nmB (l.getD i [])=B at *;generalize l.getD i []=t at *;have hJ:=qd (hI.out B rfl);clear hI hG hcs hb hok HA HB
   cases B with
   | true =>
    go_wp2_with (go_at_call 63; refine (HC.out _).mono ?_; rintro e w1 ⟨rfl,b1⟩)
    go_roundw
    case rel=>exact ⟨i+1,by omega,by go_num,hJ.out.1 (by simp),qd (hbl.out.trans b1)⟩
    case measure=>simp [intOf]; omega
   | false =>
    go_wp2_with (go_at_call 63; refine (HC.out _).mono ?_; rintro e w1 ⟨rfl,b1⟩)
    go_ret
    exact ⟨by rw [hJ.out.2 (by simp)]; rfl,hbl.out.trans b1⟩
  ·have hie:¬ (i:Int) < n:=by omega
   have hE:Hid (nmsB l=true):=qd (by rw [HE.out]; exact HA.out.2 fun j hj=>hok.out j (by omega))
   clear HA HB HP
   go_wp2_with fail
   go_ret
   exact ⟨by rw [hE.out]; rfl,hbl.out⟩
end Go.Proofs.YtfhkhmgodkheaaaGreatDoor
