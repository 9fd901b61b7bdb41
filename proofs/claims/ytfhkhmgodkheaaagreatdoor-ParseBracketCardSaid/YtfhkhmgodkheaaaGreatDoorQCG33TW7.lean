import Derived.Test.YtfhkhmgodkheaaaGreatDoorQCG32TW2
set_option linter.unusedSimpArgs false
set_option linter.unusedVariables false
set_option maxRecDepth 1000000
set_option maxHeartbeats 16000000
namespace Go.Proofs.YtfhkhmgodkheaaaGreatDoor
open Go.RowKit Go.Shelf
attribute [local go_sem] Oper.semAt_some
theorem trim_ext (t:Bs) (h:lastC t=true):(ba t).extract 0 (t.length - 1)=ba (jq t):=by
 have hl:t.getLast?=some 58:=by simpa [lastC] using h
 rw [ba_ext]
 unfold jq
 rw [if_pos hl]
 simp [List.dropLast_eq_take]
theorem trimLite_ok (t:Bs) (w:World) (ht:t.length≤268435456):Calls Tryz.prog 129 #[.string (ba t),.string ⟨#[58]⟩] w fun e w'=>e=.returned (.string (ba (jq t)))∧w'=w:=by
 have hsz:(ba t).size=t.length:=by rw [← qo,qJ]
 have HS:=qd (sliteSuffix_ok (ba t) w (by omega))
 rw [qJ] at HS
 cases hL:lastC t with
 | true =>
  rw [hL] at HS;have hx:=trim_ext t hL;have h0:0 < t.length:=by
   cases t with
   | nil=>simp [lastC] at hL
   | cons a r=>simp
  have v0:IntKind.i64.wrap ((t.length:Int) - 1)=(t.length:Int) - 1:=zP _ (by omega) (by omega)
  have v1:(0:Int)≤(t.length:Int) - 1:=by omega
  have v2:(t.length:Int) - 1≤t.length:=by omega
  have v4:((t.length:Int) - 1).toNat=t.length - 1:=by omega
  clear hL
  go_enter Tryz.func129,Tryz.ntmps129
  go_wp2_with (go_at_call 144; refine HS.out.mono ?_; rintro e w1 ⟨rfl,h⟩; have h3:=h.symm; subst h3)
  go_ret
  first
   | exact ⟨rfl,rfl⟩
   | exact ⟨by rw [← hx]; rfl,rfl⟩
 | false =>
  rw [hL] at HS;have hx:Hid (jq t=t):=qd (by
   have hl:¬ t.getLast?=some 58:=by simpa [lastC] using hL
   unfold jq;rw [if_neg hl])
  clear hL
  go_enter Tryz.func129,Tryz.ntmps129
  go_wp2_with (go_at_call 144; refine HS.out.mono ?_; rintro e w1 ⟨rfl,h⟩; have h3:=h.symm; subst h3)
  go_ret
  exact ⟨by rw [hx.out]; rfl,rfl⟩
theorem trimS_ok (t:Bs) (w:World) (ht:t.length≤268435456):Calls Tryz.prog 105 #[.string (ba t),.string ⟨#[58]⟩] w fun e w'=>e=.returned (.string (ba (jq t)))∧w'=w:=by
 have H:=qd (trimLite_ok t w ht)
 go_enter Tryz.func105,Tryz.ntmps105
 go_wp2_with (go_at_call 129; refine H.out.mono ?_; rintro e w1 ⟨rfl,h⟩; have h3:=h.symm; subst h3)
 go_ret
 exact ⟨rfl,rfl⟩
structure Bx (b:Nat) (bx:List (Nat × Obj)) (W:World):Prop where
 at_:∀ x∈bx,W.heap[x.1]?=some x.2
def BxOk (b:Nat) (bx:List (Nat × Obj)):Prop:=∀ x∈bx,x.1≠b∧∀ c fz,x.2≠.cells c 5 fz
theorem Bx.wk {w0 w w':World} {b:Nat} {l:Bs} {bx:List (Nat × Obj)} (h:Bx b bx w) (hk:BxOk b bx) (k:Wk w0 b l w w'):Bx b bx w' :=
 ⟨fun x hx=>k.oth x.1 x.2 (h.at_ x hx) (fun e=>(hk x hx).1 (by simpa using e)) (hk x hx).2⟩
structure Thing (w0:World) (b fo:Nat) (caps:Array Value) (bx:List (Nat × Obj)) (xs:List (List Bs)):Prop where
 ent:Enters Tryz.prog fo
 ok:BxOk b bx
 run:∀ i,i < xs.length→∀ (l:Bs) (V:World),Bl w0 V→Wt w0.heap.size b l V→Bx b bx V→Calls Tryz.prog fo (#[.int .i64 (i:Nat)]++caps) V (RW w0 b (qH l (xs.getD i [])) V)
theorem Wt.fr {B b y:Nat} {l:Bs} {A C:World} (h:Wt B b l A) (f:Fr [y] A C) (hy:y≠b) (hn:∀ c fz,A.heap[y]?≠some (.cells c 5 fz)):Wt B b l C:=by
 obtain ⟨p,v,hp,hB,hbk,hown,hne,hz⟩:=h
 refine ⟨p,v,hp,hB,(f.block _ (qf hbk) (by simpa using fun e=>hy e.symm)).trans hbk,?_,hne,hz⟩
 refine ⟨hown.1,?_⟩
 rcases hown.2 with h2 | ⟨g,cap,cur,fz,rfl,h1,h2,h3⟩
 ·exact Or.inl h2
 ·exact Or.inr ⟨g,cap,cur,fz,rfl,h1,(f.block g (qf h2) (by simp; intro e; subst e; exact hn _ _ h2)).trans h2,h3⟩
theorem Bx.bl {b:Nat} {bx:List (Nat × Obj)} {w w':World} (h:Bx b bx w) (k:Bl w w'):Bx b bx w':=⟨fun x hx=>(k.block _ (qf (h.at_ x hx))).trans (h.at_ x hx)⟩
theorem hne1 (b:Nat) (w:World) (h:b < w.heap.size):(some (w.heap.size+1):Option Nat)≠some b:=by intro e; injection e with e; omega
theorem ne5 {A c:Array Value} {f g:Nat × Nat} (e:Obj.cells A 111 f=.cells c 5 g):False:=by injection e with e1 e2; exact absurd e2 (by decide)
theorem worded_low (w0:World) (b fo:Nat) (caps:Array Value) (bx:List (Nat × Obj)) (xs:List (List Bs)) (hTh:Thing w0 b fo caps bx xs) (l t:Bs) (w:World) (hb:Bl w0 w) (h:Wt w0.heap.size b l w) (hx:Bx b bx w) (ht:t.length≤268435456) (hr:qI t≠3) (h2:qI t=2→0 < xs.length) :
  Calls Tryz.prog 66 #[.pointer (some ⟨b,0,none⟩),.string (ba t),.func (.func fo) #[] caps] w (RW w0 b (qH l (zk t xs)) w):=by
 have hsz:(ba t).size=t.length:=by rw [← qo,qJ]
 obtain ⟨W2,hW2⟩:∃ X,(w.alloc (.cells #[.pointer (some ⟨b,0,none⟩)] 83)).alloc (.cells #[.func (.func fo) #[] caps] 111)=X:=⟨_,rfl⟩
 have b2:Bl w W2:=hW2▸(Bl.alloc _ _).trans (Bl.alloc _ _)
 have g0:W2.heap[w.heap.size]?=some (.cells #[.pointer (some ⟨b,0,none⟩)] 83 (0,0)):=by rw [← hW2,Below.heap_alloc _ _ _ (by simp)]; exact heap_alloc_new _ _
 have g1:W2.heap[w.heap.size+1]?=some (.cells #[.func (.func fo) #[] caps] 111 (0,0)):=by
  have:=heap_alloc_new (w.alloc (.cells #[.pointer (some ⟨b,0,none⟩)] 83)) (.cells #[.func (.func fo) #[] caps] 111);rw [World.size_alloc,hW2] at this;exact this
 have G0:=qd g0
 have G1:=qd g1
 have hblt:=h.lt
 have HR:=qd (jK (ba t) W2 (by omega))
 rw [qJ] at HR
 have hWp:Hid (zk t xs=if qI t=1 then [t] else if qI t=2 then (t++[32]) :: xs.headD [] else if qI t=3 then kwPc (zo (jq t)) xs true else []):=qd rfl
 have HK:=qd (fun V (kv:Bl W2 V)=>Wk.ofBl h hb (b2.trans kv))
 have HB:=qd hb
 have HA:=qd (fun (l' s:Bs) (hs:s.length≤268435457) V (hV:Bl w0 V) (hw:Wt w0.heap.size b l' V)=>jz w0 b l' s V hV hw (by omega))
 have HX:=qd (fun V (kv:Bl W2 V)=>hx.bl (b2.trans kv))
 have ew:=hTh.ent
 unfold Enters at ew
 have HT:=qd hTh
 have hcat:ba t++(⟨#[32]⟩:ByteArray)=ba (t++[32]):=ba_app t [32]
 generalize zk t xs=P at *
 generalize qI t=rk at *
 clear h hb hx b2 g0 g1 hTh
 by_cases h1:rk=1
 ·subst h1
  have e:Hid (qH l P=zU l t):=qd (by rw [hWp.out]; rfl)
  have HA1:=qd (fun V hV hw=>HA.out l t (by omega) V hV hw)
  clear hWp HA h2 hr hcat
  go_enter Tryz.func66,Tryz.ntmps66
  go_wp2_with (first
   | (go_at_call 101; refine HR.out.mono ?_; rintro e w1 ⟨rfl,b1⟩; have k1:=HK.out _ b1; have c0:w1.cell? ⟨w.heap.size,0,none⟩=some (.pointer (some ⟨b,0,none⟩)):=by (rw [qh ((b1.block _ (qf G0.out)).trans G0.out)]; rfl))
   | (go_at_call 68; refine (HA1.out _ (k1.bl HB.out) k1.wt).mono ?_; rintro e w2 ⟨rfl,k2⟩))
  go_end0
  exact ⟨rfl,by rw [e.out]; exact k1.trans k2⟩
 by_cases h2':rk=2
 ·subst h2'
  have e:Hid (qH l P=qH (zU l (t++[32])) (xs.getD 0 [])):=qd (by
   rw [hWp.out]
   show qH l ((t++[32]) :: xs.headD [])=_
   rw [jh]
   cases xs with
   | nil=>rfl
   | cons a r=>rfl)
  have hl0:=h2 rfl;have HA1:=qd (fun V hV hw=>HA.out l (t++[32]) (by simp; omega) V hV hw)
  have HC:=qd (fun (l':Bs) V hV hw hbx=>HT.out.run 0 hl0 l' V hV hw hbx)
  have HOk:=qd HT.out.ok;clear hWp HA h2 hr h1 hl0 HT
  go_enter Tryz.func66,Tryz.ntmps66
  go_wp2_with (first
   | (go_at_call 101; refine HR.out.mono ?_; rintro e w1 ⟨rfl,b1⟩; have k1:=HK.out _ b1; have x1:=HX.out _ b1; have m1:=qd ((b1.block _ (qf G1.out)).trans G1.out); have c0:w1.cell? ⟨w.heap.size,0,none⟩=some (.pointer (some ⟨b,0,none⟩)):=by (rw [qh ((b1.block _ (qf G0.out)).trans G0.out)]; rfl))
   | (go_at_call 68; refine (HA1.out _ (k1.bl HB.out) k1.wt).mono ?_; rintro e w2 ⟨rfl,k2'⟩; have k2:=k1.trans k2'; have x2:=x1.wk HOk.out k2'; have c1:w2.cell? ⟨w.heap.size+1,0,none⟩=some (.func (.func fo) #[] caps):=by (rw [qh (k2'.oth _ _ m1.out (hne1 b w hblt) (fun c fz e=>ne5 e))]; rfl))
   | (go_at_fn fo; refine (HC.out _ _ (k2.bl HB.out) k2.wt x2).mono ?_; rintro e w3 ⟨rfl,k3⟩))
  go_end0
  exact ⟨rfl,by rw [e.out]; exact k2.trans k3⟩
 ·have e:Hid (qH l P=l):=qd (by rw [hWp.out,if_neg h1,if_neg h2',if_neg hr]; rfl)
  have q1:((rk:Int) == 1)=false:=beq_eq_false_iff_ne.2 (by omega)
  have q2:((rk:Int) == 2)=false:=beq_eq_false_iff_ne.2 (by omega)
  have q3:((rk:Int) == 3)=false:=beq_eq_false_iff_ne.2 (by omega)
  clear hWp HA h2 hr h1 h2' HT HX hcat
  go_enter Tryz.func66,Tryz.ntmps66
  go_wp2_with (go_at_call 101; refine HR.out.mono ?_; rintro e w1 ⟨rfl,b1⟩; have k1:=HK.out _ b1)
  go_end0
  exact ⟨rfl,by rw [e.out]; exact k1⟩
theorem Wk.fr {w0 w A C:World} {b y:Nat} {l:Bs} (h:Wk w0 b l w A) (hb:Bl w0 w) (hbl:b < w.heap.size) (f:Fr [y] A C) (hy:w.heap.size≤y) (hn:∀ c fz,A.heap[y]?≠some (.cells c 5 fz)):Wk w0 b l w C:=by
 have hs:=hb.size
 refine ⟨h.wt.fr f (by omega) hn,⟨f.os.trans h.low.os,f.tape.trans h.low.tape,f.output.trans h.low.output,Nat.le_trans h.low.size f.size,fun k hk=>?_⟩,fun k o hk hkb hc=>?_⟩
 ·have hkA:k < A.heap.size:=by have:=h.low.size; omega
  rw [f.block k hkA (by simp; omega)]
  exact h.low.block k hk
 ·have h1:=h.oth k o hk hkb hc
  exact (f.block k (qf h1) (by have:=qf hk; simp; omega)).trans h1
theorem kwPc_snoc (x:Bs):∀ (pre:List Bs) (xs:List (List Bs)) (f:Bool),kwPc (pre++[x]) xs f=kwPc pre xs f++((if pre.length=0∧f=true then [] else [[32]])++((x++[58,32]) :: xs.getD pre.length [])):=by
 intro pre
 induction pre with
 | nil =>
  intro xs f
  cases xs with
  | nil=>cases f <;> simp [kwPc]
  | cons a r=>cases f <;> simp [kwPc]
 | cons p ps ih =>
  intro xs f;rw [List.cons_append,kwPc,kwPc,ih]
  cases xs with
  | nil=>simp
  | cons a r=>simp
theorem kwPc_step (x:Bs) (pre:List Bs) (xs:List (List Bs)):kwPc (pre++[x]) xs true=kwPc pre xs true++(btwPc pre.length [32]++([x++[58,32]]++xs.getD pre.length [])):=by
 rw [kwPc_snoc]
 congr 2
 unfold btwPc
 by_cases h:0 < pre.length
 ·rw [if_pos h,if_neg (by omega)]
 ·rw [if_neg h,if_pos ⟨by omega,rfl⟩]
theorem parts_len:∀ (l:Bs) (x:Bs),x∈zo l→x.length≤l.length:=by
 intro l
 induction l with
 | nil=>intro x h; simp [zo] at h; subst h; simp
 | cons c r ih =>
  intro x h;rw [zo] at h
  split at h
  ·rcases List.mem_cons.1 h with rfl | h
   ·simp
   ·have:=ih x h; simp; omega
  ·cases hp:zo r with
   | nil=>rw [hp] at h; simp at h; subst h; simp
   | cons p ps =>
    rw [hp] at h
    rcases List.mem_cons.1 h with rfl | h
    ·have:=ih p (by rw [hp]; simp); simp; omega
    ·have:=ih x (by rw [hp]; simp [h]); simp; omega
theorem trimC_len (t:Bs):(jq t).length≤t.length:=by
 unfold jq
 split
 ·simp
 ·exact Nat.le_refl _
structure KwS (w0:World) (b fo:Nat) (caps:Array Value) (bx:List (Nat × Obj)) (w:World) (D sB:Nat) (l:Bs) (n:Nat) (W:World):Prop where
 wk:Wk w0 b l w W
 g0:W.heap[w.heap.size]?=some (.cells #[.pointer (some ⟨b,0,none⟩)] 83 (0,0))
 g1:W.heap[w.heap.size+1]?=some (.cells #[.func (.func fo) #[] caps] 111 (0,0))
 gD:W.heap[D]?=some (.cells #[.int .i64 (n:Nat)] 3 (0,0))
 bx:Bx b bx W
 s:∃ x:Value,W.heap[sB]?=some (.cells #[x] 9 (0,0))
 e:∃ x:Value,W.heap[sB+1]?=some (.cells #[x] 9 (0,0))
 v:∃ x:Value,W.heap[sB+2]?=some (.cells #[x] 3 (0,0))
def KwI (w0:World) (b fo:Nat) (caps:Array Value) (bx:List (Nat × Obj)) (xs:List (List Bs)) (w:World) (D sB:Nat) (l:Bs) (pre:List Bs) (W:World):Prop:=Hid (KwS w0 b fo caps bx w D sB (qH l (kwPc pre xs true)) pre.length W)
theorem KwS.fr {w0:World} {b fo:Nat} {caps:Array Value} {bx:List (Nat × Obj)} {w:World} {D sB:Nat} {l:Bs} {n y:Nat} {A C:World} (h:KwS w0 b fo caps bx w D sB l n A) (hb:Bl w0 w) (hbl:b < w.heap.size) (hD:w.heap.size+2≤D) (hs:D < sB) (hbx:∀ x∈bx,x.1 < w.heap.size) (f:Fr [y] A C)
  (hy:(y=sB∧∃ x:Value,C.heap[sB]?=some (.cells #[x] 9 (0,0)))∨(sB+3≤y∧∃ o:Obj,A.heap[y]?=some o∧o.isCells=false)):KwS w0 b fo caps bx w D sB l n C:=by
 have hyl:D < y:=by rcases hy with ⟨rfl,_⟩ | ⟨h,_⟩ <;> omega
 have hn:∀ c fz,A.heap[y]?≠some (.cells c 5 fz):=by
  intro c fz e
  rcases hy with ⟨rfl,_⟩ | ⟨_,o,ho,hc⟩
  ·obtain ⟨x,hx⟩:=h.s
   rw [hx] at e;injection e with e
   injection e with e1 e2
   exact absurd e2 (by decide)
  ·rw [ho] at e
   injection e with e
   subst e
   cases hc
 have keep:∀ k o,A.heap[k]?=some o→k≠y→C.heap[k]?=some o:=fun k o hk hne=>(f.block k (qf hk) (by simpa using hne)).trans hk
 refine ⟨h.wk.fr hb hbl f (by omega) hn,keep _ _ h.g0 (by omega),keep _ _ h.g1 (by omega),keep _ _ h.gD (by omega),⟨fun x hx=>keep _ _ (h.bx.at_ x hx) (by have:=hbx x hx; omega)⟩,?_,?_,?_⟩
 ·rcases hy with ⟨rfl,hx⟩ | ⟨hl,_⟩
  ·exact hx
  ·obtain ⟨x,hx⟩:=h.s
   exact ⟨x,keep _ _ hx (by omega)⟩
 ·obtain ⟨x,hx⟩:=h.e
  exact ⟨x,keep _ _ hx (by rcases hy with ⟨rfl,_⟩ | ⟨hl,_⟩ <;> omega)⟩
 ·obtain ⟨x,hx⟩:=h.v
  exact ⟨x,keep _ _ hx (by rcases hy with ⟨rfl,_⟩ | ⟨hl,_⟩ <;> omega)⟩
theorem KwS.wk' {w0:World} {b fo:Nat} {caps:Array Value} {bx:List (Nat × Obj)} {w:World} {D sB:Nat} {l l':Bs} {n:Nat} {A C:World} (h:KwS w0 b fo caps bx w D sB l n A) (hbl:b < w.heap.size) (hD:w.heap.size+2≤D) (hs:D < sB) (hok:BxOk b bx) (k:Wk w0 b l' A C):KwS w0 b fo caps bx w D sB l' n C∧(∀ j o,A.heap[j]?=some o→w.heap.size≤j→(∀ c fz,o≠.cells c 5 fz)→C.heap[j]?=some o):=by
 have kp:∀ j o,A.heap[j]?=some o→w.heap.size≤j→(∀ c fz,o≠.cells c 5 fz)→C.heap[j]?=some o:=fun j o hj hl hc=>k.oth j o hj (by intro e; injection e with e; omega) hc
 have n5:∀ {X c:Array Value} {t:TypeId} {f g:Nat × Nat},t≠5→Obj.cells X t f≠.cells c 5 g:=fun ht e=>by injection e with e1 e2; exact ht e2
 refine ⟨⟨h.wk.trans k,kp _ _ h.g0 (by omega) (fun c fz=>n5 (by decide)),kp _ _ h.g1 (by omega) (fun c fz=>n5 (by decide)),kp _ _ h.gD (by omega) (fun c fz=>n5 (by decide)),h.bx.wk hok k,?_,?_,?_⟩,kp⟩
 ·obtain ⟨x,hx⟩:=h.s; exact ⟨x,kp _ _ hx (by omega) (fun c fz=>n5 (by decide))⟩
 ·obtain ⟨x,hx⟩:=h.e; exact ⟨x,kp _ _ hx (by omega) (fun c fz=>n5 (by decide))⟩
 ·obtain ⟨x,hx⟩:=h.v; exact ⟨x,kp _ _ hx (by omega) (fun c fz=>n5 (by decide))⟩
theorem parts_few:∀ (l:Bs),(zo l).length≤l.length+1:=by
 intro l
 induction l with
 | nil=>simp [zo]
 | cons c r ih =>
  rw [zo]
  split
  ·simp; omega
  ·cases hp:zo r with
   | nil=>simp
   | cons p ps=>rw [hp] at ih; simp at ih ⊢; omega
theorem worded_kw (w0:World) (b fo:Nat) (caps:Array Value) (bx:List (Nat × Obj)) (xs:List (List Bs)) (hTh:Thing w0 b fo caps bx xs) (l t:Bs) (w:World) (hb:Bl w0 w) (h:Wt w0.heap.size b l w) (hx:Bx b bx w) (hbx:∀ x∈bx,x.1 < w.heap.size) (ht:t.length≤268435456) (hr:qI t=3) (hxl:(zo (jq t)).length=xs.length) :
  Calls Tryz.prog 66 #[.pointer (some ⟨b,0,none⟩),.string (ba t),.func (.func fo) #[] caps] w (RW w0 b (qH l (zk t xs)) w):=by
 have hsz:(ba t).size=t.length:=by rw [← qo,qJ]
 obtain ⟨W2,hW2⟩:∃ X,(w.alloc (.cells #[.pointer (some ⟨b,0,none⟩)] 83)).alloc (.cells #[.func (.func fo) #[] caps] 111)=X:=⟨_,rfl⟩
 have b2:Bl w W2:=hW2▸(Bl.alloc _ _).trans (Bl.alloc _ _)
 have s2:W2.heap.size=w.heap.size+2:=by rw [← hW2]; simp
 have g0:W2.heap[w.heap.size]?=some (.cells #[.pointer (some ⟨b,0,none⟩)] 83 (0,0)):=by rw [← hW2,Below.heap_alloc _ _ _ (by simp)]; exact heap_alloc_new _ _
 have g1:W2.heap[w.heap.size+1]?=some (.cells #[.func (.func fo) #[] caps] 111 (0,0)):=by
  have:=heap_alloc_new (w.alloc (.cells #[.pointer (some ⟨b,0,none⟩)] 83)) (.cells #[.func (.func fo) #[] caps] 111);rw [World.size_alloc,hW2] at this;exact this
 have hblt:=h.lt
 have HR:=qd (jK (ba t) W2 (by omega))
 rw [qJ,hr] at HR
 have hWp:Hid (zk t xs=kwPc (zo (jq t)) xs true):=qd (by unfold zk; rw [hr]; rfl)
 have HK:=qd (fun V (kv:Bl W2 V)=>Wk.ofBl h hb (b2.trans kv))
 have HX:=qd (fun V (kv:Bl W2 V)=>hx.bl (b2.trans kv))
 have HB:=qd hb
 have HTr:=qd (fun V=>trimS_ok t V ht)
 have HSp:=qd (splitSeq2_ok (jq t))
 have G0:=qd g0
 have G1:=qd g1
 have S2:=qd s2
 have htl:=trimC_len t
 have HA:=qd (fun (l' s:Bs) (hs:s.length≤268435460) V (hV:Bl w0 V) (hw:Wt w0.heap.size b l' V)=>jz w0 b l' s V hV hw (by omega))
 have HBt:=qd (fun (l':Bs) (i:Nat) V (hV:Bl w0 V) (hw:Wt w0.heap.size b l' V)=>between_ok w0 b l' [32] i V hV hw (by decide))
 have HT:=qd hTh
 have HP:=qd (parts_len (jq t))
 have HXl:=qd hxl
 have HXb:=qd (parts_few (jq t))
 have HTl:Hid ((jq t).length≤268435456):=qd (by have:=trimC_len t; omega)
 have hBX:=qd hbx
 generalize zk t xs=P at *
 generalize jq t=tt at *
 clear h hb hx b2 s2 g0 g1 hTh hr hxl hbx
 refine (callsIn_wide (n:=3)).1 ?_
 refine callsIn_of_wp_marks Tryz.func66 rfl trivial ?_ rfl
 simp only [Tryz.ntmps66,List.size_toArray,List.length_cons,List.length_nil,Nat.reduceAdd,Nat.reduceSub,Array.replicate_succ,Array.replicate_zero,List.push_toArray,List.append_toArray,List.nil_append,List.cons_append]
 gi_wp2
 refine ⟨trivial,?_⟩
 refine (callsIn_wide.2 HR.out).mono ?_
 rintro e w1 ⟨rfl,b1⟩
 gi_wp2
 refine ⟨trivial,?_⟩
 refine (callsIn_wide.2 (HTr.out _)).mono ?_
 rintro e w2 ⟨rfl,hw2⟩
 have hw3:=hw2.symm
 subst hw3
 clear hw2
 gi_wp2
 refine ⟨trivial,?_⟩
 refine (callsIn_wide.2 (HSp.out _)).mono ?_
 rintro e w4 ⟨rfl,b4,z4,hx4⟩
 have bW:Bl w1 w4:=(Bl.alloc _ _).trans b4
 have bA:=b1.trans bW
 rw [World.size_alloc] at z4 hx4
 have hz1:w.heap.size+2≤w1.heap.size:=by have:=b1.size; have:=S2.out; omega
 have gD:w4.heap[w1.heap.size]?=some (.cells #[.int .i64 0] 3 (0,0)):=(b4.block _ (by rw [World.size_alloc]; omega)).trans (heap_alloc_new _ _)
 have K4:=qd (HK.out _ bA)
 have X4:=qd (HX.out _ bA)
 have M0:=qd ((bA.block _ (qf G0.out)).trans G0.out)
 have M1:=qd ((bA.block _ (qf G1.out)).trans G1.out)
 have MD:=qd gD
 have HX4:=qd hx4
 have Z4:=qd z4
 clear HTr HSp HR HK HX G0 G1 S2 b1 b4 bW bA gD z4 hx4 hW2
 gi_wp2
 refine range_box (n:=3) (by omega) (gf:=119) (lb:=#[.pointer (some ⟨w1.heap.size+1+1,0,none⟩),.pointer (some ⟨w1.heap.size+1,0,none⟩),.pointer (some ⟨w1.heap.size+1+2,0,none⟩)]) rfl (ent 119 _ _ Tryz.func119 (by kernel_rfl) rfl)
  (split_seq 2 (by omega) (w1.heap.size+1+1) (w1.heap.size+1) (w1.heap.size+1+2) (by omega) (by omega) tt (by omega) w4 HX4.out) (qf HX4.out.s)
  (fun A B C h k=>⟨k.1.trans h.1,k.2.1.trans h.2.1,k.2.2.trans h.2.2⟩)
  (fun A l o hl=>by
   have:=Z4.out;exact ⟨World.putObj_heap_other (by omega),World.putObj_heap_other (by omega),World.putObj_heap_other (by omega)⟩)
  (fun _=>rfl) (KwI w0 b fo caps bx xs w w1.heap.size (w1.heap.size+1) l) (fun _ _=>False)
  (fun s A C y h f hy=>qd (h.out.fr HB.out hblt hz1 (by omega) hBX.out f (hy.imp (fun q=>q) (fun q=>⟨by have:=Z4.out; omega,q.2⟩))))
  (fun _ _ _ _ h _ _=>h)
  (fun W hW=>qd ⟨by
    have k:=K4.out.trans (Wk.ofBl K4.out.wt (K4.out.bl HB.out) hW)
    simpa [kwPc,jR] using k,(hW.block _ (qf M0.out)).trans M0.out,(hW.block _ (qf M1.out)).trans M1.out,(hW.block _ (qf MD.out)).trans MD.out,X4.out.bl hW,⟨_,(hW.block _ (qf HX4.out.s)).trans HX4.out.s⟩,⟨_,(hW.block _ (qf HX4.out.e)).trans HX4.out.e⟩,⟨_,(hW.block _ (qf HX4.out.v)).trans HX4.out.v⟩⟩)
  (fun x=>{ tmps:=#[.pointer (some ⟨b,0,none⟩),.string (ba t),.func (.func fo) #[] caps,.pointer (some ⟨w.heap.size,0,none⟩),undef,.pointer (some ⟨w.heap.size+1,0,none⟩),.pointer (some ⟨w1.heap.size,0,none⟩),.string (ba x),.string (ba t),.int .i64 3,.bool false,.bool false,undef,undef,undef,.bool false,.bool false,undef,undef,undef,undef,undef,undef,.bool true,.bool true,.string (ba t),.string (ba tt),.func (.func 119) #[] #[.pointer (some ⟨w1.heap.size+1+1,0,none⟩),.pointer (some ⟨w1.heap.size+1,0,none⟩),.pointer (some ⟨w1.heap.size+1+2,0,none⟩)],.string (ba x),undef,undef,undef,undef,undef,undef,undef,undef,undef,undef,undef,undef],defers:=[] }) ?assign ?body ?done ?stop
 case assign =>
  intro l x W K hK
  gi_wp2
  exact hK
 case body =>
  rintro lp pre x W hi hpre;have hxs:(ba x).size=x.length:=by rw [← qo,qJ]
  have hmem:x∈zo tt:=hpre.subset (by simp)
  have hxlen:=HP.out x hmem;have hpl:pre.length < xs.length:=by
   have:=hpre.length_le;rw [HXl.out] at this;simp at this;omega
  have hcat:ba x++(⟨#[58,32]⟩:ByteArray)=ba (x++[58,32]):=ba_app x [58,32];have hE:Hid (qH l (kwPc (pre++[x]) xs true)=qH (zU (qH (qH l (kwPc pre xs true)) (btwPc pre.length [32])) (x++[58,32])) (xs.getD pre.length [])):=qd (by
   rw [kwPc_step,zw,zw,zw]; rfl)
  have c0:W.cell? ⟨w.heap.size,0,none⟩=some (.pointer (some ⟨b,0,none⟩)):=by rw [qh hi.out.g0]; rfl
  have cD:W.cell? ⟨w1.heap.size,0,none⟩=some (.int .i64 (pre.length:Nat)):=by rw [qh hi.out.gD]; rfl
  have HB2:=qd (HBt.out _ pre.length W (hi.out.wk.bl HB.out) hi.out.wk.wt);have HPl:=qd hpl;have hlen:¬ (268435456+10:Nat) < x.length:=by omega
  have HXn:=qd hxlen;clear hpre hmem hpl hxlen;have ew:=HT.out.ent;unfold Enters at ew;have HOk:=qd HT.out.ok;have HC:=qd (HT.out.run pre.length HPl.out)
  gi_wp2
  refine ⟨trivial,?_⟩;refine (CallsIn.inRound lp (callsIn_wide.2 HB2.out)).mono ?_;rintro e w5 ⟨rfl,k5⟩;obtain ⟨q5,kp5⟩:=hi.out.wk' hblt hz1 (by omega) HOk.out k5
  have d0:w5.cell? ⟨w.heap.size,0,none⟩=some (.pointer (some ⟨b,0,none⟩)):=by rw [qh q5.g0]; rfl
  have HA5:=qd (HA.out _ (x++[58,32]) (by have:=HXn.out; simp; omega) w5 (q5.wk.bl HB.out) q5.wk.wt)
  have Q5:=qd q5;have KP5:=qd kp5;clear q5 kp5 HB2 c0 cD k5
  gi_wp2
  refine ⟨trivial,?_⟩;refine (CallsIn.inRound lp (callsIn_wide.2 HA5.out)).mono ?_;rintro e w6 ⟨rfl,k6⟩;obtain ⟨q6,kp6⟩:=Q5.out.wk' hblt hz1 (by omega) HOk.out k6
  have d1:w6.cell? ⟨w.heap.size+1,0,none⟩=some (.func (.func fo) #[] caps):=by rw [qh q6.g1]; rfl
  have d2:w6.cell? ⟨w1.heap.size,0,none⟩=some (.int .i64 (pre.length:Nat)):=by rw [qh q6.gD]; rfl
  have HC6:=qd (HC.out _ w6 (q6.wk.bl HB.out) q6.wk.wt q6.bx);have Q6:=qd q6;have KP6:=qd kp6;clear q6 kp6 HA5 d0 k6
  gi_wp2
  refine ⟨trivial,?_⟩;refine (CallsIn.inRound lp (callsIn_wide.2 HC6.out)).mono ?_;rintro e w7 ⟨rfl,k7⟩;obtain ⟨q7,kp7⟩:=Q6.out.wk' hblt hz1 (by omega) HOk.out k7
  have d3:w7.cell? ⟨w1.heap.size,0,none⟩=some (.int .i64 (pre.length:Nat)):=by rw [qh q7.gD]; rfl
  have d4:w7.frozen? ⟨w1.heap.size,0,none⟩=false:=qK q7.gD 0;have hpw:IntKind.i64.wrap ((pre.length:Int)+1)=(pre.length:Int)+1:=zP _ (by omega) (by have:=HPl.out; have:=HXl.out; have:=HXb.out; have:=HTl.out; omega)
  have Q7:=qd q7;have KP7:=qd kp7;clear q7 kp7 HC6 d1 d2 k7
  gi_wp2
  have hall:∀ j o,W.heap[j]?=some o→w.heap.size≤j→(∀ c fz,o≠.cells c 5 fz)→w7.heap[j]?=some o:=fun j o h1 h2 h3=>KP7.out _ _ (KP6.out _ _ (KP5.out _ _ h1 h2 h3) h2 h3) h2 h3
  have fS:Fr [w1.heap.size] w7 (w7.setCell ⟨w1.heap.size,0,none⟩ (.int .i64 ((pre.length:Int)+1))):=Fr.setCell _ _ _ (by simp)
  have sS:=zc (v:=.int .i64 ((pre.length:Int)+1)) Q7.out.gD 0;have n5:∀ {X c:Array Value} {t:TypeId} {f g:Nat × Nat},t≠5→Obj.cells X t f≠.cells c 5 g:=fun ht e=>by injection e with e1 e2; exact ht e2
  have kall:∀ j o,W.heap[j]?=some o→w.heap.size≤j→j≠w1.heap.size→(∀ c fz,o≠.cells c 5 fz)→(w7.setCell ⟨w1.heap.size,0,none⟩ (.int .i64 ((pre.length:Int)+1))).heap[j]?=some o:=fun j o h1 h2 h3 h4=>by
   have:=hall j o h1 h2 h4;exact (fS.block _ (qf this) (by simpa using h3)).trans this
  have k7:∀ j o,w7.heap[j]?=some o→j≠w1.heap.size→(w7.setCell ⟨w1.heap.size,0,none⟩ (.int .i64 ((pre.length:Int)+1))).heap[j]?=some o:=fun j o h1 h3=>(fS.block _ (qf h1) (by simpa using h3)).trans h1
  have zz:=Z4.out;refine ⟨fun j o hj ho hc=>kall j o ho (by omega) (by omega) (fun c fz e=>by subst e; cases hc),?_,?_⟩
  ·obtain ⟨x1,hx1⟩:=hi.out.s
   obtain ⟨x2,hx2⟩:=hi.out.e;obtain ⟨x3,hx3⟩:=hi.out.v;exact ⟨(kall _ _ hx2 (by omega) (by omega) (fun c fz=>n5 (by decide))).trans hx2.symm,(kall _ _ hx1 (by omega) (by omega) (fun c fz=>n5 (by decide))).trans hx1.symm,(kall _ _ hx3 (by omega) (by omega) (fun c fz=>n5 (by decide))).trans hx3.symm⟩
  ·obtain ⟨x1,hx1⟩:=Q7.out.s
   obtain ⟨x2,hx2⟩:=Q7.out.e;obtain ⟨x3,hx3⟩:=Q7.out.v;refine qd ⟨?_,k7 _ _ Q7.out.g0 (by omega),k7 _ _ Q7.out.g1 (by omega),?_,⟨fun y hy=>k7 _ _ (Q7.out.bx.at_ y hy) (by have:=hBX.out y hy; omega)⟩,⟨x1,k7 _ _ hx1 (by omega)⟩,⟨x2,k7 _ _ hx2 (by omega)⟩,⟨x3,k7 _ _ hx3 (by omega)⟩⟩
   ·rw [hE.out]
    exact Q7.out.wk.fr HB.out hblt fS (by omega) (fun c fz e=>by rw [Q7.out.gD] at e; injection e with e; exact n5 (by decide) e)
   ·rw [sS]
    simp
 case done =>
  rintro D W hD hi hK;have HKK:=qd hK
  gi_wp2
  refine ⟨by simp,.inl ⟨_,_,rfl,run_takeDeferred HKK.out,?_⟩⟩
  refine ⟨.tuple #[],results_none rfl _ _ _,rfl,?_⟩;rw [hWp.out];have zz:=Z4.out;exact hi.out.wk.fr HB.out hblt (fr_put W D (.deferred none)) (by omega) (fun c fz e=>by rw [HKK.out] at e; cases e)
 case stop =>
  rintro D pre W hD hi hK;exact hi.elim
end Go.Proofs.YtfhkhmgodkheaaaGreatDoor
namespace Go.Proofs.YtfhkhmgodkheaaaGreatDoor
open Go.RowKit Go.Maps
theorem worded_ok (w0:World) (b fo:Nat) (caps:Array Value) (bx:List (Nat × Obj)) (xs:List (List Bs)) (hTh:Thing w0 b fo caps bx xs) (l t:Bs) (w:World) (hb:Bl w0 w) (h:Wt w0.heap.size b l w) (hx:Bx b bx w) (hbx:∀ x∈bx,x.1 < w.heap.size) (ht:t.length≤268435456) (h2:qI t=2→0 < xs.length) (h3:qI t=3→(zo (jq t)).length=xs.length) :
  Calls Tryz.prog 66 #[.pointer (some ⟨b,0,none⟩),.string (ba t),.func (.func fo) #[] caps] w (RW w0 b (qH l (zk t xs)) w):=by
 by_cases hr:qI t=3
 ·exact worded_kw w0 b fo caps bx xs hTh l t w hb h hx hbx ht hr (h3 hr)
 ·exact worded_low w0 b fo caps bx xs hTh l t w hb h hx ht hr h2
theorem Wk.cell {w0 w w':World} {b k i:Nat} {l:Bs} {A:Array Value} {t:TypeId} (h:Wk w0 b l w w') (hk:w.heap[k]?=some (.cells A t (0,0))) (hb:k≠b) (ht:t≠5):w'.heap[k]?=some (.cells A t (0,0)) :=
 h.oth k _ hk (fun e=>hb (by simpa using e)) (fun c fz e=>by injection e with e1 e2; exact ht e2)
theorem head1_w (w0:World) (b pw pp g off n c i:Nat) (l x:Bs) (w:World) (hb:Bl w0 w) (h:Wt w0.heap.size b l w) (h1:w.heap[pw]?=some (.cells #[.pointer (some ⟨b,0,none⟩)] 83 (0,0))) (h2:w.heap[pp]?=some (.cells #[.slice (some ⟨g,off,none⟩) n c] 23 (0,0))) (hne1:pw≠b) (hne2:pp≠b) (hg:g < w0.heap.size) (hc:w0.cell? ⟨g,off+i,none⟩=some (.string (ba x))) (hi:i < n) (hx:x.length≤70368744177664) :
  Calls Tryz.prog 67 #[.int .i64 (i:Nat),.pointer (some ⟨pw,0,none⟩),.pointer (some ⟨pp,0,none⟩)] w (RW w0 b (zU l x) w):=by
 have hbd:Bl w0 w.drew:=hb.trans (qV w)
 have kd:Wk w0 b l w w.drew:=Wk.ofBl h hb (qV w)
 have HA:=qd (jz w0 b l x w.drew hbd kd.wt hx)
 have HKd:=qd kd
 have c0:w.drew.cell? ⟨pw,0,none⟩=some (.pointer (some ⟨b,0,none⟩)):=by rw [qh (w:=w.drew) h1]; rfl
 have c1:w.drew.cell? ⟨pp,0,none⟩=some (.slice (some ⟨g,off,none⟩) n c):=by rw [qh (w:=w.drew) h2]; rfl
 have c2:w.drew.cell? ⟨g,off+i,none⟩=some (.string (ba x)):=by rw [World.cell?_of_block (w:=w0) (hbd.block g hg)]; exact hc
 have HS:Hid (∀ V,Wk w0 b (zU l x) w.drew V→V.cell? ⟨pw,0,none⟩=some (.pointer (some ⟨b,0,none⟩))∧V.cell? ⟨pp,0,none⟩=some (.slice (some ⟨g,off,none⟩) n c)∧V.cell? ⟨g,off+i,none⟩=some (.string (ba x))):=qd (fun V k=>by
  refine ⟨?_,?_,?_⟩
  ·rw [qh (k.cell (i:=0) (w:=w.drew) h1 hne1 (by decide))]; rfl
  ·rw [qh (k.cell (i:=0) (w:=w.drew) h2 hne2 (by decide))]; rfl
  ·rw [World.cell?_of_block (w:=w0) ((k.bl hbd).block g hg)]; exact hc)
 have hii:(i:Int) < n:=by omega
 clear hb hbd kd h h1 h2 hne1 hne2 hg hc hx
 go_enter Tryz.func67,Tryz.ntmps67
 go_wp2_with fail
 refine wp_region_held_drew (S:=fun V=>V.cell? ⟨pw,0,none⟩=some (.pointer (some ⟨b,0,none⟩))∧V.cell? ⟨pp,0,none⟩=some (.slice (some ⟨g,off,none⟩) n c)∧V.cell? ⟨g,off+i,none⟩=some (.string (ba x))) (by kernel_rfl) (⟨c0,c1,c2⟩) (fun hHeld=>?_)
 refine tq (i:=0) ?_
 try simp only [Act.put,qq]
 refine tq (i:=1) ?_
 try simp only [Act.put,qq]
 refine tq (i:=2) ?_
 try simp only [Act.put,qq]
 refine tq (i:=3) ?_
 try simp only [Act.put,qq]
 refine tq (i:=4) ?_
 try simp only [Act.put,qq]
 refine qU (i:=5) (by kernel_rfl) rfl (fun K hK=>?_)
 refine qO (by rfl) 68 Tryz.f68 Tryz.func68 (by kernel_rfl) (by kernel_rfl) _ _ rfl _ (by first | (simp [Act.eval]; done) | (simp [Act.eval]; rfl)) _ (HA.out) ?_
 rintro _ w1 ⟨rfl,k1⟩
 refine hK.out _ _ (HS.out _ k1) (fun hHeld=>?_)
 clear hK K
 try simp only [Act.put,qq]
 refine wpAnyH_done (by kernel_rfl) ?_ _
 go_wp2_with fail
 go_end0
 exact ⟨rfl,HKd.out.trans k1⟩
theorem msg1_w (nd:Nt) (hX:CW nd) (w0:World) (b pw pa pm kb ko n c i most:Nat) (l:Bs) (w:World) (hb:Bl w0 w) (hE:Env w0) (h:Wt w0.heap.size b l w) (h1:w.heap[pw]?=some (.cells #[.pointer (some ⟨b,0,none⟩)] 83 (0,0))) (h2:w.heap[pa]?=some (.cells #[.slice (some ⟨kb,ko,none⟩) n c] 25 (0,0))) (h3:w.heap[pm]?=some (.cells #[.int .i64 (most:Nat)] 3 (0,0))) (hne1:pw≠b) (hne2:pa≠b) (hne3:pm≠b) (hn:NtM w0 nd kb (ko+i * 7)) (hi:i < n) :
  Calls Tryz.prog 149 #[.int .i64 (i:Nat),.pointer (some ⟨pw,0,none⟩),.pointer (some ⟨pa,0,none⟩),.pointer (some ⟨pm,0,none⟩)] w (RW w0 b (qH l (oprPc nd most (qP nd))) w):=by
 have hbd:Bl w0 w.drew:=hb.trans (qV w)
 have kd:Wk w0 b l w w.drew:=Wk.ofBl h hb (qV w)
 have HO:=qd (operand_ok nd hX w0 b l w.drew kb (ko+i * 7) most hbd hE hn kd.wt)
 have HKd:=qd kd
 generalize oprPc nd most (qP nd)=O at *
 have c0:w.drew.cell? ⟨pw,0,none⟩=some (.pointer (some ⟨b,0,none⟩)):=by rw [qh (w:=w.drew) h1]; rfl
 have c1:w.drew.cell? ⟨pa,0,none⟩=some (.slice (some ⟨kb,ko,none⟩) n c):=by rw [qh (w:=w.drew) h2]; rfl
 have c2:w.drew.cell? ⟨pm,0,none⟩=some (.int .i64 (most:Nat)):=by rw [qh (w:=w.drew) h3]; rfl
 have HS:Hid (∀ V,Wk w0 b (qH l O) w.drew V→V.cell? ⟨pw,0,none⟩=some (.pointer (some ⟨b,0,none⟩))∧V.cell? ⟨pa,0,none⟩=some (.slice (some ⟨kb,ko,none⟩) n c)∧V.cell? ⟨pm,0,none⟩=some (.int .i64 (most:Nat))):=qd (fun V k=>by
  refine ⟨?_,?_,?_⟩
  ·rw [qh (k.cell (i:=0) (w:=w.drew) h1 hne1 (by decide))]; rfl
  ·rw [qh (k.cell (i:=0) (w:=w.drew) h2 hne2 (by decide))]; rfl
  ·rw [qh (k.cell (i:=0) (w:=w.drew) h3 hne3 (by decide))]; rfl)
 have hii:(i:Int) < n:=by omega
 clear hb hbd kd h h1 h2 h3 hne1 hne2 hne3 hn hE hX
 go_enter Tryz.func149,Tryz.ntmps149
 go_wp2_with fail
 refine wp_region_held_drew (S:=fun V=>V.cell? ⟨pw,0,none⟩=some (.pointer (some ⟨b,0,none⟩))∧V.cell? ⟨pa,0,none⟩=some (.slice (some ⟨kb,ko,none⟩) n c)∧V.cell? ⟨pm,0,none⟩=some (.int .i64 (most:Nat))) (by kernel_rfl) (⟨c0,c1,c2⟩) (fun hHeld=>?_)
 refine tq (i:=0) ?_
 try simp only [Act.put,qq]
 refine tq (i:=1) ?_
 try simp only [Act.put,qq]
 refine tq (i:=2) ?_
 try simp only [Act.put,qq]
 refine tq (i:=3) ?_
 try simp only [Act.put,qq]
 refine tq (i:=4) ?_
 try simp only [Act.put,qq]
 refine qU (i:=5) (by kernel_rfl) rfl (fun K hK=>?_)
 refine qO (by rfl) 148 Tryz.f148 Tryz.func148 (by kernel_rfl) (by kernel_rfl) _ _ rfl _ (by first | (simp [Act.eval]; done) | (simp [Act.eval]; rfl)) _ (HO.out) ?_
 rintro _ w1 ⟨rfl,k1⟩
 refine hK.out _ _ (HS.out _ k1) (fun hHeld=>?_)
 clear hK K
 try simp only [Act.put,qq]
 refine wpAnyH_done (by kernel_rfl) ?_ _
 go_wp2_with fail
 go_end0
 exact ⟨rfl,HKd.out.trans k1⟩
end Go.Proofs.YtfhkhmgodkheaaaGreatDoor
