import Derived.Test.YtfhkhmgodkheaaaGreatDoorQCG38UJo
import Derived.Test.YtfhkhmgodkheaaaGreatDoorQCG36TBr
set_option linter.unusedSimpArgs false
set_option linter.unusedVariables false
set_option maxRecDepth 1000000
set_option maxHeartbeats 16000000
namespace Go.Proofs.YtfhkhmgodkheaaaGreatDoor
theorem sh_zero (us:Ts):Lx.sh 0 us=us:=by
 unfold Lx.sh
 induction us with
 | nil=>rfl
 | cons x r ih=>rw [List.map_cons,ih]; rfl
theorem getD_app1 (us:Ts) (x:Tok × Nat) (r:Ts):(us++x :: r).getD us.length zj=x:=by
 rw [List.getD_eq_getElem?_getD,List.getElem?_append_right (Nat.le_refl _),Nat.sub_self]; rfl
theorem getD_app0 (us r:Ts) (i:Nat) (hi:i < us.length):(us++r).getD i zj=us[i]:=by
 rw [List.getD_eq_getElem?_getD,List.getElem?_append_left hi,List.getElem?_eq_getElem hi]; rfl
theorem getD_app2 (us r:Ts) (i:Nat):(us++r).getD (us.length+i) zj=r.getD i zj:=by
 rw [List.getD_eq_getElem?_getD,List.getElem?_append_right (by omega),List.getD_eq_getElem?_getD,Nat.add_sub_cancel_left]
theorem hd_atU {ts:Ts} {s:Ps} {i:Nat} (h:s.pos=i):hdT ts s=ts.getD i zj:=by unfold hdT; rw [h]
theorem stands_at {ts:Ts} {s:Ps} {i k:Nat} (h:s.pos=i):qi ts k s=decide ((ts.getD i zj).1.kind=k):=by unfold qi hdT; rw [h]
theorem Lx.kinds {p:Nat} {l:Bs} {us:Ts} {e:Option Nat} (h:Lx p l us e) (i:Nat) (hi:i < us.length):1≤us[i].1.kind∧us[i].1.kind≤17:=by have c2:=(h.can us[i] (List.getElem_mem hi)).2; omega
theorem point_lx (q:Nat) {R:Bs} {ts:Ts} {e:Option Nat} (h:Lx (q+3) R ts e):Lx q (32 :: 46 :: 32 :: R) ((⟨16,[],0⟩,q+1) :: ts) e:=by
 refine Lx.pass _ _ 1 _ _ (by unfold cut; rfl) ?_
 refine Lx.tok _ _ ⟨16,[],0⟩ 1 _ _ (by rfl) ?_
 exact Lx.pass _ _ 1 _ _ (by unfold cut; rfl) h
theorem blank_lx (q:Nat) {R:Bs} {ts:Ts} {e:Option Nat} (h:Lx (q+1) R ts e):Lx q (32 :: R) ts e:=Lx.pass _ _ 1 _ _ (by unfold cut; rfl) h
theorem gs_blank (R:Bs):Gs (32 :: R):=Or.inr (Or.inl rfl)
theorem stop_pos {us:Ts} {x:Tok × Nat} {s:Ps} (hu:∀ i (hi:i < us.length),us[i].1.kind≠18) (hx:x.1.kind=18) (h:qi (us++[x]) 18 s=true):s.pos=us.length:=by
 have hk:=qk h
 unfold hdT at hk
 by_cases h1:s.pos < us.length
 ·rw [getD_app0 us _ _ h1] at hk
  exact absurd hk (hu _ h1)
 ·by_cases h2:s.pos=us.length
  ·exact h2
  ·rw [List.getD_eq_getElem?_getD,List.getElem?_eq_none (by simp; omega)] at hk
   cases hk
theorem temporaries_none {ts:Ts} {f:Nat} {s:Ps} (h:(hdT ts s).1.kind≠12):qv ts f s=some (.ok [] s):=by
 unfold qv qN
 have:qi ts 12 s=false:=decide_eq_false h
 rw [this]
 rfl
theorem stmt_first {ts:Ts} {f:Nat} {s:Ps} {n:Nd} {s1:Ps} (h:qA ts f s=some (.ok n s1)):(hdT ts s).1.kind≠16:=by
 intro hk
 cases f with
 | zero=>unfold qA at h; cases h
 | succ f =>
  unfold qA at h;rw [if_neg (by unfold qi; rw [hk]; decide)] at h
  cases f with
  | zero=>unfold qD at h; cases h
  | succ f =>
   unfold qD at h;rw [if_neg (fun c=>by have:=qk c.1; omega)] at h
   cases f with
   | zero=>unfold zi at h; cases h
   | succ f =>
    unfold zi at h;obtain ⟨x,s2,e1,_⟩:=qQ h
    cases f with
    | zero=>unfold zm at e1; cases e1
    | succ f =>
     unfold zm at e1;obtain ⟨y,s3,e2,_⟩:=qQ e1
     cases f with
     | zero=>unfold ze at e2; cases e2
     | succ f =>
      unfold ze at e2;rw [if_neg (by omega),if_neg (by omega),if_neg (by omega)] at e2
      cases f with
      | zero=>unfold zb at e2; cases e2
      | succ f =>
       unfold zb at e2;rw [if_neg (by omega),if_neg (by omega),if_neg (by omega),if_neg (by omega)] at e2
       injection e2 with e2; cases e2
theorem no_two {ts:Ts} {f k:Nat} {acc l:List Nd} {s s1:Ps} (h16:(hdT ts s).1.kind=16) (h:qY ts 16 (thr ts) (oneSt ts f) k acc s=some (.ok l s1)):False:=by
 cases k with
 | zero=>cases h
 | succ k =>
  unfold qY at h;rw [show thr ts s=(!qi ts 18 s,s) from rfl,show qi ts 18 s=false by unfold qi; rw [h16]; rfl] at h
  rw [Bool.not_false] at h;dsimp only at h
  cases e:oneSt ts f acc s with
  | none=>rw [e] at h; cases h
  | some x =>
   rw [e] at h
   cases x with
   | bad x=>injection h with h; cases h
   | ok a s2 =>
    unfold oneSt at e
    split at e
    ·injection e with e; cases e
    ·exact stmt_first e h16
theorem Reads.code0 {m:Bool} {l:Bs} {r:Option Src} {a:Nat} (h:Reads m l r 0 a):∃ t,r=some t∧a=0:=by
 obtain ⟨ts,c0,a0,h1,h2⟩:=h
 rcases h2 with ⟨h2,_,h3,_⟩ | ⟨_,h2⟩
 ·exact absurd h3.symm h2
 rcases readP_cases h2 with ⟨x,_,_,h3,_⟩ | ⟨t,s,_,⟨_,h3,_,h4⟩ | ⟨h3,_,h4,_⟩⟩
 ·cases h3
 ·exact ⟨t,h3,h4⟩
 ·exact absurd h4.symm h3
end Go.Proofs.YtfhkhmgodkheaaaGreatDoor
namespace Go.Proofs.YtfhkhmgodkheaaaGreatDoor
open Go.RowKit Go.Maps
mutual
inductive NvM (w:World):Nt→Nat→Nat→Prop
 | mk {k:Int} {t:Bs} {m:Int} {ns:List Bs} {ks:List Nt} {b off:Nat} {x3 sn x5:Value} {p:Option Addr} {c kb ko:Nat} (hb:b < w.heap.size)
   (h0:w.cell? ⟨b,off,none⟩=some (.int .i64 k)) (h1:w.cell? ⟨b,off+1,none⟩=some (.string (ba t))) (h2:w.cell? ⟨b,off+2,none⟩=some (.int .i64 m)) (h3:w.cell? ⟨b,off+3,none⟩=some x3)
   (h4:w.cell? ⟨b,off+4,none⟩=some sn) (h5:w.cell? ⟨b,off+5,none⟩=some x5) (h6:w.cell? ⟨b,off+6,none⟩=some (.slice p ks.length c)) (ht:t.length≤268435456) (hn:ns.length≤268435456) (hk:ks.length≤268435456)
   (ho:x3.oneCell'=true∧x5.oneCell'=true) (hc:ks.length≤c) (hs:RdS w sn ns) (hp:0 < ks.length→p=some ⟨kb,ko,none⟩) (hks:NvsM w ks kb ko):NvM w (.mk k t m ns ks) b off
inductive NvsM (w:World):List Nt→Nat→Nat→Prop
 | nil {b off:Nat}:NvsM w [] b off
 | cons {n:Nt} {r:List Nt} {b off:Nat} (h1:NvM w n b off) (h2:NvsM w r b (off+7)):NvsM w (n :: r) b off
end
mutual
theorem NvM.keep {w w':World} {n:Nt} {b off:Nat} (h:NvM w n b off) (bl:Bl w w'):NvM w' n b off:=by
 cases h with
 | mk hb h0 h1 h2 h3 h4 h5 h6 ht hn hk ho hc hs hp hks =>
  have e:∀ i,w'.cell? ⟨b,i,none⟩=w.cell? ⟨b,i,none⟩:=fun i=>World.cell?_of_block (w:=w) (bl.block b hb)
  exact .mk (Nat.lt_of_lt_of_le hb bl.size) (by rw [e]; exact h0) (by rw [e]; exact h1) (by rw [e]; exact h2) (by rw [e]; exact h3) (by rw [e]; exact h4) (by rw [e]; exact h5) (by rw [e]; exact h6) ht hn hk ho hc (hs.keep bl) hp (NvsM.keep hks bl)
theorem NvsM.keep {w w':World} {ns:List Nt} {b off:Nat} (h:NvsM w ns b off) (bl:Bl w w'):NvsM w' ns b off:=by
 cases h with
 | nil=>exact .nil
 | cons h1 h2=>exact .cons (NvM.keep h1 bl) (NvsM.keep h2 bl)
end
theorem NvsM.get {w:World}:∀ {ns:List Nt} {b off:Nat},NvsM w ns b off→∀ i,i < ns.length→NvM w (ns.getD i qE) b (off+i * 7):=by
 intro ns
 induction ns with
 | nil=>intro b off h i hi; simp at hi
 | cons n r ih =>
  intro b off h i hi
  cases h with
  | cons h1 h2 =>
   cases i with
   | zero=>simpa using h1
   | succ i =>
    have:=ih h2 i (by simpa using hi)
    rw [show off+7+i * 7=off+(i+1) * 7 by omega] at this
    simpa using this
def RvN (w:World) (v:Value) (l:List Nt):Prop:=∃ p c kb ko,v=.slice p l.length c∧l.length≤c∧l.length≤268435456∧(0 < l.length→p=some ⟨kb,ko,none⟩)∧NvsM w l kb ko
theorem RvN.keep {w w':World} {v:Value} {l:List Nt} (h:RvN w v l) (b:Bl w w'):RvN w' v l:=by
 obtain ⟨p,c,kb,ko,h1,h2,h3,h4,h5⟩:=h
 exact ⟨p,c,kb,ko,h1,h2,h3,h4,h5.keep b⟩
def NdV (w:World) (n:Nt) (v:Value):Prop:=∃ a sn sp sk,v=.agg #[.int .i64 n.kind,.string (ba n.text),.int .i64 n.num,a,sn,sp,sk]∧(#[.int .i64 n.kind,.string (ba n.text),.int .i64 n.num,a,sn,sp,sk]:Array Value).all (·.oneCell')=true∧n.names.length≤268435456∧RdS w sn n.names∧RvN w sk n.kids
theorem NvM.cells {w:World} {n:Nt} {b off:Nat} (h:NvM w n b off):∃ a sn sp sk,b < w.heap.size∧w.cell? ⟨b,off,none⟩=some (.int .i64 n.kind)∧w.cell? ⟨b,off+1,none⟩=some (.string (ba n.text))∧w.cell? ⟨b,off+2,none⟩=some (.int .i64 n.num)∧w.cell? ⟨b,off+3,none⟩=some a ∧
  w.cell? ⟨b,off+4,none⟩=some sn∧w.cell? ⟨b,off+5,none⟩=some sp∧w.cell? ⟨b,off+6,none⟩=some sk∧NdV w n (.agg #[.int .i64 n.kind,.string (ba n.text),.int .i64 n.num,a,sn,sp,sk]):=by
 cases h with
 | mk hb h0 h1 h2 h3 h4 h5 h6 ht hn hk ho hc hs hp hks =>
  refine ⟨_,_,_,_,hb,h0,h1,h2,h3,h4,h5,h6,_,_,_,_,rfl,?_,hn,hs,_,_,_,_,rfl,hc,hk,hp,hks⟩;obtain ⟨p',c',rfl,_⟩:=hs;obtain ⟨o1,o2⟩:=ho;rw [List.all_toArray];simp only [List.all_cons,List.all_nil,o1,o2];rfl
mutual
theorem NdM.nv {w:World} {n:Nd} {c0 c1 c2 c3 c4 c5 c6:Value} {ft:List Nat} (h:NdM w n (.agg #[c0,c1,c2,c3,c4,c5,c6]) ft) (g off:Nat) (hg:g < w.heap.size) (hs:smN n=true)
  (q0:w.cell? ⟨g,off,none⟩=some c0) (q1:w.cell? ⟨g,off+1,none⟩=some c1) (q2:w.cell? ⟨g,off+2,none⟩=some c2) (q3:w.cell? ⟨g,off+3,none⟩=some c3) (q4:w.cell? ⟨g,off+4,none⟩=some c4) (q5:w.cell? ⟨g,off+5,none⟩=some c5) (q6:w.cell? ⟨g,off+6,none⟩=some c6):NvM w (trN n) g off:=by
 cases h with
 | @mk k t m a nms pls kids sn sp sk f1 f2 f3 f4 xs h1 h2 h3 h4 =>
  rw [smN,Bool.and_eq_true,Bool.and_eq_true,Bool.and_eq_true] at hs;obtain ⟨s1,s2,s3,s4⟩:=hs;have s1:=of_decide_eq_true s1;have s2:=of_decide_eq_true s2;have s3:=of_decide_eq_true s3;obtain ⟨pp,cc,rfl⟩:=h2.slice;rw [trN]
  by_cases h0:0 < kids.length
  ·obtain ⟨kb,cap,rfl,hc,hkb,hl,hcs⟩:=row_cells h3 h0
   exact NvM.mk hg q0 q1 q2 q3 q4 q5 (by rw [jA]; exact q6) s1 s2 (by rw [jA]; exact s3) ⟨rfl,rfl⟩ (by rw [jA]; exact hc) (rows_rd h1) (fun _=>rfl) (NdsM.nv h4 kb 0 hkb s4 (fun j hj=>by rw [Nat.zero_add]; exact hcs j hj))
  ·have hk0:kids=[]:=List.length_eq_zero_iff.1 (by omega)
   subst hk0;obtain ⟨p,c,rfl⟩:=h3.slice;rw [trL];exact NvM.mk (kb:=0) (ko:=0) hg q0 q1 q2 q3 q4 q5 q6 s1 s2 (by simp) ⟨rfl,rfl⟩ (by simp) (rows_rd h1) (fun h=>by simp at h) .nil
theorem NdsM.nv {w:World} {ns:List Nd} {xs:List Value} {ft:List Nat} (h:NdsM w ns xs ft) (g off:Nat) (hg:g < w.heap.size) (hs:smL ns=true) (hc:∀ j,j < xs.length→w.cell? ⟨g,off+j,none⟩=xs[j]?):NvsM w (trL ns) g off:=by
 cases h with
 | nil=>rw [trL]; exact .nil
 | @cons n r c0 c1 c2 c3 c4 c5 c6 ys f1 f2 h1 h2 =>
  rw [smL,Bool.and_eq_true] at hs;rw [trL];refine .cons (NdM.nv h1 g off hg hs.1 (hc 0 (by simp)) (hc 1 (by simp)) (hc 2 (by simp)) (hc 3 (by simp)) (hc 4 (by simp)) (hc 5 (by simp)) (hc 6 (by simp))) (NdsM.nv h2 g (off+7) hg hs.2 (fun j hj=>?_))
  have:=hc (7+j) (by simp; omega)
  rw [← Nat.add_assoc] at this;rw [this];rw [show 7+j=j+1+1+1+1+1+1+1 by omega]
  simp
end
structure TvM (w:World) (t:Tr) (sn sp sb:Value):Prop where
 nm:RdS w sn t.names
 nl:t.names.length≤140737488355328
 body:RvN w sb t.body
 one:sp.oneCell'=true
theorem TvM.keep {w w':World} {t:Tr} {sn sp sb:Value} (h:TvM w t sn sp sb) (b:Bl w w'):TvM w' t sn sp sb:=⟨h.nm.keep b,h.nl,h.body.keep b,h.one⟩
theorem SrM.tv {w:World} {t:Src} {v:Value} {ft:List Nat} (h:SrM w t v ft) (h1:t.names.length≤140737488355328) (h2:t.body.length≤268435456) (h3:smL t.body=true):∃ a sn sp sb,v=trV (trS t) a sn sp sb∧TvM w (trS t) sn sp sb∧TrM w (trS t) a sn sp sb:=by
 obtain ⟨a,sn0,sp0,sb0,hv0,hT⟩:=h.tr h1 h2 h3
 obtain ⟨sn,sp,sb,f1,f2,f3,f4,xs,rfl,rfl,r1,r2,r3,r4⟩:=h
 refine ⟨a,sn0,sp0,sb0,hv0,?_,hT⟩
 unfold trV at hv0
 injection hv0 with hv0
 injection hv0 with hv0
 injection hv0 with _ hv0
 injection hv0 with _ hv0
 injection hv0 with _ hv0
 injection hv0 with e3 hv0
 injection hv0 with e4 hv0
 injection hv0 with e5 _
 subst e3; subst e4; subst e5
 refine ⟨rows_rd r1,h1,?_,?_⟩
 ·by_cases h0:0 < t.body.length
  ·obtain ⟨kb,cap,rfl,hc,hkb,hl,hcs⟩:=row_cells r3 h0
   exact ⟨_,_,kb,0,by show _=Value.slice _ (trL t.body).length _; rw [jA],by show (trL t.body).length≤_; rw [jA]; exact hc,by show (trL t.body).length≤_; rw [jA]; exact h2,fun _=>rfl,NdsM.nv r4 kb 0 hkb h3 (fun j hj=>by rw [Nat.zero_add]; exact hcs j hj)⟩
  ·have hk0:t.body=[]:=List.length_eq_zero_iff.1 (by omega)
   obtain ⟨p,c,hv⟩:=r3.slice;rw [hk0] at hv;subst hv;refine ⟨p,c,0,0,?_,?_,?_,?_,?_⟩
   ·show _=Value.slice p (trL t.body).length c; rw [hk0]; rfl
   ·show (trL t.body).length≤_; rw [hk0]; simp [trL]
   ·show (trL t.body).length≤_; rw [hk0]; simp [trL]
   ·show 0 < (trL t.body).length→_; rw [hk0]; simp [trL]
   ·show NvsM w (trL t.body) 0 0; rw [hk0]; exact .nil
 ·obtain ⟨p,c,rfl⟩:=r2.slice
  rfl
end Go.Proofs.YtfhkhmgodkheaaaGreatDoor
namespace Go.Proofs.YtfhkhmgodkheaaaGreatDoor
theorem smL_all (l:List Nd):smL l=true ↔ ∀ n∈l,smN n=true:=by
 induction l with
 | nil=>simp [smL]
 | cons n r ih=>rw [smL]; simp [ih]
theorem smN_mk {k:Nat} {t:Bs} {v:Int} {p:Nat} {ns:List Bs} {ps:List Nat} {ks:List Nd} (h1:t.length≤268435456) (h2:ns.length≤268435456) (h3:ks.length≤268435456) (h4:∀ n∈ks,smN n=true):smN (.mk k t v p ns ps ks)=true:=by
 rw [smN,decide_eq_true h1,decide_eq_true h2,decide_eq_true h3,(smL_all ks).2 h4]; rfl
theorem smN_of {k:Nat} {t:Bs} {v:Int} {p:Nat} {ns:List Bs} {ps:List Nat} {ks:List Nd} (h:smN (.mk k t v p ns ps ks)=true):t.length≤268435456∧ns.length≤268435456∧ks.length≤268435456∧∀ n∈ks,smN n=true:=by
 rw [smN,Bool.and_eq_true,Bool.and_eq_true,Bool.and_eq_true] at h
 exact ⟨of_decide_eq_true h.1,of_decide_eq_true h.2.1,of_decide_eq_true h.2.2.1,(smL_all ks).1 h.2.2.2⟩
def Sz (r:Option (Rs Nd)):Prop:=∀ n s1,r=some (.ok n s1)→smN n=true
theorem Sz.ok {n:Nd} {s:Ps} (h:smN n=true):Sz (some (.ok n s)):=by intro m s1 e; injection e with e; injection e with e1 e2; subst e1; exact h
theorem Sz.bad {x:Tok × Nat}:Sz (some (.bad x)):=by intro m s1 e; injection e with e; cases e
theorem Sz.no:Sz none:=by intro m s1 e; cases e
theorem Sz.bind {α:Type} {r:Option (Rs α)} {k:α→Ps→Option (Rs Nd)} (hk:∀ a s1,r=some (.ok a s1)→Sz (k a s1)):Sz (qF r k):=by
 intro n s2 e
 obtain ⟨a,s1,e1,e2⟩:=qQ e
 exact hk a s1 e1 n s2 e2
theorem smN_leaf {k:Nat} {t:Bs} {v:Int} {p:Nat} (h:t.length≤4096):smN (.mk k t v p [] [] [])=true:=smN_mk (by omega) (by simp) (by simp) (by simp)
theorem words_text:∀ (us:Ts) (i:Nat) (l:Bs) (s:Ps),(∀ x∈us,x.1.text.length≤4096)→(zH i l us s).1.length≤l.length+us.length * 4097:=by
 intro us
 induction us with
 | nil=>intro i l s h; exact Nat.le_add_right _ _
 | cons x r ih =>
  intro i l s h;unfold zH;refine Nat.le_trans (ih _ _ _ (fun y hy=>h y (by simp [hy]))) ?_
  have:=h x (by simp)
  simp
  omega
theorem worded_text {ts:Ts} {one:Nat→Ps→Option (Rs Nd)} (ho:∀ k s,k≤3→Okq ts s→Pq ts s (one k s)) (hs:∀ k s,k≤3→Okq ts s→Sz (one k s)) (f:Nat) (s:Ps) (h:Okq ts s) (x:Bs × List Nd) (s':Ps) (e:zt ts one f s=some (.ok x s')):x.1.length≤268435456∧∀ n∈x.2,smN n=true:=by
 unfold zt at e
 have ht:=h.txt.1
 by_cases h1:qy (hdT ts s)=1
 ·rw [if_pos h1] at e; injection e with e; injection e with e1 e2; subst e1; exact ⟨by dsimp only; omega,by simp⟩
 rw [if_neg h1] at e
 by_cases h2:qy (hdT ts s)=2
 ·rw [if_pos h2] at e
  obtain ⟨a,s1,e1,e2⟩:=qQ e;have hq:=h.take (zu (by rw [h2]; decide))
  have:=hs 2 _ (by decide) hq a s1 e1
  injection e2 with e; injection e with e1 e2; subst e1
  exact ⟨by dsimp only; omega,by simpa using this⟩
 rw [if_neg h2] at e
 by_cases h3:qy (hdT ts s)=3
 ·rw [if_pos h3] at e
  unfold zv at e;obtain ⟨l,s1,e1,e2⟩:=qQ e;have hp:∀ (acc:List ((Tok × Nat) × Nd)) (s:Ps),Okq ts s→(decide (qy (hdT ts s)=3),s).1=true→Pg ts s ((fun (_:List ((Tok × Nat) × Nd)) s=>qF (one 3 (qj ts s)) (fun a s2=>some (.ok (hdT ts s,a) s2))) acc s):=by
   intro acc s hs hth;have hk:qy (hdT ts s)=3:=by simpa using hth
   have ht:=hs.take (zu (by rw [hk]; decide))
   exact Pg.tk (Pq.bind (ho 3 _ (by decide) ht) (fun a s1 _ h1=>Pq.ok h1))
  have hl:=zX (there:=fun s=>(decide (qy (hdT ts s)=3),s)) (one:=fun (_:List ((Tok × Nat) × Nd)) s=>qF (one 3 (qj ts s)) (fun a s2=>some (.ok (hdT ts s,a) s2))) (btw:=0) (by decide) (fun s hs=>⟨Nat.le_refl _,hs⟩) hp f [] s l s1 h (Nat.zero_le _) e1
  have hq:=((zh (there:=fun s=>(decide (qy (hdT ts s)=3),s)) (one:=fun (_:List ((Tok × Nat) × Nd)) s=>qF (one 3 (qj ts s)) (fun a s2=>some (.ok (hdT ts s,a) s2))) (btw:=0) (by decide) (fun s hs=>⟨Nat.le_refl _,hs⟩) hp f [] s h).1 l s1 e1).2
  have hall:=jx (there:=fun s=>(decide (qy (hdT ts s)=3),s)) (one:=fun (_:List ((Tok × Nat) × Nd)) s=>qF (one 3 (qj ts s)) (fun a s2=>some (.ok (hdT ts s,a) s2))) (Q:=fun a=>a.1.1.text.length≤4096∧smN a.2=true) (btw:=0) (by decide) (fun s hs=>⟨Nat.le_refl _,hs⟩) hp (fun acc s a s' hs2 hth e=>by
   obtain ⟨b,s1,e1,e2⟩:=qQ e;have hk:qy (hdT ts s)=3:=by simpa using hth
   injection e2 with e2; injection e2 with e2 e3; subst e2
   exact ⟨hs2.txt.1,hs 3 _ (by decide) (hs2.take (zu (by rw [hk]; decide))) b s1 e1⟩) f [] s l s1 h (by simp) e1
  have h9:=hq.lt;have h8:=hq.len;injection e2 with e; injection e with e1 e2; subst e1
  refine ⟨?_,fun n hn=>?_⟩
  ·have:=words_text (l.map (·.1)) 0 [] s1 (fun x hx=>by obtain ⟨a,ha,rfl⟩:=List.mem_map.1 hx; exact (hall a ha).1)
   refine Nat.le_trans this ?_;rw [List.length_map,List.length_nil,Nat.zero_add];have:l.length * 4097≤4097 * 4097:=Nat.mul_le_mul_right _ (by omega)
   omega
  ·obtain ⟨a,ha,rfl⟩:=List.mem_map.1 hn
   exact (hall a ha).2
 ·rw [if_neg h3] at e; injection e with e; cases e
theorem integer_sz {ts:Ts} {s:Ps}:Sz (some (jc ts s)):=by
 unfold jc
 dsimp only
 split
 ·exact Sz.ok (smN_leaf (by simp))
 split
 ·exact Sz.ok (smN_leaf (by simp))
 ·exact Sz.bad
theorem named_sz {ts:Ts} {s:Ps} {most:Nat} (h:Okq ts s):Sz (some (jf ts most s)):=by
 have:=h.txt.1
 unfold jf
 dsimp only
 split
 ·exact Sz.ok (smN_leaf this)
 split
 ·exact Sz.ok (smN_leaf this)
 split
 ·exact Sz.bad
 ·exact Sz.ok (smN_leaf (by simp))
theorem sz_send {n m:Nd} (hn:smN n=true) (hm:smN m=true) (hl:m.kids.length≤4097):smN (sendN n m)=true:=by
 cases m
 obtain ⟨a,b,c,d⟩:=smN_of hm
 unfold sendN
 refine smN_mk a b ?_ ?_
 ·have:(Nd.mk _ _ _ _ _ _ ‹List Nd›).kids.length≤4097:=hl
  show (n :: _).length≤_
  rw [List.length_cons]
  show List.length _+1≤_
  have h2:=hl;unfold Nd.kids at h2;simp only at h2;unfold Nd.kids;simp only;omega
 ·intro x hx
  rcases List.mem_cons.1 hx with rfl | hx
  ·exact hn
  ·exact d x hx
structure SzAll (ts:Ts) (f:Nat):Prop where
 expr:∀ s,Okq ts s→Sz (qD ts f s)
 casc:∀ s,Okq ts s→Sz (zi ts f s)
 sends:∀ most s,Okq ts s→∀ n b s1,zm ts f most s=some (.ok (n,b) s1)→smN n=true
 ranks:∀ most rank m sent s,Okq ts s→smN m=true→∀ n b s1,zn ts f most rank m sent s=some (.ok (n,b) s1)→smN n=true
 msg:∀ s,Okq ts s→Sz (qM ts f s)
 prim:∀ most s,Okq ts s→Sz (ze ts f most s)
 lit:∀ s,Okq ts s→Sz (zb ts f s)
 elem:∀ s,Okq ts s→Sz (qX ts f s)
 blk:∀ s,Okq ts s→(hdT ts s).1.kind=10→Sz (zO ts f s)
 stmt:∀ s,Okq ts s→Sz (qA ts f s)
 body:∀ fin s,fin≠18∨fin=18→Okq ts s→∀ l s1,zg ts f fin s=some (.ok l s1)→l.length≤4097∧∀ n∈l,smN n=true
theorem tm_len {ts:Ts} {f:Nat} {s:Ps} (h:Okq ts s) {l:Ts} {s1:Ps} (e:qv ts f s=some (.ok l s1)):l.length≤4097:=by
 unfold qv at e
 have hs:=h.skip (k:=12) (by decide)
 cases e2:qN ts 12 s with
 | mk b s0 =>
  rw [e2] at e hs
  cases b with
  | false=>injection e with e; injection e with e _; subst e; simp
  | true =>
   obtain ⟨l0,s2,e3,e4⟩:=qQ e;have hp:∀ (acc:Ts) (s:Ps),Okq ts s→((fun s=>(qi ts 1 s,s)) s:Bool × Ps).1=true→Pg ts s ((fun (_:Ts) s=>some (.ok (hdT ts s) (qj ts s))) acc s):=fun acc s hs hth=>Pg.tk (Pq.ok (hs.take (by rw [qk hth]; decide)))
   have h1:=zX (there:=fun s=>(qi ts 1 s,s)) (one:=fun (_:Ts) s=>some (.ok (hdT ts s) (qj ts s))) (btw:=0) (by decide) (fun s hs=>⟨Nat.le_refl _,hs⟩) hp f [] s0 l0 s2 hs (Nat.zero_le _) e3
   have h2:=((zh (there:=fun s=>(qi ts 1 s,s)) (one:=fun (_:Ts) s=>some (.ok (hdT ts s) (qj ts s))) (btw:=0) (by decide) (fun s hs=>⟨Nat.le_refl _,hs⟩) hp f [] s0 hs).1 l0 s2 e3).2
   have h3:=h2.lt;have h4:=h2.len;unfold qS at e4
   split at e4
   ·cases e4
   ·injection e4 with e4; injection e4 with e4 _; subst e4; omega
theorem sz_all (ts:Ts):∀ f,SzAll ts f:=by
 intro f
 induction f with
 | zero =>
  refine ⟨fun s _=>?_,fun s _=>?_,fun _ s _ n b s1 e=>?_,fun _ _ _ _ s _ _ n b s1 e=>?_,fun s _=>?_,fun _ s _=>?_,fun s _=>?_,fun s _=>?_,fun s _ _=>?_,fun s _=>?_,fun _ s _ _ l s1 e=>?_⟩ <;> first | (unfold qD; exact Sz.no) | (unfold zi; exact Sz.no) | (unfold zm at e; cases e) | (unfold zn at e; cases e) | (unfold qM; exact Sz.no) | (unfold ze; exact Sz.no) | (unfold zb; exact Sz.no) | (unfold qX; exact Sz.no) | (unfold zO; exact Sz.no) | (unfold qA; exact Sz.no) | (unfold zg at e; cases e)
 | succ f ih =>
  have pg:=zS ts f;refine ⟨?_,?_,?_,?_,?_,?_,?_,?_,?_,?_,?_⟩
  ·intro s h
   unfold qD
   split
   ·rename_i c
    have ht:=h.txt.1;have h1:=h.take (by rw [qk c.1]; decide)
    have hk:hdT ts (qj ts s)=ts.getD (s.pos+1) zj:=rfl;have h2:=h1.take (by rw [hk,c.2]; decide)
    exact Sz.bind (fun n s1 e1=>Sz.ok (smN_mk (by omega) (by simp) (by simp) (by simpa using ih.expr _ h2 n s1 e1)))
   ·exact ih.casc s h
  ·intro s h
   unfold zi;refine Sz.bind (fun x s1 e1=>?_)
   obtain ⟨n,b⟩:=x;have hn:=ih.sends 3 s h n b s1 e1;have h1:=(pg.sends 3 s h (n,b) s1 e1).2
   split
   ·exact Sz.ok hn
   rename_i c
   split
   ·exact Sz.bad
   have h2:=h1.take (by rw [qk (by simpa using c)]; decide)
   refine Sz.bind (fun l s2 e2=>?_)
   have hl:=zX (there:=fun s=>(true,s)) (one:=fun _=>qM ts f) (btw:=17) (by decide) (fun s hs=>⟨Nat.le_refl _,hs⟩) (fun acc s hs _=>pg.msg s hs) f [] _ l s2 h2 (Nat.zero_le _) e2
   have hq:=((zh (there:=fun s=>(true,s)) (one:=fun _=>qM ts f) (btw:=17) (by decide) (fun s hs=>⟨Nat.le_refl _,hs⟩) (fun acc s hs _=>pg.msg s hs) f [] _ h2).1 l s2 e2).2
   have hall:=jx (there:=fun s=>(true,s)) (one:=fun _=>qM ts f) (Q:=fun n=>smN n=true) (btw:=17) (by decide) (fun s hs=>⟨Nat.le_refl _,hs⟩) (fun acc s hs _=>pg.msg s hs) (fun acc s a s' hs _ e=>ih.msg s hs a s' e) f [] _ l s2 h2 (by simp) e2
   have h3:=hq.lt;have h4:=hq.len
   cases n with
   | mk k t v p ns ps kk =>
    obtain ⟨q1,q2,q3,q4⟩:=smN_of hn
    cases kk with
    | nil=>exact Sz.no
    | cons r ks =>
     refine Sz.ok (smN_mk (by simp) (by simp) ?_ ?_)
     ·simp; omega
     ·intro y hy
      rcases List.mem_cons.1 hy with rfl | hy
      ·exact q4 y (by simp)
      rcases List.mem_cons.1 hy with rfl | hy
      ·exact smN_mk q1 q2 (by simp at q3; omega) (fun z hz=>q4 z (by simp [hz]))
      ·exact hall y hy
  ·intro most s h n b s1 e
   unfold zm at e;obtain ⟨m,s2,e1,e2⟩:=qQ e;exact ih.ranks most 1 m false s2 (pg.prim most s h m s2 e1).2 (ih.prim most s h m s2 e1) n b s1 e2
  ·intro most rank m sent s h hm n b s1 e
   unfold zn at e
   split at e
   ·injection e with e; injection e with e1 _; injection e1 with e1 _; subst e1; exact hm
   split at e
   ·obtain ⟨a,s2,e1,e2⟩:=qQ e
    exact ih.ranks most rank _ true s2 (pg.msg s h a s2 e1).2 (sz_send hm (ih.msg s h a s2 e1) (msg_len h e1)) n b s1 e2
   ·exact ih.ranks most (rank+1) m sent s h hm n b s1 e
  ·intro s h
   unfold qM;refine Sz.bind (fun x s1 e1=>?_)
   have ho:∀ k s,k≤3→Okq ts s→Pq ts s (qF (zm ts f (k - 1) s) fun x s1=>some (.ok x.1 s1)):=fun k s _ hs=>(Pg.bind (pg.sends (k - 1) s hs) (fun x s1 _ h1=>Pq.ok h1)).q
   obtain ⟨w1,w2⟩:=worded_text ho (fun k s _ hs=>Sz.bind (fun x s1 e=>by
    obtain ⟨n,b⟩:=x;exact Sz.ok (ih.sends _ s hs n b s1 e))) f s h x s1 e1
   have w3:=worded_len ho f s h x s1 e1;exact Sz.ok (smN_mk w1 (by simp) (by omega) w2)
  ·intro most s h
   unfold ze
   split
   ·exact named_sz h
   split
   ·rename_i c
    refine Sz.bind (fun n s1 e1=>?_)
    have:=ih.expr _ (h.take (by rw [c]; decide)) n s1 e1
    unfold qS
    by_cases e:qi ts 9 s1=true
    ·rw [if_pos e]; exact Sz.ok this
    ·rw [if_neg e]; exact Sz.bad
   split
   ·rename_i c; exact ih.blk s h c
   ·exact ih.lit s h
  ·intro s h
   have ht:=h.txt.1;unfold zb
   split
   ·exact integer_sz
   split
   ·exact Sz.ok (smN_leaf ht)
   split
   ·exact Sz.ok (smN_leaf ht)
   split
   ·rename_i c
    have h1:=h.take (by rw [c]; decide)
    refine Sz.bind (fun l s2 e2=>?_)
    have hl:=zX (there:=fun s=>(!qi ts 9 s,s)) (one:=fun _=>qX ts f) (btw:=0) (by decide) (fun s hs=>⟨Nat.le_refl _,hs⟩) (fun acc s hs _=>pg.elem s hs) f [] _ l s2 h1 (Nat.zero_le _) e2
    have hq:=((zh (there:=fun s=>(!qi ts 9 s,s)) (one:=fun _=>qX ts f) (btw:=0) (by decide) (fun s hs=>⟨Nat.le_refl _,hs⟩) (fun acc s hs _=>pg.elem s hs) f [] _ h1).1 l s2 e2).2
    have hall:=jx (there:=fun s=>(!qi ts 9 s,s)) (one:=fun _=>qX ts f) (Q:=fun n=>smN n=true) (btw:=0) (by decide) (fun s hs=>⟨Nat.le_refl _,hs⟩) (fun acc s hs _=>pg.elem s hs) (fun acc s a s' hs _ e=>ih.elem s hs a s' e) f [] _ l s2 h1 (by simp) e2
    have h3:=hq.lt;have h4:=hq.len;generalize (if 32 < l.length then qR 73 ((l.map Nd.place).getD 32 0) s2 else s2)=s3
    unfold qS
    by_cases e:qi ts 9 s3=true
    ·rw [if_pos e]; exact Sz.ok (smN_mk (by simp) (by simp) (by omega) hall)
    ·rw [if_neg e]; exact Sz.bad
   ·exact Sz.bad
  ·intro s h
   unfold qX
   split
   ·exact named_sz h
   ·exact ih.lit s h
  ·intro s h hk
   unfold zO;have h1:=h.take (by rw [hk]; decide)
   obtain ⟨p1,p2⟩:=params_pg f h1;refine Sz.bind (fun ps s1 e1=>?_)
   have hs1:=(p1 ps s1 e1).2;have hp:=toks_getD (p2 ps s1 e1) 8;have hpl:ps.length≤4097:=by
    have h13:∀ (acc:Ts) (s:Ps),Okq ts s→(qN ts 13 s).1=true→Pg ts s ((fun (_:Ts) s=>some (qS ts 1 s)) acc (qN ts 13 s).2):=fun acc s hs _ a s' e=>by
     obtain ⟨q1,q2⟩:=Pg.need (hs.skip (k:=13) (by decide)) (k:=1) (by decide) a s' e
     exact ⟨Nat.lt_of_le_of_lt (zD ts 13 s) q1,q2⟩
    have hl:=zX (btw:=0) (by decide) (fun s hs=>⟨zD ts 13 s,hs.skip (by decide)⟩) h13 f [] _ ps s1 h1 (Nat.zero_le _) e1
    have h3:=hs1.lt;have h4:=hs1.len;omega
   have hq:Okq ts (if 8 < ps.length then qR 73 (ps.getD 8 zj).2 s1 else s1):=by
    split
    ·exact hs1.pass hp
    ·exact hs1
   dsimp only;generalize (if 8 < ps.length then qR 73 (ps.getD 8 zj).2 s1 else s1)=s2 at *
   have rest:∀ s3,Okq ts s3→Sz (qF (qv ts f s3) fun tm s4=>qF (zg ts f 11 s4) fun l s5 =>
     some (.ok (Nd.mk 12 [] ps.length (hdT ts s).2 ((ps++tm).map (·.1.text)) ((ps++tm).map (·.2)) l) s5)):=fun s3 h3=>by
    refine Sz.bind (fun tm s4 e4=>Sz.bind (fun l s5 e5=>?_))
    have hb:=ih.body 11 s4 (Or.inl (by decide)) (qZ f h3 tm s4 e4).2 l s5 e5
    have ht:=tm_len h3 e4;exact Sz.ok (smN_mk (by simp) (by simp; omega) (by omega) hb.2)
   by_cases hc:0 < ps.length∧qi ts 11 s2=false
   ·rw [if_pos hc]
    unfold qS
    by_cases hb:qi ts 12 s2=true
    ·rw [if_pos hb]; exact rest _ (hq.take (by rw [qk hb]; decide))
    ·rw [if_neg hb]; exact Sz.bad
   ·rw [if_neg hc]; exact rest _ hq
  ·intro s h
   unfold qA
   split
   ·rename_i c
    have h1:=h.take (by rw [qk c]; decide)
    exact Sz.bind (fun n s1 e1=>Sz.ok (smN_mk (by simp) (by simp) (by simp) (by simpa using ih.expr _ h1 n s1 e1)))
   ·exact ih.expr s h
  ·intro fin s _ h l s1 e
   unfold zg at e;have hpg:∀ (acc:List Nd) (s:Ps),Okq ts s→((fun s=>(!qi ts fin s,s)) s:Bool × Ps).1=true→Pg ts s ((fun acc s=>if retd acc=true then some (.bad (hdT ts s)) else qA ts f s) acc s):=fun acc s hs _=>by
    dsimp only
    split
    ·exact Pg.bad
    ·exact pg.stmt s hs
   obtain ⟨l0,s2,e1,e2⟩:=qQ e;have hl:=zX (btw:=16) (by decide) (fun s hs=>⟨Nat.le_refl _,hs⟩) hpg f [] s l0 s2 h (Nat.zero_le _) e1
   have hq:=((zh (btw:=16) (by decide) (fun s hs=>⟨Nat.le_refl _,hs⟩) hpg f [] s h).1 l0 s2 e1).2
   have hall:=jx (Q:=fun n=>smN n=true) (btw:=16) (by decide) (fun s hs=>⟨Nat.le_refl _,hs⟩) hpg (fun acc s a s' hs _ e=>by
    dsimp only at e
    split at e
    ·injection e with e; cases e
    ·exact ih.stmt s hs a s' e) f [] s l0 s2 h (by simp) e1
   have h3:=hq.lt;have h4:=hq.len;unfold qS at e2
   split at e2
   ·cases e2
   ·injection e2 with e2; injection e2 with e2 _; subst e2; exact ⟨by omega,hall⟩
theorem rest_sz {ts:Ts} {f:Nat} {ps:Ts} {s:Ps} (h:Okq ts s) (hp:ps.length≤4097) {t:Src} {s1:Ps} (e:restP ts f ps s=some (.ok t s1)):t.names.length≤8194∧t.body.length≤4097∧smL t.body=true:=by
 unfold restP at e
 obtain ⟨tm,s2,e1,e2⟩:=qQ e
 obtain ⟨l,s3,e3,e4⟩:=qQ e2
 have ht:=tm_len h e1
 have hb:=(sz_all ts f).body 18 s2 (Or.inr rfl) (qZ f h tm s2 e1).2 l s3 e3
 injection e4 with e4; injection e4 with e4 _; subst e4
 exact ⟨by simp; omega,hb.1,(smL_all _).2 hb.2⟩
theorem Reads.sm {m:Bool} {l:Bs} {t:Src} {c a:Nat} (h:Reads m l (some t) c a):t.names.length≤8194∧t.body.length≤4097∧smL t.body=true:=by
 obtain ⟨ts,c0,a0,h1,h2⟩:=h
 rcases h2 with ⟨_,h2,_⟩ | ⟨hz,h2⟩
 ·cases h2
 subst hz
 have ha:a0=0:=by
  rcases h1 with ⟨_,_,h,_⟩ | ⟨hl,us,er,hx,hr⟩
  ·cases h
  ·rcases hr with ⟨_,_,_,h⟩ | ⟨p,_,_,h,_⟩
   ·exact h
   ·cases h
 subst ha
 have hok:=h1.okq.1
 rcases readP_cases h2 with ⟨x,_,h3,_⟩ | ⟨t',s,hx,hc⟩
 ·cases h3
 have et:t'=t:=by
  rcases hc with ⟨_,h3,_⟩ | ⟨_,h3,_⟩
  ·injection h3 with h3; exact h3.symm
  ·cases h3
 subst et
 cases m with
 | false=>exact rest_sz (ps:=[]) hok (by simp) hx
 | true =>
  have hx':methodP ts (fuelT ts) s0=some (.ok t' s):=hx;unfold methodP at hx';obtain ⟨x,s1,e1,e2⟩:=qQ hx';obtain ⟨t0,s2,e3,e4⟩:=qQ e2;have ho:∀ (k:Nat) s,k≤3→Okq ts s→Pq ts s ((fun _ s=>some (qS ts 1 s)) k s):=fun k s _ hs=>(Pg.need hs (by decide)).q
  have hs1:=(worded_pg ho (fuelT ts) s0 hok x s1 e1).2;have hl:=worded_len ho (fuelT ts) s0 hok x s1 e1;have:=rest_sz hs1 hl e3;injection e4 with e4; injection e4 with e4 _; subst e4
  exact this
end Go.Proofs.YtfhkhmgodkheaaaGreatDoor
namespace Go.Proofs.YtfhkhmgodkheaaaGreatDoor
open Go.RowKit Go.Maps
def srcK:ByteArray:=⟨#[97,116,58,32,120,32,112,117,116,58,32,121,32,124,32,116,32,124,32,116,58,61,120,46,94,116,32,102,111,111,58,121,43,49,59,98,97,114]⟩
def srcB:ByteArray:=⟨#[97,46,46,32,98]⟩
def txtK:Bs:=[97,116,58,32,120,32,112,117,116,58,32,121,32,124,32,116,32,124,32,116,32,58,61,32,120,46,32,94,116,32,102,111,111,58,32,121,32,43,32,49,59,32,98,97,114]
def tokK (s:ByteArray):Ts:=match lexF 100 0 (lst s) with | some (ts,_)=>ts++[(zx,(lst s).length)] | none=>[]
def usK (s:ByteArray):Ts:=match lexF 100 0 (lst s) with | some (ts,_)=>ts | none=>[]
def treeK:Src:=match readP (tokK srcK) (wholeP true (tokK srcK)) (fuelT (tokK srcK)) with | some (some t,_,_)=>t | _=>⟨[],0,0,[],[],[]⟩
theorem lexK:LexR (lst srcK) (tokK srcK) 0 0:=Or.inr ⟨by decide,usK srcK,none,lx_of 100 0 _ _ _ (by decide +kernel),Or.inl ⟨rfl,by decide +kernel,rfl,rfl⟩⟩
theorem lexB:LexR (lst srcB) (tokK srcB) 0 0:=Or.inr ⟨by decide,usK srcB,none,lx_of 100 0 _ _ _ (by decide +kernel),Or.inl ⟨rfl,by decide +kernel,rfl,rfl⟩⟩
theorem readK:readP (tokK srcK) (wholeP true (tokK srcK)) (fuelT (tokK srcK))=some (some treeK,0,0):=by kernel_rfl
theorem readB:readP (tokK srcB) (wholeP false (tokK srcB)) (fuelT (tokK srcB))=some (none,71,2):=by kernel_rfl
theorem readsK:Reads true (lst srcK) (some treeK) 0 0:=⟨_,0,0,lexK,Or.inr ⟨rfl,readK⟩⟩
theorem readsB:Reads false (lst srcB) none 71 2:=⟨_,0,0,lexB,Or.inr ⟨rfl,readB⟩⟩
theorem smK:smL treeK.body=true:=by kernel_rfl
theorem lenK:treeK.body.length=2:=by kernel_rfl
theorem namK:treeK.names.length=3:=by kernel_rfl
theorem printK:printP (trS treeK)=(txtK,0):=by kernel_rfl
theorem txt_eq:((ba txtK).toList == [97,116,58,32,120,32,112,117,116,58,32,121,32,124,32,116,32,124,32,116,32,58,61,32,120,46,32,94,116,32,102,111,111,58,32,121,32,43,32,49,59,32,98,97,114])=true:=by
 rw [tl_lst,qJ]
 decide
theorem methodK (w:World) (hE:Env w):Calls Tryz.prog 23 #[.string srcK] w fun e w'=>Bl w w'∧∃ a sn sp p c,e=.returned (.tuple #[.agg #[.string (ba treeK.sel),a,.int .i64 treeK.params,sn,sp,.slice p 2 c],.agg #[.int .i64 0,.int .i64 0]])∧(#[.string (ba treeK.sel),a,.int .i64 treeK.params,sn,sp,.slice p 2 c]:Array Value).all (·.oneCell')=true∧TrM w' (trS treeK) a sn sp (.slice p 2 c):=by
 refine (method_top srcK _ 0 0 w hE.tab (by decide) readsK).mono ?_
 rintro e w' ⟨b,t0,t1,t2,t3,t4,t5,ft,rfl,hs,ha⟩
 have hall:=hs.all.1
 obtain ⟨a,sn,sp,sb,hv,hT⟩:=hs.tr (by rw [namK]; decide) (by rw [lenK]; decide) smK
 obtain ⟨p,c,rfl,_,_⟩:=hT.rn.slc
 have hl:(trS treeK).body.length=2:=by show (trL treeK.body).length=2; rw [jA,lenK]
 rw [hl] at hv hT
 refine ⟨b,a,sn,sp,p,c,?_,?_,hT⟩
 ·rw [hv]; rfl
 ·have hv':(#[t0,t1,t2,t3,t4,t5]:Array Value)=#[.string (ba treeK.sel),a,.int .i64 treeK.params,sn,sp,.slice p 2 c]:=by
   have:=hv;unfold trV at this;injection this
  rw [← hv'];exact hall
theorem doitB (w:World) (hE:Env w):Calls Tryz.prog 10 #[.string srcB] w fun e w'=>Bl w w'∧e=.returned (.tuple #[noSrc,.agg #[.int .i64 71,.int .i64 2]]):=by
 refine (doit_top srcB _ 71 2 w hE.tab (by decide) readsB).mono ?_
 rintro e w' ⟨b,h⟩
 exact ⟨b,h⟩
theorem printT (w:World) (hE:Env w) (a sn sp p) (c:Nat) (hT:TrM w (trS treeK) a sn sp (.slice p 2 c)):Calls Tryz.prog 14 #[.agg #[.string (ba treeK.sel),a,.int .i64 treeK.params,sn,sp,.slice p 2 c]] w fun e w'=>e=.returned (.tuple #[.string (ba txtK),.int .i64 0])∧Bl w w':=by
 have:=print_top (trS treeK) a sn sp (.slice p 2 c) w hE hT
 rw [printK] at this
 exact this
theorem pknown_ok (w:World) (hE:Env w):Calls Tryz.prog 9 #[] w fun e w'=>e=.returned (.bool true)∧Bl w w':=by
 have HM:=qd (methodK w hE)
 have HD:=qd (fun V (bl:Bl w V)=>doitB V (hE.mono bl))
 have HP:=qd (fun V (bl:Bl w V)=>printT V (hE.mono bl))
 have hteq:=txt_eq
 have he1:srcK=⟨#[97,116,58,32,120,32,112,117,116,58,32,121,32,124,32,116,32,124,32,116,58,61,120,46,94,116,32,102,111,111,58,121,43,49,59,98,97,114]⟩:=rfl
 have he2:srcB=⟨#[97,46,46,32,98]⟩:=rfl
 rw [he1] at HM
 rw [he2] at HD
 have HNs:Hid (noSrc=.agg #[.string ⟨#[]⟩,.int .i64 0,.int .i64 0,.slice none 0 0,.slice none 0 0,.slice none 0 0]):=qd rfl
 rw [HNs.out] at HD
 generalize ba treeK.sel=ks at *
 generalize treeK.params=kp at *
 generalize ba txtK=kt at *
 clear he1 he2 hE HNs
 go_enter Tryz.func9,Tryz.ntmps9
 go_wp2_with (first
  | (
   go_at_call 23; refine HM.out.mono ?_; rintro e w1 ⟨b1,a,sn,sp,p,c,rfl,hall,hT⟩
   have HAll:=qd hall;obtain ⟨W2,hW2⟩:∃ X,(w1.alloc (.cells #[.string ⟨#[]⟩,.int .i64 0,.int .i64 0,.slice none 0 0,.slice none 0 0,.slice none 0 0] 27)).alloc (.cells #[.int .i64 0,.int .i64 0] 30)=X:=⟨_,rfl⟩;obtain ⟨b2,s2,g0,g1⟩:=two_boxes hW2;have G0:Hid (W2.heap[w1.heap.size]?=some (.cells #[.string ⟨#[]⟩,.int .i64 0,.int .i64 0,.slice none 0 0,.slice none 0 0,.slice none 0 0] 27 (0,0))):=qd g0;obtain ⟨W3,hW3⟩:∃ X,W2.setRow w1.heap.size #[.string ks,a,.int .i64 kp,sn,sp,.slice p 2 c]=X:=⟨_,rfl⟩;have f3:Fr [w1.heap.size] W2 W3:=hW3▸qG _ _ _;have k0:W3.heap[w1.heap.size]?=some (.cells #[.string ks,a,.int .i64 kp,sn,sp,.slice p 2 c] 27 (0,0)):=hW3▸setRow_heap _ _ _ _ 27 (0,0) g0;have K1:Hid (W3.heap[w1.heap.size+1]?=some (.cells #[.int .i64 0,.int .i64 0] 30 (0,0))):=qd ((f3.block _ (qf g1) (by simp)).trans g1)
   obtain ⟨W4,hW4⟩:∃ X,W3.setRow (w1.heap.size+1) #[.int .i64 0,.int .i64 0]=X:=⟨_,rfl⟩;have f4:Fr [w1.heap.size+1] W3 W4:=hW4▸qG _ _ _;have m0:=qd ((f4.block _ (qf k0) (by simp)).trans k0)
   have m1:Hid (W4.heap[w1.heap.size+1]?=some (.cells #[.int .i64 0,.int .i64 0] 30 (0,0))):=qd (hW4▸setRow_heap _ _ _ _ 30 (0,0) K1.out);have B4:Bl w1 W4:=((((Fr.ofBl b2 []).trans f3 (by simp)).trans f4 (by simp)).bl (by simp))
   have HP4:=qd (HP.out W4 (b1.trans B4) a sn sp p c (hT.keep B4));have BW:=qd (b1.trans B4);obtain ⟨x0,x1,x2,x3,x4,x5⟩:=jo m0.out;clear hall hT b2 s2 g0 g1 f3 k0 f4 B4)
  | (refine wpList_store_row rfl 27 _ _ rfl w1.heap.size #[.string ks,a,.int .i64 kp,sn,sp,.slice p 2 c] rfl rfl 27 _ G0.out (by kernel_rfl) rfl HAll.out ?_; rw [hW3])
  | (refine wpList_store_row rfl 30 _ _ rfl (w1.heap.size+1) #[.int .i64 0,.int .i64 0] rfl rfl 30 _ K1.out (by kernel_rfl) rfl (by kernel_rfl) ?_; rw [hW4])
  | (
   go_at_call 14; refine HP4.out.mono ?_; rintro e w5 ⟨rfl,b5⟩
   have HD5:=qd (HD.out w5 (BW.out.trans b5)))
  | (
   go_at_call 10; refine HD5.out.mono ?_; rintro e w6 ⟨b6,rfl⟩
   obtain ⟨W7,hW7⟩:∃ X,(w6.alloc (.cells #[.string ⟨#[]⟩,.int .i64 0,.int .i64 0,.slice none 0 0,.slice none 0 0,.slice none 0 0] 27)).alloc (.cells #[.int .i64 0,.int .i64 0] 30)=X:=⟨_,rfl⟩;obtain ⟨b7,s7,h0,h1⟩:=two_boxes hW7;have H0:Hid (W7.heap[w6.heap.size]?=some (.cells #[.string ⟨#[]⟩,.int .i64 0,.int .i64 0,.slice none 0 0,.slice none 0 0,.slice none 0 0] 27 (0,0))):=qd h0;obtain ⟨W8,hW8⟩:∃ X,W7.setRow w6.heap.size #[.string ⟨#[]⟩,.int .i64 0,.int .i64 0,.slice none 0 0,.slice none 0 0,.slice none 0 0]=X:=⟨_,rfl⟩;have f8:Fr [w6.heap.size] W7 W8:=hW8▸qG _ _ _;have H1:Hid (W8.heap[w6.heap.size+1]?=some (.cells #[.int .i64 0,.int .i64 0] 30 (0,0))):=qd ((f8.block _ (qf h1) (by simp)).trans h1)
   obtain ⟨W9,hW9⟩:∃ X,W8.setRow (w6.heap.size+1) #[.int .i64 71,.int .i64 2]=X:=⟨_,rfl⟩;have f9:Fr [w6.heap.size+1] W8 W9:=hW9▸qG _ _ _;have n1:W9.heap[w6.heap.size+1]?=some (.cells #[.int .i64 71,.int .i64 2] 30 (0,0)):=hW9▸setRow_heap _ _ _ _ 30 (0,0) H1.out;have B9:Bl w6 W9:=((((Fr.ofBl b7 []).trans f8 (by simp)).trans f9 (by simp)).bl (by simp))
   have B49:=b5.trans (b6.trans B9);have y0:W9.cell? ⟨w6.heap.size+1,0,none⟩=some (.int .i64 71):=by (rw [qh n1]; rfl)
   have y1:W9.cell? ⟨w6.heap.size+1,1,none⟩=some (.int .i64 2):=by (rw [qh n1]; rfl)
   have y2:W9.cell? ⟨w1.heap.size+1,0,none⟩=some (.int .i64 0):=by (rw [qh ((B49.block _ (qf m1.out)).trans m1.out)]; rfl)
   have y3:W9.cell? ⟨w1.heap.size,5,none⟩=some (.slice p 2 c):=by (rw [qh ((B49.block _ (qf m0.out)).trans m0.out)]; rfl)
   have BZ:=qd (BW.out.trans B49);clear b7 s7 h0 h1 f8 f9 n1 B9 B49 b5 b6)
  | (refine wpList_store_row rfl 27 _ _ rfl w6.heap.size #[.string ⟨#[]⟩,.int .i64 0,.int .i64 0,.slice none 0 0,.slice none 0 0,.slice none 0 0] rfl rfl 27 _ H0.out (by kernel_rfl) rfl (by kernel_rfl) ?_; rw [hW8])
  | (refine wpList_store_row rfl 30 _ _ rfl (w6.heap.size+1) #[.int .i64 71,.int .i64 2] rfl rfl 30 _ H1.out (by kernel_rfl) rfl (by kernel_rfl) ?_; rw [hW9])
  | (go_at_call 15; go_in))
 go_ret
 exact ⟨rfl,BZ.out⟩
end Go.Proofs.YtfhkhmgodkheaaaGreatDoor
