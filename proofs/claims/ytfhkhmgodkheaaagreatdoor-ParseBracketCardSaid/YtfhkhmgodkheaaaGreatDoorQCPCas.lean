import Derived.Test.YtfhkhmgodkheaaaGreatDoorQCPUns
set_option linter.unusedSimpArgs false
set_option linter.unusedVariables false
set_option maxRecDepth 1000000
set_option maxHeartbeats 16000000
namespace Go.Proofs.YtfhkhmgodkheaaaGreatDoor
open Go.RowKit Go.Maps
def I4 (P g c:Nat) (ts:Ts) {α:Type}:Inv α:=fun W F acc s=>Pr W P g c ts s∧Okq ts s∧F=[P]
theorem I4.ok {P g c:Nat} {ts:Ts} {α:Type}:InvOk (α:=α) P [g] ts (I4 P g c ts (α:=α)) where
 ok:=fun ⟨p,o,e⟩=>⟨o,p.posW,by intro x hx; simp at hx; subst hx; exact p.glt (by have:=o.lt; omega),by subst e; intro b hb; simp at hb; subst hb; exact p.lt⟩
 keep:=fun {W W' F acc s S} ⟨p,o,e⟩ f h=>by
  subst e;exact ⟨p.other f (fun hm=>(h P hm).1 (by simp)) (fun hm=>(h g hm).2 (by simp)),o,rfl⟩
theorem skip4_ok {P g c:Nat} {ts:Ts} {α:Type} (k:Nat) (hk:k≠18) (W:World) (F:List Nat) (acc:List α) (s:Ps) (h:I4 P g c ts W F acc s):Calls Tryz.prog 85 #[.pointer (some ⟨P,0,none⟩),.int .i64 k] W fun e w'=>e=.returned (.bool (qN ts k s).1)∧I4 P g c ts w' F acc (qN ts k s).2∧Fr F W w':=by
 refine (skip_ok P g c ts s k W h.1 h.2.1.ok h.2.1.lt).mono ?_
 rintro e w' ⟨rfl,p,f⟩
 exact ⟨rfl,⟨p,h.2.1.skip hk,h.2.2⟩,by rw [h.2.2]; exact f⟩
theorem clo155_ok (W:World):Calls Tryz.prog 155 #[] W fun e w'=>e=.returned (.bool true)∧w'=W:=by
 go_enter Tryz.func155,Tryz.ntmps155
 go_wp2_with fail
 go_ret
 exact ⟨rfl,rfl⟩
theorem cascade_ok (ts:Ts) (f:Nat) (hS:CS3 ts f) (hMs:CN 156 ts (qM ts f)):CN 140 ts (zi ts (f+1)):=by
 intro P g c s w r h hok hr
 have S0:=qd (Sw.start h hok)
 unfold zi at hr
 cases e1:zm ts f 3 s with
 | none=>rw [e1] at hr; cases hr
 | some r1 =>
  rw [e1] at hr;have HS:=qd (fun V p=>hS 3 P g c s V r1 (by decide) p hok e1)
  cases r1 with
  | bad x =>
   injection hr with hr
   subst hr;clear h hok e1 hS hMs
   go_enter Tryz.func140,Tryz.ntmps140
   go_wp2_with (first
    | (go_at_call 153; refine (HS.out _ S0.out.pr).mono ?_; intro e w1 q1; obtain ⟨rfl,f1⟩:=posts_bad q1; have F1:=qd (qu S0.out.fr f1); clear q1 f1))
   exact ⟨rfl,zl F1.out⟩
  | ok y s1 =>
   obtain ⟨n,bb⟩:=y;have hq1:=((zS ts f).sends 3 s hok (n,bb) s1 e1).2;have hkl:=fun hb=>sends_len hok e1 hb
   have HK:=qd (fun V p=>je P g c ts s1 17 V p hq1.ok hq1.lt)
   have HA:=qd (fun V p=>zI P g c ts s1 V p hq1.lt (by have:=hq1.len; omega))
   have HT:=qd (fun V p=>zY P g c ts s1 V p hq1.ok hq1.lt)
   unfold tkv at HA HT;have hr2:(if qi ts 17 s1=false then some (.ok n s1) else if bb=false then some (.bad (hdT ts s1)) else qF (qY ts 17 (fun s=>(true,s)) (fun _=>qM ts f) f [] (qj ts s1)) fun l s2=>match n.kids with
    | []=>none
    | r :: ks=>some (.ok (.mk 10 [] 0 (hdT ts s1).2 [] [] (r :: .mk 11 n.text n.num n.place n.names n.places ks :: l)) s2))=some r:=hr
   cases hst:qi ts 17 s1 with
   | false =>
    rw [if_pos hst] at hr2;rw [hst] at HK;injection hr2 with hr2
    subst hr2;clear h hok e1 hS hMs hr hkl hq1 hst HA HT
    go_enter Tryz.func140,Tryz.ntmps140
    go_wp2_with (first
     | (
      go_at_call 153; refine (HS.out _ S0.out.pr).mono ?_; intro e w1 q1; obtain ⟨c0,c1,c2,c3,c4,c5,c6,ft,rfl,n1,a1,p1,f1⟩:=posts_ok q1
      have hsz:w.heap.size < w1.heap.size:=by have:=S0.out.size; have:=f1.size; omega
      have S1:=qd ((S0.out.go f1 p1).bl (Bl.alloc w1 (.cells #[.int .i64 0,.string ⟨#[]⟩,.int .i64 0,.int .i64 0,.slice none 0 0,.slice none 0 0,.slice none 0 0] 34)));have R1:=qd (heap_alloc_new w1 (.cells #[.int .i64 0,.string ⟨#[]⟩,.int .i64 0,.int .i64 0,.slice none 0 0,.slice none 0 0,.slice none 0 0] 34));obtain ⟨W2,hW2⟩:∃ W,(w1.alloc (.cells #[.int .i64 0,.string ⟨#[]⟩,.int .i64 0,.int .i64 0,.slice none 0 0,.slice none 0 0,.slice none 0 0] 34)).setRow w1.heap.size #[c0,c1,c2,c3,c4,c5,c6]=W:=⟨_,rfl⟩;have S2:Hid (Sw w W2 P g c ts s1):=qd (hW2▸S1.out.row w1.heap.size #[c0,c1,c2,c3,c4,c5,c6] hsz);have R2:Hid (W2.heap[w1.heap.size]?=some (.cells #[c0,c1,c2,c3,c4,c5,c6] 34 (0,0))):=qd (hW2▸setRow_heap _ _ _ _ 34 (0,0) R1.out);have N2:Hid (NdM W2 n (.agg #[c0,c1,c2,c3,c4,c5,c6]) ft):=qd (hW2▸(n1.fr (Fr.alloc [] w1 _) (by simp)).fr (qG _ _ _) (fun b hb=>by have:=n1.lt b hb; simp; omega))
      have A2:Hid (Apt (w.heap.size+1) ft):=qd (a1.mono S0.out.size);have L2:Hid (w.heap.size < w1.heap.size∧∀ b∈ft,b < w1.heap.size):=qd ⟨hsz,n1.lt⟩;clear q1 n1 a1 p1 f1)
     | (refine wpList_store_row rfl 34 _ _ rfl w1.heap.size #[c0,c1,c2,c3,c4,c5,c6] rfl rfl 34 _ R1.out (by kernel_rfl) rfl (qL N2.out) ?_; rw [hW2])
     | (
      go_at_call 83; refine (HK.out _ S2.out.pr).mono ?_; rintro e w3 ⟨rfl,b3⟩
      have S3:=qd (S2.out.bl b3);have R3:Hid (w3.heap[w1.heap.size]?=some (.cells #[c0,c1,c2,c3,c4,c5,c6] 34 (0,0))):=qd ((b3.block _ (qf R2.out)).trans R2.out);have N3:=qd (N2.out.fr (Fr.ofBl b3 []) (by simp))
      obtain ⟨x0,x1,x2,x3,x4,x5,x6⟩:=zp R3.out;clear b3)
     | (refine wpList_store_row rfl 34 _ _ rfl w.heap.size #[c0,c1,c2,c3,c4,c5,c6] rfl rfl 34 _ S3.out.res (by kernel_rfl) rfl (qL N3.out) ?_))
    exact S3.out.endN Tryz.results140 rfl N3.out A2.out
   | true =>
    rw [if_neg (by rw [hst]; simp)] at hr2
    rw [hst] at HK
    cases bb with
    | false =>
     rw [if_pos rfl] at hr2;injection hr2 with hr2
     subst hr2;clear h hok e1 hS hMs hr hkl hq1 hst HT;generalize hdT ts s1=x at *;obtain ⟨⟨tk,tt,tn⟩,tp⟩:=x;dsimp only at *
     go_enter Tryz.func140,Tryz.ntmps140
     go_wp2_with (first
      | (
       go_at_call 153; refine (HS.out _ S0.out.pr).mono ?_; intro e w1 q1; obtain ⟨c0,c1,c2,c3,c4,c5,c6,ft,rfl,n1,a1,p1,f1⟩:=posts_ok q1
       have hsz:w.heap.size < w1.heap.size:=by have:=S0.out.size; have:=f1.size; omega
       have S1:=qd ((S0.out.go f1 p1).bl (Bl.alloc w1 (.cells #[.int .i64 0,.string ⟨#[]⟩,.int .i64 0,.int .i64 0,.slice none 0 0,.slice none 0 0,.slice none 0 0] 34)));have R1:=qd (heap_alloc_new w1 (.cells #[.int .i64 0,.string ⟨#[]⟩,.int .i64 0,.int .i64 0,.slice none 0 0,.slice none 0 0,.slice none 0 0] 34));obtain ⟨W2,hW2⟩:∃ W,(w1.alloc (.cells #[.int .i64 0,.string ⟨#[]⟩,.int .i64 0,.int .i64 0,.slice none 0 0,.slice none 0 0,.slice none 0 0] 34)).setRow w1.heap.size #[c0,c1,c2,c3,c4,c5,c6]=W:=⟨_,rfl⟩;have S2:Hid (Sw w W2 P g c ts s1):=qd (hW2▸S1.out.row w1.heap.size #[c0,c1,c2,c3,c4,c5,c6] hsz);have R2:Hid (W2.heap[w1.heap.size]?=some (.cells #[c0,c1,c2,c3,c4,c5,c6] 34 (0,0))):=qd (hW2▸setRow_heap _ _ _ _ 34 (0,0) R1.out);have N2:Hid (NdM W2 n (.agg #[c0,c1,c2,c3,c4,c5,c6]) ft):=qd (hW2▸(n1.fr (Fr.alloc [] w1 _) (by simp)).fr (qG _ _ _) (fun b hb=>by have:=n1.lt b hb; simp; omega))
       have A2:Hid (Apt (w.heap.size+1) ft):=qd (a1.mono S0.out.size);have L2:Hid (w.heap.size < w1.heap.size∧∀ b∈ft,b < w1.heap.size):=qd ⟨hsz,n1.lt⟩;clear q1 n1 a1 p1 f1)
      | (refine wpList_store_row rfl 34 _ _ rfl w1.heap.size #[c0,c1,c2,c3,c4,c5,c6] rfl rfl 34 _ R1.out (by kernel_rfl) rfl (qL N2.out) ?_; rw [hW2])
      | (
       go_at_call 83; refine (HK.out _ S2.out.pr).mono ?_; rintro e w3 ⟨rfl,b3⟩
       have S3:=qd (S2.out.bl b3);have R3:Hid (w3.heap[w1.heap.size]?=some (.cells #[c0,c1,c2,c3,c4,c5,c6] 34 (0,0))):=qd ((b3.block _ (qf R2.out)).trans R2.out);have N3:=qd (N2.out.fr (Fr.ofBl b3 []) (by simp))
       obtain ⟨x0,x1,x2,x3,x4,x5,x6⟩:=zp R3.out;clear b3)
      | (go_at_call 54; refine (HA.out _ S3.out.pr).mono ?_; rintro e w4 ⟨rfl,b4⟩; have S4:=qd (S3.out.bl b4); clear b4))
     exact ⟨rfl,zl S4.out.fr⟩
    | true =>
     rw [if_neg (by simp)] at hr2
     obtain ⟨nk,nt,nnum,npl,nnms,npls,nkids⟩:=n;obtain ⟨kl1,kl2⟩:=hkl rfl
     cases nkids with
     | nil=>exact absurd rfl kl2
     | cons rr rks =>
     have HKl:Hid (rks.length≤100000):=qd (by
      have h9:(rr :: rks).length≤4098:=kl1;simp at h9; omega)
     have hq2:=hq1.take (by rw [qk hst]; decide)
     cases el:qY ts 17 (fun s=>(true,s)) (fun _=>qM ts f) f [] (qj ts s1) with
     | none=>rw [el] at hr2; cases hr2
     | some rl =>
      rw [el] at hr2;have HL:=qd (fun V (p:Pr V P g c ts (qj ts s1))=>listN_ok (fun n:Nd=>n) P [g] ts 17 (fun s=>(true,s)) (fun _=>qM ts f) (by decide) (fun s hs=>⟨Nat.le_refl _,hs⟩) (fun acc s hs _=>(zS ts f).msg s hs) (I4 P g c ts) I4.ok 155 156 #[] #[] #[.pointer (some ⟨P,0,none⟩)] #[] (ent 155 _ _ Tryz.func155 (by kernel_rfl) rfl) (ent 156 _ _ Tryz.func156 (by kernel_rfl) rfl)
       (fun W F acc s i=>by rw [show (#[]:Array Value)++#[]=#[] by simp]; exact (clo155_ok W).mono (fun e w' ⟨e1,e2⟩=>⟨e1,by rw [e2]; exact i,by rw [e2]; exact Fr.refl _ _⟩))
       (fun W F acc s r i _ _ _ e=>by
        rw [show #[.pointer (some ⟨P,0,none⟩)]++(#[]:Array Value)=#[.pointer (some ⟨P,0,none⟩)] by simp]
        refine (hMs P g c s W r i.1 i.2.1 e).mono (fun e' w' q=>?_)
        have hF:=i.2.2;subst hF;refine ⟨q.1,?_⟩;have q2:=q.2
        cases r with
        | bad x=>exact q2
        | ok a s' =>
         obtain ⟨v,ft,k1,k2,k3,k4⟩:=q2;exact ⟨v,ft,[P],k1,k2,k3,⟨k4,((zS ts f).msg s i.2.1 a s' e).2,rfl⟩,fun b hb=>Or.inl hb,fun b hb hm=>by simp at hm; have:=k3.lo b hb; have:=i.1.lt; omega⟩)
       (fun W F acc s i=>skip4_ok 17 (by decide) W F acc s i) f (qj ts s1) V [P] ⟨p,hq2,rfl⟩ rl el)
      have hll:=fun l s' (e:rl=.ok l s')=>zX (btw:=17) (by decide) (fun s hs=>⟨Nat.le_refl _,hs⟩) (fun acc s hs _=>(zS ts f).msg s hs) f [] (qj ts s1) l s' hq2 (Nat.zero_le _) (by rw [el,e])
      have hlq:=fun l s' (e:rl=.ok l s')=>((zh (btw:=17) (by decide) (fun s hs=>⟨Nat.le_refl _,hs⟩) (fun acc s hs _=>(zS ts f).msg s hs) f [] _ hq2).1 l s' (by rw [el,e])).2
      cases rl with
      | bad x =>
       injection hr2 with hr2
       subst hr2;clear h hok e1 hS hMs hr hkl hq1 hst HA hq2 el hll hlq kl1 kl2;generalize qj ts s1=st at *;generalize hdT ts s1=x at *;obtain ⟨⟨tk,tt,tn⟩,tp⟩:=x;dsimp only at *
       go_enter Tryz.func140,Tryz.ntmps140
       have hfd:=fun W=>js (.int .i64 tk) (.string (ba tt)) (.int .i64 tn) (.int .i64 tp) W
       go_wp2_with (first
        | (
         go_at_call 153; refine (HS.out _ S0.out.pr).mono ?_; intro e w1 q1; obtain ⟨c0,c1,c2,c3,c4,c5,c6,ft,rfl,n1,a1,p1,f1⟩:=posts_ok q1
         have hsz:w.heap.size < w1.heap.size:=by have:=S0.out.size; have:=f1.size; omega
         have S1:=qd ((S0.out.go f1 p1).bl (Bl.alloc w1 (.cells #[.int .i64 0,.string ⟨#[]⟩,.int .i64 0,.int .i64 0,.slice none 0 0,.slice none 0 0,.slice none 0 0] 34)));have R1:=qd (heap_alloc_new w1 (.cells #[.int .i64 0,.string ⟨#[]⟩,.int .i64 0,.int .i64 0,.slice none 0 0,.slice none 0 0,.slice none 0 0] 34));obtain ⟨W2,hW2⟩:∃ W,(w1.alloc (.cells #[.int .i64 0,.string ⟨#[]⟩,.int .i64 0,.int .i64 0,.slice none 0 0,.slice none 0 0,.slice none 0 0] 34)).setRow w1.heap.size #[c0,c1,c2,c3,c4,c5,c6]=W:=⟨_,rfl⟩;have S2:Hid (Sw w W2 P g c ts s1):=qd (hW2▸S1.out.row w1.heap.size #[c0,c1,c2,c3,c4,c5,c6] hsz);have R2:Hid (W2.heap[w1.heap.size]?=some (.cells #[c0,c1,c2,c3,c4,c5,c6] 34 (0,0))):=qd (hW2▸setRow_heap _ _ _ _ 34 (0,0) R1.out);have N2:Hid (NdM W2 (.mk nk nt nnum npl nnms npls (rr :: rks)) (.agg #[c0,c1,c2,c3,c4,c5,c6]) ft):=qd (hW2▸(n1.fr (Fr.alloc [] w1 _) (by simp)).fr (qG _ _ _) (fun b hb=>by have:=n1.lt b hb; simp; omega))
         have A2:Hid (Apt (w.heap.size+1) ft):=qd (a1.mono S0.out.size);have L2:Hid (w.heap.size < w1.heap.size∧∀ b∈ft,b < w1.heap.size):=qd ⟨hsz,n1.lt⟩;clear q1 n1 a1 p1 f1)
        | (refine wpList_store_row rfl 34 _ _ rfl w1.heap.size #[c0,c1,c2,c3,c4,c5,c6] rfl rfl 34 _ R1.out (by kernel_rfl) rfl (qL N2.out) ?_; rw [hW2])
        | (
         go_at_call 83; refine (HK.out _ S2.out.pr).mono ?_; rintro e w3 ⟨rfl,b3⟩
         have S3:=qd (S2.out.bl b3);have R3:Hid (w3.heap[w1.heap.size]?=some (.cells #[c0,c1,c2,c3,c4,c5,c6] 34 (0,0))):=qd ((b3.block _ (qf R2.out)).trans R2.out);have N3:=qd (N2.out.fr (Fr.ofBl b3 []) (by simp))
         obtain ⟨x0,x1,x2,x3,x4,x5,x6⟩:=zp R3.out;clear b3)
        | (
         go_at_call 80; refine (HT.out _ S3.out.pr).mono ?_; rintro e w4 ⟨rfl,p4,f4⟩
         have S4:=qd (S3.out.go f4 p4);have hne:w1.heap.size≠P:=(by have:=S3.out.lp; have:=L2.out.1; omega)
         have R4:Hid (w4.heap[w1.heap.size]?=some (.cells #[c0,c1,c2,c3,c4,c5,c6] 34 (0,0))):=qd ((f4.block _ (qf R3.out) (by simpa using hne)).trans R3.out)
         have N4:=qd (N3.out.fr f4 (fun b hb=>by have:=A2.out.lo b hb; have:=S3.out.lp; simp; omega))
         obtain ⟨y0,y1,y2,y3,y4,y5,y6⟩:=zp R4.out;have HU:=qd (unsend_ok nk nt nnum npl nnms npls rr rks (.agg #[c0,c1,c2,c3,c4,c5,c6]) ft w4 N4.out A2.out.nd HKl.out);clear p4 f4)
        | (
         go_at_call 154; refine HU.out.mono ?_; rintro e w5 ⟨b5,r0,r1,r2,r3,r4,r5,r6,m0,m1,m2,m3,m4,m5,m6,fr,fm,rfl,nr,nm,hnd,hold⟩
         have S5:=qd (S4.out.bl b5);have hsz5:w.heap.size < w5.heap.size:=S5.out.size;obtain ⟨V1,hV1⟩:∃ X,(w5.alloc (.cells #[.int .i64 0,.string ⟨#[]⟩,.int .i64 0,.int .i64 0,.slice none 0 0,.slice none 0 0,.slice none 0 0] 34)).alloc (.cells #[.int .i64 0,.string ⟨#[]⟩,.int .i64 0,.int .i64 0,.slice none 0 0,.slice none 0 0,.slice none 0 0] 34)=X:=⟨_,rfl⟩;have bV1:Bl w5 V1:=hV1▸(Bl.alloc _ _).trans (Bl.alloc _ _);have g1:Hid (V1.heap[w5.heap.size]?=some z7):=qd (by rw [← hV1,Below.heap_alloc _ _ _ (by simp)]; exact heap_alloc_new w5 _)
         have g2:Hid (V1.heap[w5.heap.size+1]?=some z7):=qd (by
          have:=heap_alloc_new (w5.alloc (.cells #[.int .i64 0,.string ⟨#[]⟩,.int .i64 0,.int .i64 0,.slice none 0 0,.slice none 0 0,.slice none 0 0] 34)) (.cells #[.int .i64 0,.string ⟨#[]⟩,.int .i64 0,.int .i64 0,.slice none 0 0,.slice none 0 0,.slice none 0 0] 34);rw [show (w5.alloc (.cells #[.int .i64 0,.string ⟨#[]⟩,.int .i64 0,.int .i64 0,.slice none 0 0,.slice none 0 0,.slice none 0 0] 34)).heap.size=w5.heap.size+1 by simp,hV1] at this
          exact this)
         have sV1:V1.heap.size=w5.heap.size+2:=by rw [← hV1]; simp
         obtain ⟨V2,hV2⟩:∃ X,V1.setRow w5.heap.size #[r0,r1,r2,r3,r4,r5,r6]=X:=⟨_,rfl⟩;have fV2:Fr [w5.heap.size] V1 V2:=hV2▸qG _ _ _;have h1':Hid (V2.heap[w5.heap.size]?=some (.cells #[r0,r1,r2,r3,r4,r5,r6] 34 (0,0))):=qd (hV2▸setRow_heap _ _ _ _ 34 (0,0) g1.out);have h2':Hid (V2.heap[w5.heap.size+1]?=some z7):=qd ((fV2.block _ (by omega) (by simp)).trans g2.out)
         obtain ⟨V3,hV3⟩:∃ X,V2.setRow (w5.heap.size+1) #[m0,m1,m2,m3,m4,m5,m6]=X:=⟨_,rfl⟩;have fV3:Fr [w5.heap.size+1] V2 V3:=hV3▸qG _ _ _;have i1:Hid (V3.heap[w5.heap.size]?=some (.cells #[r0,r1,r2,r3,r4,r5,r6] 34 (0,0))):=qd ((fV3.block _ (qf h1'.out) (by simp)).trans h1'.out)
         have i2:Hid (V3.heap[w5.heap.size+1]?=some (.cells #[m0,m1,m2,m3,m4,m5,m6] 34 (0,0))):=qd (hV3▸setRow_heap _ _ _ _ 34 (0,0) h2'.out);have fr3:Fr [] w5 V3:=((Fr.ofBl bV1 []).trans fV2 (by simp)).trans fV3 (by simp)
         have S6:Hid (Sw w V3 P g c ts st):=qd (S5.out.bl (fr3.bl (by simp)))
         have NR:=qd (nr.fr fr3 (by simp))
         have NM:=qd (nm.fr fr3 (by simp))
         have AO:Hid ((fr++fm).Nodup∧(∀ b∈fr++fm,w.heap.size+1≤b)∧(∀ b∈fr++fm,b < V3.heap.size)∧w5.heap.size+2≤V3.heap.size):=qd ⟨hnd,fun b hb=>(by rcases hold b hb with h | h; exact A2.out.lo b h; have:=S4.out.size; omega),fun b hb=>(by rcases List.mem_append.1 hb with h | h; have:=nr.lt b h; have:=fr3.size; omega; have:=nm.lt b h; have:=fr3.size; omega),by have:=qf i2.out; omega⟩
         have AM:=qd (qL nm);have AR:=qd (qL nr);clear b5 nr nm hnd hold bV1 fV2 fV3 fr3 sV1)
        | (refine wpList_store_row rfl 34 _ _ rfl w5.heap.size #[r0,r1,r2,r3,r4,r5,r6] rfl rfl 34 _ g1.out (by kernel_rfl) rfl AR.out ?_; rw [hV2])
        | (refine wpList_store_row rfl 34 _ _ rfl (w5.heap.size+1) #[m0,m1,m2,m3,m4,m5,m6] rfl rfl 34 _ h2'.out (by kernel_rfl) rfl AM.out ?_; rw [hV3])
        | (go_at_call 88; refine (HL.out _ S6.out.pr).mono ?_; rintro e w7 ⟨f7,rfl⟩; have F7:=qd (qu S6.out.fr f7); clear f7))
       exact ⟨rfl,zl F7.out⟩
      | ok l s2 =>
       injection hr2 with hr2
       subst hr2;have HLl:Hid (l.length≤4097):=qd (by have h1:=hll l s2 rfl; have h2:=(hlq l s2 rfl).lt; have h3:=(hlq l s2 rfl).len; omega)
       clear h hok e1 hS hMs hr hkl hq1 hst HA hq2 el hll hlq kl1 kl2;generalize qj ts s1=st at *;generalize hdT ts s1=x at *;obtain ⟨⟨tk,tt,tn⟩,tp⟩:=x;dsimp only at *
       go_enter Tryz.func140,Tryz.ntmps140
       have hfd:=fun W=>js (.int .i64 tk) (.string (ba tt)) (.int .i64 tn) (.int .i64 tp) W
       go_upto_region 9 with (first
        | (
         go_at_call 153; refine (HS.out _ S0.out.pr).mono ?_; intro e w1 q1; obtain ⟨c0,c1,c2,c3,c4,c5,c6,ft,rfl,n1,a1,p1,f1⟩:=posts_ok q1
         have hsz:w.heap.size < w1.heap.size:=by have:=S0.out.size; have:=f1.size; omega
         have S1:=qd ((S0.out.go f1 p1).bl (Bl.alloc w1 (.cells #[.int .i64 0,.string ⟨#[]⟩,.int .i64 0,.int .i64 0,.slice none 0 0,.slice none 0 0,.slice none 0 0] 34)));have R1:=qd (heap_alloc_new w1 (.cells #[.int .i64 0,.string ⟨#[]⟩,.int .i64 0,.int .i64 0,.slice none 0 0,.slice none 0 0,.slice none 0 0] 34));obtain ⟨W2,hW2⟩:∃ W,(w1.alloc (.cells #[.int .i64 0,.string ⟨#[]⟩,.int .i64 0,.int .i64 0,.slice none 0 0,.slice none 0 0,.slice none 0 0] 34)).setRow w1.heap.size #[c0,c1,c2,c3,c4,c5,c6]=W:=⟨_,rfl⟩;have S2:Hid (Sw w W2 P g c ts s1):=qd (hW2▸S1.out.row w1.heap.size #[c0,c1,c2,c3,c4,c5,c6] hsz);have R2:Hid (W2.heap[w1.heap.size]?=some (.cells #[c0,c1,c2,c3,c4,c5,c6] 34 (0,0))):=qd (hW2▸setRow_heap _ _ _ _ 34 (0,0) R1.out);have N2:Hid (NdM W2 (.mk nk nt nnum npl nnms npls (rr :: rks)) (.agg #[c0,c1,c2,c3,c4,c5,c6]) ft):=qd (hW2▸(n1.fr (Fr.alloc [] w1 _) (by simp)).fr (qG _ _ _) (fun b hb=>by have:=n1.lt b hb; simp; omega))
         have A2:Hid (Apt (w.heap.size+1) ft):=qd (a1.mono S0.out.size);have L2:Hid (w.heap.size < w1.heap.size∧∀ b∈ft,b < w1.heap.size):=qd ⟨hsz,n1.lt⟩;clear q1 n1 a1 p1 f1)
        | (refine wpList_store_row rfl 34 _ _ rfl w1.heap.size #[c0,c1,c2,c3,c4,c5,c6] rfl rfl 34 _ R1.out (by kernel_rfl) rfl (qL N2.out) ?_; rw [hW2])
        | (
         go_at_call 83; refine (HK.out _ S2.out.pr).mono ?_; rintro e w3 ⟨rfl,b3⟩
         have S3:=qd (S2.out.bl b3);have R3:Hid (w3.heap[w1.heap.size]?=some (.cells #[c0,c1,c2,c3,c4,c5,c6] 34 (0,0))):=qd ((b3.block _ (qf R2.out)).trans R2.out);have N3:=qd (N2.out.fr (Fr.ofBl b3 []) (by simp))
         obtain ⟨x0,x1,x2,x3,x4,x5,x6⟩:=zp R3.out;clear b3)
        | (
         go_at_call 80; refine (HT.out _ S3.out.pr).mono ?_; rintro e w4 ⟨rfl,p4,f4⟩
         have S4:=qd (S3.out.go f4 p4);have hne:w1.heap.size≠P:=(by have:=S3.out.lp; have:=L2.out.1; omega)
         have R4:Hid (w4.heap[w1.heap.size]?=some (.cells #[c0,c1,c2,c3,c4,c5,c6] 34 (0,0))):=qd ((f4.block _ (qf R3.out) (by simpa using hne)).trans R3.out)
         have N4:=qd (N3.out.fr f4 (fun b hb=>by have:=A2.out.lo b hb; have:=S3.out.lp; simp; omega))
         obtain ⟨y0,y1,y2,y3,y4,y5,y6⟩:=zp R4.out;have HU:=qd (unsend_ok nk nt nnum npl nnms npls rr rks (.agg #[c0,c1,c2,c3,c4,c5,c6]) ft w4 N4.out A2.out.nd HKl.out);clear p4 f4)
        | (
         go_at_call 154; refine HU.out.mono ?_; rintro e w5 ⟨b5,r0,r1,r2,r3,r4,r5,r6,m0,m1,m2,m3,m4,m5,m6,fr,fm,rfl,nr,nm,hnd,hold⟩
         have S5:=qd (S4.out.bl b5);have hsz5:w.heap.size < w5.heap.size:=S5.out.size;obtain ⟨V1,hV1⟩:∃ X,(w5.alloc (.cells #[.int .i64 0,.string ⟨#[]⟩,.int .i64 0,.int .i64 0,.slice none 0 0,.slice none 0 0,.slice none 0 0] 34)).alloc (.cells #[.int .i64 0,.string ⟨#[]⟩,.int .i64 0,.int .i64 0,.slice none 0 0,.slice none 0 0,.slice none 0 0] 34)=X:=⟨_,rfl⟩;have bV1:Bl w5 V1:=hV1▸(Bl.alloc _ _).trans (Bl.alloc _ _);have g1:Hid (V1.heap[w5.heap.size]?=some z7):=qd (by rw [← hV1,Below.heap_alloc _ _ _ (by simp)]; exact heap_alloc_new w5 _)
         have g2:Hid (V1.heap[w5.heap.size+1]?=some z7):=qd (by
          have:=heap_alloc_new (w5.alloc (.cells #[.int .i64 0,.string ⟨#[]⟩,.int .i64 0,.int .i64 0,.slice none 0 0,.slice none 0 0,.slice none 0 0] 34)) (.cells #[.int .i64 0,.string ⟨#[]⟩,.int .i64 0,.int .i64 0,.slice none 0 0,.slice none 0 0,.slice none 0 0] 34);rw [show (w5.alloc (.cells #[.int .i64 0,.string ⟨#[]⟩,.int .i64 0,.int .i64 0,.slice none 0 0,.slice none 0 0,.slice none 0 0] 34)).heap.size=w5.heap.size+1 by simp,hV1] at this
          exact this)
         have sV1:V1.heap.size=w5.heap.size+2:=by rw [← hV1]; simp
         obtain ⟨V2,hV2⟩:∃ X,V1.setRow w5.heap.size #[r0,r1,r2,r3,r4,r5,r6]=X:=⟨_,rfl⟩;have fV2:Fr [w5.heap.size] V1 V2:=hV2▸qG _ _ _;have h1':Hid (V2.heap[w5.heap.size]?=some (.cells #[r0,r1,r2,r3,r4,r5,r6] 34 (0,0))):=qd (hV2▸setRow_heap _ _ _ _ 34 (0,0) g1.out);have h2':Hid (V2.heap[w5.heap.size+1]?=some z7):=qd ((fV2.block _ (by omega) (by simp)).trans g2.out)
         obtain ⟨V3,hV3⟩:∃ X,V2.setRow (w5.heap.size+1) #[m0,m1,m2,m3,m4,m5,m6]=X:=⟨_,rfl⟩;have fV3:Fr [w5.heap.size+1] V2 V3:=hV3▸qG _ _ _;have i1:Hid (V3.heap[w5.heap.size]?=some (.cells #[r0,r1,r2,r3,r4,r5,r6] 34 (0,0))):=qd ((fV3.block _ (qf h1'.out) (by simp)).trans h1'.out)
         have i2:Hid (V3.heap[w5.heap.size+1]?=some (.cells #[m0,m1,m2,m3,m4,m5,m6] 34 (0,0))):=qd (hV3▸setRow_heap _ _ _ _ 34 (0,0) h2'.out);have fr3:Fr [] w5 V3:=((Fr.ofBl bV1 []).trans fV2 (by simp)).trans fV3 (by simp)
         have S6:Hid (Sw w V3 P g c ts st):=qd (S5.out.bl (fr3.bl (by simp)))
         have NR:=qd (nr.fr fr3 (by simp))
         have NM:=qd (nm.fr fr3 (by simp))
         have AO:Hid ((fr++fm).Nodup∧(∀ b∈fr++fm,w.heap.size+1≤b)∧(∀ b∈fr++fm,b < V3.heap.size)∧w5.heap.size+2≤V3.heap.size):=qd ⟨hnd,fun b hb=>(by rcases hold b hb with h | h; exact A2.out.lo b h; have:=S4.out.size; omega),fun b hb=>(by rcases List.mem_append.1 hb with h | h; have:=nr.lt b h; have:=fr3.size; omega; have:=nm.lt b h; have:=fr3.size; omega),by have:=qf i2.out; omega⟩
         have AM:=qd (qL nm);have AR:=qd (qL nr);clear b5 nr nm hnd hold bV1 fV2 fV3 fr3 sV1)
        | (refine wpList_store_row rfl 34 _ _ rfl w5.heap.size #[r0,r1,r2,r3,r4,r5,r6] rfl rfl 34 _ g1.out (by kernel_rfl) rfl AR.out ?_; rw [hV2])
        | (refine wpList_store_row rfl 34 _ _ rfl (w5.heap.size+1) #[m0,m1,m2,m3,m4,m5,m6] rfl rfl 34 _ h2'.out (by kernel_rfl) rfl AM.out ?_; rw [hV3])
        | (go_at_call 88; refine (HL.out _ S6.out.pr).mono ?_; rintro e w7 ⟨f7,v,F',rfl,l7⟩))
       have S7:=qd (S6.out.go f7 l7.inv.1);obtain ⟨xs,fl,z7',n7,a7,d7⟩:=l7.ex;rw [List.map_id'] at n7;obtain ⟨pv,cv,rfl⟩:=qz z7'.1;have lpz:=S6.out.lp;have ao:=AO.out;have hP5:P < w5.heap.size:=(by omega)
       have k1:w7.heap[w5.heap.size]?=some (.cells #[r0,r1,r2,r3,r4,r5,r6] 34 (0,0)):=(f7.block _ (qf i1.out) (by simp; omega)).trans i1.out
       have k2:w7.heap[w5.heap.size+1]?=some (.cells #[m0,m1,m2,m3,m4,m5,m6] 34 (0,0)):=(f7.block _ (qf i2.out) (by simp; omega)).trans i2.out
       have NR7:=NR.out.fr f7 (fun b hb=>by have:=ao.2.1 b (by simp [hb]); simp; omega)
       have NM7:=NM.out.fr f7 (fun b hb=>by have:=ao.2.1 b (by simp [hb]); simp; omega)
       obtain ⟨W8,hW8⟩:∃ X,w7.alloc (.cells #[r0,r1,r2,r3,r4,r5,r6,m0,m1,m2,m3,m4,m5,m6] 34)=X:=⟨_,rfl⟩;have b8:Bl w7 W8:=hW8▸Bl.alloc _ _;have g8:W8.heap[w7.heap.size]?=some (.cells #[r0,r1,r2,r3,r4,r5,r6,m0,m1,m2,m3,m4,m5,m6] 34 (0,0)):=hW8▸heap_alloc_new w7 _;have o8:W8.ownsRow w7.heap.size 34 7 (.slice (some ⟨w7.heap.size,0,none⟩) 2 2) 2 [r0,r1,r2,r3,r4,r5,r6,m0,m1,m2,m3,m4,m5,m6]:=⟨rfl,Or.inr ⟨_,2,_,rfl,Nat.le_refl _,g8,Nat.le_refl _,by decide,rfl,rfl⟩⟩
       have src8:SrcN W8 (.slice pv l.length cv) l.length xs:=((z7'.row).fr (Fr.ofBl b8 []) (by simp)).src
       obtain ⟨vz,W9,hr9,o9,f9⟩:=appN W8 w7.heap.size (some ⟨w7.heap.size,0,none⟩) 2 2 l.length _ xs _ o8 src8 n7.oneCells (by have:=HLl.out; omega) b8.size
       obtain ⟨pz,cz,rfl⟩:=qz o9;obtain ⟨gz,hgz,rz⟩:=RowM.own o9 (by omega)
       have hgz2:=qB o9 gz hgz;have fr9:Fr [] w7 W9:=(Fr.ofBl b8 []).trans f9 (by simp [blk])
       have S9:=qd (S7.out.bl (fr9.bl (by simp)))
       have hflt:∀ b∈fl,b < w7.heap.size:=n7.lt;have hfl:∀ b∈fl,V3.heap.size≤b:=fun b hb=>a7.lo b (by simp [hb])
       have N9:Hid (NdM W9 (.mk 10 [] 0 tp [] [] (rr :: .mk 11 nt nnum npl nnms npls rks :: l)) (.agg #[.int .i64 10,.string ⟨#[]⟩,.int .i64 0,.int .i64 tp,.slice none 0 0,.slice none 0 0,.slice pz (2+l.length) cz]) (gz :: (fr++(fm++fl)))):=qd (by
        have hk:=NdsM.cons (NR7.fr fr9 (by simp)) (NdsM.cons (NM7.fr fr9 (by simp)) (n7.fr fr9 (by simp)))
        have:=NdM.mk (k:=10) (t:=[]) (n:=0) (a:=tp) (nms:=[]) (pls:=[]) (RowM.nil W9 9 1) (RowM.nil W9 3 1) (show RowM W9 34 7 (.slice pz (2+l.length) cz) (rr :: .mk 11 nt nnum npl nnms npls rks :: l).length _ [gz] by rw [show (rr :: Nd.mk 11 nt nnum npl nnms npls rks :: l).length=2+l.length by simp; omega]; exact rz) hk
        simpa [ba_nil] using this)
       have A9:Hid (Apt (w.heap.size+1) (gz :: (fr++(fm++fl)))):=qd (by
        have h0:Apt (w.heap.size+1) ((fr++fm)++fl):=Apt.app ⟨ao.1,ao.2.1⟩ ⟨(List.nodup_append.1 a7.nd).2.1,hfl⟩ ao.2.2.1 (by have:=hsz5; omega)
        rw [List.append_assoc] at h0;refine h0.cons (by have:=S6.out.size; have:=f7.size; omega) (fun hm=>?_)
        have h1:=f7.size;rw [← List.append_assoc,List.mem_append] at hm
        rcases hm with hm | hm
        ·have:=ao.2.2.1 gz hm; omega
        ·have:=hflt gz hm; omega)
       have HR9:=qd hr9;obtain ⟨p0,p1,p2,p3,p4,p5,p6⟩:=zp k1;obtain ⟨t0,t1,t2,t3,t4,t5,t6⟩:=zp k2;clear f7 l7 z7' n7 a7 d7 k1 k2 NR7 NM7 b8 g8 o8 src8 hr9 o9 f9 rz hgz hgz2 fr9 hflt hfl lpz ao hP5
       go_wp2_with (first
        | (at_builtin; refine Lib.wpList_append_run _ rfl (.tmp 39) (.tmp 40) 25 25 rfl _ _ rfl rfl _ _ HR9.out ?_)
        | (refine wpList_store_row rfl 34 _ _ rfl w.heap.size #[.int .i64 10,.string ⟨#[]⟩,.int .i64 0,.int .i64 tp,.slice none 0 0,.slice none 0 0,.slice pz (2+l.length) cz] rfl rfl 34 _ S9.out.res (by kernel_rfl) rfl (qL N9.out) ?_))
       exact S9.out.endN Tryz.results140 rfl N9.out A9.out
end Go.Proofs.YtfhkhmgodkheaaaGreatDoor
