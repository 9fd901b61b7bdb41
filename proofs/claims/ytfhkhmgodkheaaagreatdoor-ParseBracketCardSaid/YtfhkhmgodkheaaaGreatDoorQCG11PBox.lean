import Derived.Test.YtfhkhmgodkheaaaGreatDoorQCG10PReg
import Derived.Test.YtfhkhmgodkheaaaGreatDoorQCG09PFuel
set_option linter.unusedSimpArgs false
set_option linter.unusedVariables false
set_option maxRecDepth 1000000
set_option maxHeartbeats 16000000
namespace Go.Proofs.YtfhkhmgodkheaaaGreatDoor
open Go.RowKit Go.Maps
theorem tcs_snoc (ts:Ts) (x:Tok × Nat):tcs (ts++[x])=tcs ts++tc x:=by simp [tcs]
structure LT {α:Type} (vl:α→Tok × Nat) (I:Inv α) (w:World) (F:List Nat) (wr:World) (q:Value) (acc:List α) (s:Ps) (F':List Nat):Prop where
 ex:RowZ wr 54 4 w.heap.size q acc.length (tcs (acc.map vl))∧∀ b∈q.ownBlock.toList,b ∉ F'
 inv:I wr F' acc s
 fr:Fr F w wr
 new:∀ b∈F',b∈F∨w.heap.size≤b
 len:acc.length≤s.pos
theorem LT.go {α:Type} {vl:α→Tok × Nat} {I:Inv α} {w:World} {F:List Nat} {wr wn:World} {q:Value} {acc:List α} {s s1:Ps} {F':List Nat} (h:LT vl I w F wr q acc s F') (i:I wn F' acc s1) (f:Fr F' wr wn) (hs:s.pos≤s1.pos):LT vl I w F wn q acc s1 F':=by
 obtain ⟨h1,h4⟩:=h.ex
 refine ⟨⟨⟨qC h1.1 (fun g hg=>f.block g (qB h1.1 g hg).2 (h4 g (by simp [hg]))),h1.2⟩,h4⟩,i,h.fr.trans f h.new,h.new,Nat.le_trans h.len hs⟩
theorem LT.more {α:Type} {P:Nat} {G:List Nat} {ts:Ts} {vl:α→Tok × Nat} {I:Inv α} (ho:InvOk P G ts I) {w:World} {F:List Nat} {wr w2:World} {p:Option Addr} {c:Nat} {acc:List α} {s s2:Ps} {F' F2:List Nat} (hgw:∀ b∈G,b < w.heap.size) (h:LT vl I w F wr (.slice p acc.length c) acc s F')
  {a:α} (f:Fr F' wr w2) (hi:I w2 F2 (acc++[a]) s2) (hn:∀ b∈F2,b∈F'∨wr.heap.size≤b) (hs:acc.length < s2.pos) (hl:acc.length≤1000000) :
  ∃ p' c' w',(Builtin.append_ #[50,50] 50 #[.slice p acc.length c,.slice (some ⟨w2.heap.size,0,none⟩) 1 1]).run Tryz.prog (w2.alloc (.cells #[.int .i64 (vl a).1.kind,.string (ba (vl a).1.text),.int .i64 (vl a).1.num,.int .i64 (vl a).2] 54))=.ok (.slice p' (acc.length+1) c') w'∧LT vl I w F w' (.slice p' (acc.length+1) c') (acc++[a]) s2 F2:=by
 obtain ⟨h1,h4⟩:=h.ex
 rw [blk_ob] at h4
 have o2:w2.ownsRow w.heap.size 54 4 (.slice p acc.length c) acc.length (tcs (acc.map vl)):=qC h1.1 (fun k hk=>f.block k (qB h1.1 k hk).2 (h4 k ((jj p _ _ k).2 hk)))
 have hsz:=f.size
 have hsw:=h.fr.size
 obtain ⟨p',c',w',hr,o3,hw⟩:=pushT w2 w.heap.size p c acc.length _ (tc (vl a)) rfl o2 (fun u hu=>by
  simp only [tc,List.mem_cons,List.not_mem_nil,or_false] at hu
  rcases hu with rfl | rfl | rfl | rfl <;> rfl) hl (by omega)
 have hbl:∀ b∈blk p,w.heap.size≤b∧b < wr.heap.size:=fun b hb=>qB h1.1 b ((jj p _ _ b).1 hb)
 have hF2:=(ho.ok hi).2.2.2
 have f2:Fr (blk p) w2 w':=by
  rcases hw with ⟨_,_,hw⟩ | ⟨hw,_⟩
  ·exact hw
  ·exact hw.mono (by simp)
 have hbp:∀ b∈blk p',w.heap.size≤b∧(b∈blk p∨w2.heap.size≤b):=fun b hb=>by
  rcases hw with ⟨rfl,_,_⟩ | ⟨_,hq⟩
  ·exact ⟨(hbl b hb).1,Or.inl hb⟩
  ·exact ⟨by have:=hq b hb; omega,Or.inr (hq b hb)⟩
 have hnp:∀ b∈blk p,b ∉ F2:=fun b hb hm=>by
  rcases hn b hm with hm | hm
  ·exact h4 b hb hm
  ·have:=(hbl b hb).2; omega
 refine ⟨p',c',w',hr,⟨⟨?_,fun h0=>?_⟩,?_⟩,ho.keep hi f2 (fun b hb=>⟨hnp b hb,fun hm=>by have:=hgw b hm; have:=(hbl b hb).1; omega⟩),?_,?_,?_⟩
 ·rw [List.length_append,List.length_singleton,List.map_append,List.map_singleton,tcs_snoc]; exact o3
 ·simp at h0
 ·rw [blk_ob]
  intro b hb hm
  rcases (hbp b hb).2 with hq | hq
  ·exact hnp b hq hm
  ·have:=hF2 b hm; omega
 ·exact (h.fr.trans f h.new).trans f2 (fun b hb=>Or.inr (hbl b hb).1)
 ·intro b hb
  rcases hn b hb with hb | hb
  ·exact h.new b hb
  ·exact Or.inr (by omega)
 ·rw [List.length_append,List.length_singleton]
  omega
theorem LT.start {α:Type} {vl:α→Tok × Nat} {I:Inv α} {w:World} {F:List Nat} {s:Ps} (h:I w F [] s):LT vl I w F w (.slice none 0 0) [] s F :=
 ⟨⟨⟨World.ownsRow_nil _ _ _ _,fun _=>rfl⟩,by simp [Value.ownBlock]⟩,h,Fr.refl _ _,fun b hb=>Or.inl hb,Nat.zero_le _⟩
theorem LT.slice {α:Type} {vl:α→Tok × Nat} {I:Inv α} {w:World} {F:List Nat} {wr:World} {q:Value} {acc:List α} {s:Ps} {F':List Nat} (h:LT vl I w F wr q acc s F'):∃ p c,q=.slice p acc.length c:=qz h.ex.1.1
def PostLT {α:Type} (vl:α→Tok × Nat) (I:Inv α) (w:World) (F:List Nat) (r:Rs (List α)) (e:Ending) (w':World):Prop:=Fr F w w'∧match r with
 | .ok l s'=>∃ v F',e=.returned v∧LT vl I w F w' v l s' F'
 | .bad x=>e=(.panicked [{ v:=jl x,recovered:=false }])
def PostOT {α:Type} (vl:α→Tok × Nat) (I:Inv α) (acc:List α) (w:World) (F:List Nat) (r:Rs α) (e:Ending) (w':World):Prop:=Fr F w w'∧match r with
 | .ok a s'=>∃ F',e=.returned (tkv (vl a))∧I w' F' (acc++[a]) s'∧∀ b∈F',b∈F∨w.heap.size≤b
 | .bad x=>e=(.panicked [{ v:=jl x,recovered:=false }])
theorem listT_ok {α:Type} (vl:α→Tok × Nat) (P:Nat) (G:List Nat) (ts:Ts) (btw:Nat) (there:Ps→Bool × Ps) (one:List α→Ps→Option (Rs α)) (hb:btw≠18) (ht:∀ s,Okq ts s→s.pos≤(there s).2.pos∧Okq ts (there s).2)
  (hg:∀ acc s,Okq ts s→(there s).1=true→Pg ts s (one acc (there s).2)) (I:Inv α) (ho:InvOk P G ts I) (tf fo:Nat) (tp tc op oc:Array Value) (et:Enters Tryz.prog tf) (eo:Enters Tryz.prog fo)
  (ct:∀ W F acc s,I W F acc s→Calls Tryz.prog tf (tp++tc) W fun e w'=>e=.returned (.bool (there s).1)∧I w' F acc (there s).2∧Fr F W w')
  (co:∀ W F acc s r,I W F acc (there s).2→Okq ts s→(there s).1=true→acc.length≤4097→one acc (there s).2=some r→Calls Tryz.prog fo (op++oc) W (PostOT vl I acc W F r))
  (cs:∀ W F acc s,I W F acc s→Calls Tryz.prog 85 #[.pointer (some ⟨P,0,none⟩),.int .i64 btw] W fun e w'=>e=.returned (.bool (qN ts btw s).1)∧I w' F acc (qN ts btw s).2∧Fr F W w')
  (f0:Nat) (s0:Ps) (w:World) (F:List Nat) (hI:I w F [] s0) (r:Rs (List α)) (hr:qY ts btw there one f0 [] s0=some r) :
  Calls Tryz.prog 86 #[.pointer (some ⟨P,0,none⟩),.int .i64 btw,.func (.func tf) tp tc,.func (.func fo) op oc] w (PostLT vl I w F r):=by
 have HT:=qd ct
 have HO:=qd co
 have HS:=qd cs
 have HL0:Hid (LT vl I w F w (.slice none 0 0) [] s0 F):=LT.start hI
 have HR0:=qd hr
 have hgw:=(ho.ok hI).2.2.1
 have HG:=qd hg
 have HTh:=qd ht
 have HOk:=qd ho
 unfold Enters at et eo
 unfold PostOT tkv at HO
 clear ct co cs hI hr hg ht ho
 go_enter Tryz.func86,Tryz.ntmps86
 go_wp2_with fail
 go_loopw [9] (fun q wr=>∃ (f:Nat) (acc:List α) (s:Ps) (F':List Nat),Hid (qY ts btw there one f acc s=some r)∧Hid (LT vl I w F wr q acc s F')) (fun _ wr=>ts.length - posW wr P)
 case atStart=>exact ⟨f0,[],s0,F,HR0,HL0⟩
 case round =>
  obtain ⟨f,acc,s,F',hr,hl⟩:=hrel;clear HR0 HL0;obtain ⟨k1,k2,k3,k4⟩:=HOk.out.ok hl.out.inv;obtain ⟨h1,h2⟩:=HTh.out s k1;obtain ⟨p,c,rfl⟩:=hl.out.slice;have hacc:acc.length≤4097:=by have:=hl.out.len; have:=k1.lt; have:=k1.len; omega
  cases f with
  | zero=>exact absurd hr.out (by unfold qY; simp)
  | succ f =>
  have hr1:=hr.out;unfold qY at hr1;rw [show there s=((there s).1,(there s).2) from rfl] at hr1
  have HC:=qd (HT.out wr F' acc s hl.out.inv)
  cases hth:(there s).1 with
  | false =>
   rw [hth] at hr1 HC;injection hr1 with hr1
   subst hr1;have HX:=qd h1;clear h1 h2 k1 k2 k3 k4 hr hth HT HO HS HG HTh HOk
   go_wp2_with (go_at_fn tf; refine HC.out.mono ?_; rintro e w1 ⟨rfl,i1,f1⟩; have H1:=qd (hl.out.go i1 f1 HX.out); clear i1 f1)
   go_ret
   exact ⟨H1.out.fr,_,_,rfl,H1.out⟩
  | true =>
   rw [hth] at hr1 HC;dsimp only at hr1;have hpg:=HG.out acc s k1 hth
   cases eo1:one acc (there s).2 with
   | none=>rw [eo1] at hr1; cases hr1
   | some r1 =>
    rw [eo1] at hr1;have HX:=qd h1;have HO1:=qd (fun W i=>HO.out W F' acc s r1 i k1 hth hacc eo1)
    cases r1 with
    | bad x =>
     injection hr1 with hr1
     subst hr1;clear h1 h2 k1 k2 k3 k4 hr hth HT HO HS HG HTh HOk hpg eo1
     go_wp2_with (first
      | (go_at_fn tf; refine HC.out.mono ?_; rintro e w1 ⟨rfl,i1,f1⟩; have H1:=qd (hl.out.go i1 f1 HX.out); clear i1 f1)
      | (go_at_fn fo; refine (HO1.out _ H1.out.inv).mono ?_; rintro e w2 ⟨f2,rfl⟩; have H2:=qd (H1.out.fr.trans f2 H1.out.new); clear f2))
     exact ⟨rfl,H2.out,rfl⟩
    | ok a s2 =>
     obtain ⟨p1,p2⟩:=hpg a s2 eo1;dsimp only at hr1;have HP1:=qd p1;have HLn:Hid (acc.length < s2.pos):=qd (Nat.lt_of_le_of_lt hl.out.len p1);have HP2:=qd p2
     by_cases hz:btw=0
     ·rw [if_pos hz] at hr1
      have HR1:=qd hr1;have b0:((btw:Int) != 0)=false:=by rw [hz]; rfl
      have HZ:=qd hz;have HM:=qd k2;have HK:=qd k1;clear h1 h2 k1 k2 k3 k4 hr hth HT HO HS HG HTh hpg eo1 p1 p2 hz hr1
      go_wp2_with (first
       | (go_at_fn tf; refine HC.out.mono ?_; rintro e w1 ⟨rfl,i1,f1⟩; have H1:=qd (hl.out.go i1 f1 HX.out); clear i1 f1)
       | (
        go_at_fn fo; refine (HO1.out _ H1.out.inv).mono ?_; rintro e w2 ⟨f2,F2,rfl,i2,q2⟩
        have hx:=LT.more HOk.out hgw H1.out f2 i2 q2 HLn.out (by omega)
        obtain ⟨p',c',w3,r3,l3⟩:=hx;have R3:=qd r3;have L3:=qd l3;clear f2 i2 q2 r3 l3)
       | (at_builtin; refine Lib.wpList_append_run _ rfl (.tmp 12) (.tmp 15) 50 50 rfl _ _ rfl rfl _ _ R3.out ?_))
      go_roundw
      case rel=>exact ⟨f,acc++[a],s2,F2,HR1,L3⟩
      case measure =>
       have m1:=(HOk.out.ok L3.out.inv).2.1;have:=HM.out;have:=HP1.out;have:=HP2.out.lt;omega
     ·rw [if_neg hz] at hr1
      have b0:((btw:Int) != 0)=true:=bne_iff_ne.2 (by omega)
      have HM:=qd k2;have HK:=qd k1;have hs3:=zD ts btw s2;have hs4:=p2.skip (k:=btw) hb;have HS4:=qd hs3;have HS1:=qd (fun W F2 i=>HS.out W F2 (acc++[a]) s2 i)
      cases es:qN ts btw s2 with
      | mk bb s3 =>
      rw [es] at hr1 HS1 HS4 hs4
      cases bb with
      | false =>
       dsimp only at hr1;injection hr1 with hr1
       subst hr1;clear h1 h2 k1 k2 k3 k4 hr hth HT HO HS HG HTh hpg eo1 p1 p2 hz es hs3 hs4
       go_wp2_with (first
        | (go_at_fn tf; refine HC.out.mono ?_; rintro e w1 ⟨rfl,i1,f1⟩; have H1:=qd (hl.out.go i1 f1 HX.out); clear i1 f1)
        | (
         go_at_fn fo; refine (HO1.out _ H1.out.inv).mono ?_; rintro e w2 ⟨f2,F2,rfl,i2,q2⟩
         have hx:=LT.more HOk.out hgw H1.out f2 i2 q2 HLn.out (by omega)
         obtain ⟨p',c',w3,r3,l3⟩:=hx;have R3:=qd r3;have L3:=qd l3;clear f2 i2 q2 r3 l3)
        | (at_builtin; refine Lib.wpList_append_run _ rfl (.tmp 12) (.tmp 15) 50 50 rfl _ _ rfl rfl _ _ R3.out ?_)
        | (go_at_call 85; refine (HS1.out _ _ L3.out.inv).mono ?_; rintro e w4 ⟨rfl,i4,f4⟩; have L4:=qd (L3.out.go i4 f4 HS4.out); clear i4 f4))
       go_ret
       exact ⟨L4.out.fr,_,_,rfl,L4.out⟩
      | true =>
       dsimp only at hr1;have HR1:=qd hr1;have HS5:=qd hs4;clear h1 h2 k1 k2 k3 k4 hr hth HT HO HS HG HTh hpg eo1 p1 p2 hz es hs3 hs4 hr1
       go_wp2_with (first
        | (go_at_fn tf; refine HC.out.mono ?_; rintro e w1 ⟨rfl,i1,f1⟩; have H1:=qd (hl.out.go i1 f1 HX.out); clear i1 f1)
        | (
         go_at_fn fo; refine (HO1.out _ H1.out.inv).mono ?_; rintro e w2 ⟨f2,F2,rfl,i2,q2⟩
         have hx:=LT.more HOk.out hgw H1.out f2 i2 q2 HLn.out (by omega)
         obtain ⟨p',c',w3,r3,l3⟩:=hx;have R3:=qd r3;have L3:=qd l3;clear f2 i2 q2 r3 l3)
        | (at_builtin; refine Lib.wpList_append_run _ rfl (.tmp 12) (.tmp 15) 50 50 rfl _ _ rfl rfl _ _ R3.out ?_)
        | (go_at_call 85; refine (HS1.out _ _ L3.out.inv).mono ?_; rintro e w4 ⟨rfl,i4,f4⟩; have L4:=qd (L3.out.go i4 f4 HS4.out); clear i4 f4))
       go_roundw
       case rel=>exact ⟨f,acc++[a],s3,F2,HR1,L4⟩
       case measure =>
        have m1:=(HOk.out.ok L4.out.inv).2.1;have:=HM.out;have:=HP1.out;have:=HS5.out.lt;have h9:=HS4.out;omega
end Go.Proofs.YtfhkhmgodkheaaaGreatDoor
namespace Go.Proofs.YtfhkhmgodkheaaaGreatDoor
def zZ (ts:Ts) (s:Ps):Nat:=ts.length - s.pos
theorem remT_lt {ts:Ts} {s s':Ps} (h:Okq ts s) (hp:s.pos < s'.pos):zZ ts s'+1≤zZ ts s:=by have:=h.lt; unfold zZ; omega
theorem remT_le {ts:Ts} {s s':Ps} (hp:s.pos≤s'.pos):zZ ts s'≤zZ ts s:=by unfold zZ; omega
theorem remT_pos {ts:Ts} {s:Ps} (h:Okq ts s):1≤zZ ts s:=by have:=h.lt; unfold zZ; omega
theorem jw {ts:Ts} {s:Ps} (h:Okq ts s):zZ ts (qj ts s)+1≤zZ ts s:=remT_lt h (by rw [zC]; omega)
def Df {α:Type} (r:Option (Rs α)):Prop:=∃ x,r=some x
theorem Df.bind {α β:Type} {r:Option (Rs α)} {k:α→Ps→Option (Rs β)} (h:Df r) (hk:∀ a s1,r=some (.ok a s1)→Df (k a s1)):Df (qF r k):=by
 obtain ⟨x,e⟩:=h
 cases x with
 | bad x=>rw [e]; exact ⟨_,rfl⟩
 | ok a s1=>have:=hk a s1 e; rw [e]; exact this
theorem Df.mk {α:Type} {x:Rs α}:Df (some x):=⟨x,rfl⟩
theorem Df.need {α:Type} {ts:Ts} {s:Ps} {k:Nat} {f:Ps→Option (Rs α)} {b:Tok × Nat→Rs α} (h:∀ s2,Df (f s2)):Df (match qS ts k s with | .bad x=>some (b x) | .ok _ s2=>f s2:Option (Rs α)):=by
 unfold qS
 by_cases e:qi ts k s=true
 ·rw [if_pos e]; exact h _
 ·rw [if_neg e]; exact Df.mk
theorem listA_df {α:Type} {ts:Ts} {btw:Nat} {there:Ps→Bool × Ps} {one:List α→Ps→Option (Rs α)} {R:Nat} (hb:btw≠18) (ht:∀ s,Okq ts s→s.pos≤(there s).2.pos∧Okq ts (there s).2)
  (ho:∀ acc s,Okq ts s→(there s).1=true→Pg ts s (one acc (there s).2)) (hd:∀ acc s,Okq ts s→(there s).1=true→zZ ts s≤R→Df (one acc (there s).2)):∀ (f:Nat) (acc:List α) (s:Ps),Okq ts s→zZ ts s≤R→zZ ts s+1≤f→Df (qY ts btw there one f acc s):=by
 intro f
 induction f with
 | zero=>intro acc s h hR hf; omega
 | succ f ih =>
  intro acc s h hR hf;obtain ⟨h1,h2⟩:=ht s h;unfold qY;rw [show there s=((there s).1,(there s).2) from rfl]
  cases hth:(there s).1 with
  | false=>exact Df.mk
  | true =>
   dsimp only;obtain ⟨r,er⟩:=hd acc s h hth hR;rw [er]
   cases r with
   | bad x=>exact Df.mk
   | ok a s2 =>
    obtain ⟨p1,p2⟩:=ho acc s h hth a s2 er;have hl:=remT_lt h p1;dsimp only
    by_cases hz:btw=0
    ·rw [if_pos hz]; exact ih _ _ p2 (by omega) (by omega)
    ·rw [if_neg hz]
     have hs:=p2.skip (k:=btw) hb;have hp:=remT_le (ts:=ts) (zD ts btw s2)
     cases e2:qN ts btw s2 with
     | mk b s3 =>
      rw [e2] at hs hp
      cases b with
      | false=>exact Df.mk
      | true=>dsimp only at hp ⊢; exact ih _ _ hs (by omega) (by omega)
theorem temporaries_df {ts:Ts} (f:Nat) {s:Ps} (h:Okq ts s) (hf:zZ ts s+1≤f):Df (qv ts f s):=by
 unfold qv
 have hs:=h.skip (k:=12) (by decide)
 have hp:=remT_le (ts:=ts) (zD ts 12 s)
 cases e:qN ts 12 s with
 | mk b s1 =>
  rw [e] at hs hp
  cases b with
  | false=>exact Df.mk
  | true =>
   dsimp only at hs hp ⊢;refine Df.bind (listA_df (α:=Tok × Nat) (R:=zZ ts s) (btw:=0) (by decide) (fun s hs=>⟨Nat.le_refl _,hs⟩) (fun acc s hs hth=>Pg.tk (Pq.ok (hs.take (by rw [qk hth]; decide)))) (fun acc s hs hth _=>Df.mk) f [] s1 hs hp (by omega)) (fun l s2 _=>?_)
   exact Df.need (fun s2=>Df.mk)
theorem keywords_df {α:Type} {ts:Ts} {one:Ps→Option (Rs α)} {R:Nat} (ho:∀ s,Okq ts s→Pq ts s (one s)) (hd:∀ s,Okq ts s→zZ ts s+1≤R→Df (one s)) (f:Nat) (s:Ps) (h:Okq ts s) (hR:zZ ts s≤R) (hf:zZ ts s+1≤f):Df (zv ts one f s):=by
 unfold zv
 refine Df.bind (listA_df (R:=R) (btw:=0) (by decide) (fun s hs=>⟨Nat.le_refl _,hs⟩) (fun acc s hs hth=>?_) (fun acc s hs hth hr=>?_) f [] s h hR hf) (fun l s2 _=>Df.mk)
 ·have hk:qy (hdT ts s)=3:=by simpa using hth
  have ht:=hs.take (zu (by rw [hk]; decide))
  exact Pg.tk (Pq.bind (ho _ ht) (fun a s1 _ h1=>Pq.ok h1))
 ·have hk:qy (hdT ts s)=3:=by simpa using hth
  have ht:=hs.take (zu (by rw [hk]; decide))
  have:=jw hs;exact Df.bind (hd (qj ts s) ht (by omega)) (fun a s1 _=>Df.mk)
theorem worded_df {α:Type} {ts:Ts} {one:Nat→Ps→Option (Rs α)} {R:Nat} (ho:∀ k s,k≤3→Okq ts s→Pq ts s (one k s)) (hd:∀ k s,k≤3→Okq ts s→zZ ts s+1≤R→Df (one k s)) (f:Nat) (s:Ps) (h:Okq ts s) (hR:zZ ts s≤R) (hf:zZ ts s+1≤f):Df (zt ts one f s):=by
 unfold zt
 split
 ·exact Df.mk
 split
 ·rename_i hr
  have ht:=h.take (zu (by rw [hr]; decide))
  have:=jw h;exact Df.bind (hd 2 _ (by decide) ht (by omega)) (fun a s1 _=>Df.mk)
 split
 ·exact keywords_df (ho 3 · (by decide)) (hd 3 · (by decide)) f s h hR hf
 ·exact Df.mk
structure DfAll (ts:Ts) (f:Nat):Prop where
 expr:∀ s,Okq ts s→16 * zZ ts s+7≤f→Df (qD ts f s)
 casc:∀ s,Okq ts s→16 * zZ ts s+6≤f→Df (zi ts f s)
 sends:∀ most s,most≤3→Okq ts s→16 * zZ ts s+5≤f→(∀ n b s',zm ts f most s=some (.ok (n,b) s')→b=true→n.kids≠[])∧Df (zm ts f most s)
 ranks:∀ most rank n sent s,most≤3→1≤rank→rank≤4→Okq ts s→(sent=true→n.kids≠[])→16 * zZ ts s+8≤f+rank→(∀ m b s',zn ts f most rank n sent s=some (.ok (m,b) s')→b=true→m.kids≠[])∧Df (zn ts f most rank n sent s)
 msg:∀ s,Okq ts s→16 * zZ ts s≤f→Df (qM ts f s)
 prim:∀ most s,Okq ts s→16 * zZ ts s+4≤f→Df (ze ts f most s)
 lit:∀ s,Okq ts s→16 * zZ ts s≤f→Df (zb ts f s)
 elem:∀ s,Okq ts s→16 * zZ ts s+1≤f→Df (qX ts f s)
 blk:∀ s,Okq ts s→(hdT ts s).1.kind=10→16 * zZ ts s≤f→Df (zO ts f s)
 stmt:∀ s,Okq ts s→16 * zZ ts s+8≤f→Df (qA ts f s)
 body:∀ fin s,Okq ts s→16 * zZ ts s+9≤f→Df (zg ts f fin s)
theorem df_all (ts:Ts):∀ f,DfAll ts f:=by
 intro f
 induction f with
 | zero =>
  have no:∀ {s:Ps} {c:Nat},Okq ts s→16 * zZ ts s+c≤0→False:=fun h hf=>by have:=remT_pos h; omega
  exact ⟨fun s h hf=>(no h hf).elim,fun s h hf=>(no h hf).elim,fun _ s _ h hf=>(no h hf).elim,fun _ _ _ _ s h1 h2 h3 h _ hf=>by have:=remT_pos h; omega,fun s h hf=>(no (c:=0) h hf).elim,fun _ s h hf=>(no h hf).elim,fun s h hf=>(no (c:=0) h hf).elim,fun s h hf=>(no h hf).elim,fun s h _ hf=>(no (c:=0) h hf).elim,fun s h hf=>(no h hf).elim,fun _ s h hf=>(no h hf).elim⟩
 | succ f ih =>
  have pg:=zS ts f;refine ⟨?_,?_,?_,?_,?_,?_,?_,?_,?_,?_,?_⟩
  ·intro s h hf
   unfold qD
   split
   ·rename_i hs
    have h1:=h.take (by rw [qk hs.1]; decide)
    have hk:hdT ts (qj ts s)=ts.getD (s.pos+1) zj:=rfl;have h2:=h1.take (by rw [hk,hs.2]; decide)
    have r1:=jw h;have r2:=jw h1;exact Df.bind (ih.expr _ h2 (by omega)) (fun n s1 _=>Df.mk)
   ·exact ih.casc s h (by omega)
  ·intro s h hf
   unfold zi;obtain ⟨k1,k2⟩:=ih.sends 3 s (by decide) h (by omega)
   refine Df.bind k2 (fun x s1 e1=>?_)
   obtain ⟨p1,h1⟩:=pg.sends 3 s h x s1 e1;have r1:=remT_lt h p1
   split
   ·exact Df.mk
   rename_i hst
   split
   ·exact Df.mk
   rename_i hx
   have h2:=h1.take (by rw [qk (by simpa using hst)]; decide)
   have r2:=jw h1;refine Df.bind (listA_df (R:=zZ ts s) (btw:=17) (by decide) (fun s hs=>⟨Nat.le_refl _,hs⟩) (fun acc s hs _=>pg.msg s hs) (fun acc s hs _ hr=>ih.msg s hs (by omega)) f [] _ h2 (by omega) (by omega)) (fun l s3 _=>?_)
   have:=k1 x.1 x.2 s1 e1 (by simpa using hx)
   cases ek:x.1.kids with
   | nil=>exact absurd ek this
   | cons r ks=>exact Df.mk
  ·intro most s hm h hf
   unfold zm;have k1:=ih.prim most s h (by omega)
   have k2:∀ n s1,ze ts f most s=some (.ok n s1)→_:=fun n s1 e1=>by
    obtain ⟨p1,h1⟩:=pg.prim most s h n s1 e1;have r1:=remT_lt h p1;exact ih.ranks most 1 n false s1 hm (by decide) (by decide) h1 (by simp) (by omega)
   refine ⟨fun n b s' e hb=>?_,Df.bind k1 (fun n s1 e1=>(k2 n s1 e1).2)⟩
   obtain ⟨a,s1,e1,e2⟩:=qQ e;exact (k2 a s1 e1).1 n b s' e2 hb
  ·intro most rank n sent s hm h1 h4 h hs hf
   unfold zn
   split
   ·refine ⟨fun m b s' e hb=>?_,Df.mk⟩
    injection e with e; injection e with e1 e2; injection e1 with e1 e3
    subst e1; subst e3; exact hs hb
   split
   ·have k1:=ih.msg s h (by omega)
    have k2:∀ m s1,qM ts f s=some (.ok m s1)→_:=fun m s1 e1=>by
     obtain ⟨p1,q1⟩:=pg.msg s h m s1 e1;have r1:=remT_lt h p1;exact ih.ranks most rank (sendN n m) true s1 hm h1 h4 q1 (fun _=>by unfold sendN Nd.kids; simp) (by omega)
    refine ⟨fun m b s' e hb=>?_,Df.bind k1 (fun m s1 e1=>(k2 m s1 e1).2)⟩
    obtain ⟨a,s1,e1,e2⟩:=qQ e;exact (k2 a s1 e1).1 m b s' e2 hb
   ·exact ih.ranks most (rank+1) n sent s hm (by omega) (by omega) h hs (by omega)
  ·intro s h hf
   unfold qM;have r1:=remT_pos h;refine Df.bind (worded_df (R:=zZ ts s) (fun k s _ hs=>(Pg.bind (pg.sends (k - 1) s hs) (fun x s1 _ h1=>Pq.ok h1)).q) (fun k s hk hs hr=>Df.bind (ih.sends (k - 1) s (by omega) hs (by omega)).2 (fun x s1 _=>Df.mk)) f s h (Nat.le_refl _) (by omega)) (fun x s1 _=>Df.mk)
  ·intro most s h hf
   unfold ze
   split
   ·exact Df.mk
   split
   ·rename_i hk
    have h1:=h.take (by rw [hk]; decide)
    have r1:=jw h;exact Df.bind (ih.expr _ h1 (by omega)) (fun n s1 _=>Df.need (fun s2=>Df.mk))
   split
   ·rename_i hk; exact ih.blk s h hk (by omega)
   ·exact ih.lit s h (by omega)
  ·intro s h hf
   unfold zb
   split
   ·exact Df.mk
   split
   ·exact Df.mk
   split
   ·exact Df.mk
   split
   ·rename_i hk
    have h1:=h.take (by rw [hk]; decide)
    have r1:=jw h;exact Df.bind (listA_df (R:=zZ ts (qj ts s)) (btw:=0) (by decide) (fun s hs=>⟨Nat.le_refl _,hs⟩) (fun acc s hs _=>pg.elem s hs) (fun acc s hs _ hr=>ih.elem s hs (by omega)) f [] _ h1 (Nat.le_refl _) (by omega)) (fun l s1 e1=>Df.need (fun s2=>Df.mk))
   ·exact Df.mk
  ·intro s h hf
   unfold qX
   split
   ·exact Df.mk
   ·exact ih.lit s h (by omega)
  ·intro s h hk hf
   unfold zO;have h1:=h.take (by rw [hk]; decide)
   have r1:=jw h;obtain ⟨p1,p2⟩:=params_pg f h1;have d1:Df (qY ts 0 (fun s=>qN ts 13 s) (fun _ s=>some (qS ts 1 s)) f [] (qj ts s)):=listA_df (R:=zZ ts (qj ts s)) (btw:=0) (by decide) (fun s hs=>⟨zD ts 13 s,hs.skip (by decide)⟩) (fun acc s hs _ a s' e=>by
    obtain ⟨q1,q2⟩:=Pg.need (hs.skip (k:=13) (by decide)) (k:=1) (by decide) a s' e
    exact ⟨Nat.lt_of_le_of_lt (zD ts 13 s) q1,q2⟩) (fun acc s hs _ hr=>Df.mk) f [] _ h1 (Nat.le_refl _) (by omega)
   refine Df.bind d1 (fun ps s1 e1=>?_)
   obtain ⟨q1,hs1⟩:=p1 ps s1 e1;have hp:=toks_getD (p2 ps s1 e1) 8;have h2:Okq ts (if 8 < ps.length then qR 73 (ps.getD 8 zj).2 s1 else s1)∧s1.pos≤(if 8 < ps.length then qR 73 (ps.getD 8 zj).2 s1 else s1).pos:=by
    split
    ·exact ⟨hs1.pass hp,by rw [(jD (c:=73) hs1.ok.place hp).2.2]; exact Nat.le_refl _⟩
    ·exact ⟨hs1,Nat.le_refl _⟩
   dsimp only;generalize (if 8 < ps.length then qR 73 (ps.getD 8 zj).2 s1 else s1)=s2 at *
   have r2:=remT_le (ts:=ts) q1;have r3:=remT_le (ts:=ts) h2.2;have rest:∀ s3,Okq ts s3→zZ ts s3+1≤zZ ts s→Df (qF (qv ts f s3) fun tm s4=>qF (zg ts f 11 s4) fun l s5 =>
    some (.ok (Nd.mk 12 [] ps.length (hdT ts s).2 ((ps++tm).map (·.1.text)) ((ps++tm).map (·.2)) l) s5)):=fun s3 h3 hr=>Df.bind (temporaries_df f h3 (by omega)) (fun tm s4 e4=>by
     obtain ⟨q4,h4⟩:=qZ f h3 tm s4 e4;have r4:=remT_le (ts:=ts) q4;exact Df.bind (ih.body 11 s4 h4 (by omega)) (fun l s5 _=>Df.mk))
   by_cases hc:0 < ps.length∧qi ts 11 s2=false
   ·rw [if_pos hc]
    unfold qS
    by_cases hb:qi ts 12 s2=true
    ·rw [if_pos hb]
     dsimp only;have h3:=h2.1.take (by rw [qk hb]; decide)
     have r5:=jw h2.1;exact rest _ h3 (by omega)
    ·rw [if_neg hb]; exact Df.mk
   ·rw [if_neg hc]
    dsimp only;exact rest _ h2.1 (by omega)
  ·intro s h hf
   unfold qA
   split
   ·rename_i hk
    have r1:=jw h;exact Df.bind (ih.expr _ (h.take (by rw [qk hk]; decide)) (by omega)) (fun n s1 _=>Df.mk)
   ·exact ih.expr s h (by omega)
  ·intro fin s h hf
   unfold zg;have r1:=remT_pos h;refine Df.bind (listA_df (R:=zZ ts s) (btw:=16) (by decide) (fun s hs=>⟨Nat.le_refl _,hs⟩) (fun acc s hs _=>?_) (fun acc s hs _ hr=>?_) f [] s h (Nat.le_refl _) (by omega)) (fun l s1 e1=>Df.need (fun s2=>Df.mk))
   ·dsimp only
    split
    ·exact Pg.bad
    ·exact pg.stmt s hs
   ·dsimp only
    split
    ·exact Df.mk
    ·exact ih.stmt s hs (by omega)
theorem zX {α:Type} {ts:Ts} {btw:Nat} {there:Ps→Bool × Ps} {one:List α→Ps→Option (Rs α)} (hb:btw≠18) (ht:∀ s,Okq ts s→s.pos≤(there s).2.pos∧Okq ts (there s).2)
  (ho:∀ acc s,Okq ts s→(there s).1=true→Pg ts s (one acc (there s).2)):∀ (f:Nat) (acc:List α) (s:Ps) (l:List α) (s':Ps),Okq ts s→acc.length≤s.pos→qY ts btw there one f acc s=some (.ok l s')→l.length≤s'.pos:=by
 intro f
 induction f with
 | zero=>intro acc s l s' h hacc e; cases e
 | succ f ih =>
  intro acc s l s' h hacc e;unfold qY at e;obtain ⟨h1,h2⟩:=ht s h;rw [show there s=((there s).1,(there s).2) from rfl] at e
  cases hth:(there s).1 with
  | false =>
   rw [hth] at e;injection e with e; injection e with e1 e2; subst e1; subst e2; omega
  | true =>
   rw [hth] at e;dsimp only at e
   cases eo:one acc (there s).2 with
   | none=>rw [eo] at e; cases e
   | some r =>
    rw [eo] at e
    cases r with
    | bad x=>cases e
    | ok a s2 =>
     obtain ⟨p1,p2⟩:=ho acc s h hth a s2 eo;have hl:(acc++[a]).length≤s2.pos:=by rw [List.length_append,List.length_singleton]; omega
     dsimp only at e
     by_cases hz:btw=0
     ·rw [if_pos hz] at e
      exact ih _ _ _ _ p2 hl e
     ·rw [if_neg hz] at e
      have hs:=p2.skip (k:=btw) hb;have hp:=zD ts btw s2
      cases e2:qN ts btw s2 with
      | mk b s3 =>
       rw [e2] at hs e hp;dsimp only at hp
       cases b with
       | false=>dsimp only at e; injection e with e; injection e with e1 e3; subst e1; subst e3; omega
       | true=>dsimp only at e; exact ih _ _ _ _ hs (show (acc++[a]).length≤s3.pos by omega) e
theorem worded_len {α:Type} {ts:Ts} {one:Nat→Ps→Option (Rs α)} (ho:∀ k s,k≤3→Okq ts s→Pq ts s (one k s)) (f:Nat) (s:Ps) (h:Okq ts s) (x:Bs × List α) (s':Ps) (e:zt ts one f s=some (.ok x s')):x.2.length≤4097:=by
 unfold zt at e
 by_cases h1:qy (hdT ts s)=1
 ·rw [if_pos h1] at e; injection e with e; injection e with e1 e2; subst e1; exact Nat.zero_le _
 rw [if_neg h1] at e
 by_cases h2:qy (hdT ts s)=2
 ·rw [if_pos h2] at e
  obtain ⟨a,s1,e1,e2⟩:=qQ e;injection e2 with e; injection e with e1 e2; subst e1; exact (by decide:1≤4097)
 rw [if_neg h2] at e
 by_cases h3:qy (hdT ts s)=3
 ·rw [if_pos h3] at e
  unfold zv at e;obtain ⟨l,s1,e1,e2⟩:=qQ e;have hp:∀ (acc:List ((Tok × Nat) × α)) (s:Ps),Okq ts s→(decide (qy (hdT ts s)=3),s).1=true→Pg ts s ((fun (_:List ((Tok × Nat) × α)) s=>qF (one 3 (qj ts s)) (fun a s2=>some (.ok (hdT ts s,a) s2))) acc s):=by
   intro acc s hs hth;have hk:qy (hdT ts s)=3:=by simpa using hth
   have ht:=hs.take (zu (by rw [hk]; decide))
   exact Pg.tk (Pq.bind (ho 3 _ (by decide) ht) (fun a s1 _ h1=>Pq.ok h1))
  have hl:=zX (there:=fun s=>(decide (qy (hdT ts s)=3),s)) (one:=fun (_:List ((Tok × Nat) × α)) s=>qF (one 3 (qj ts s)) (fun a s2=>some (.ok (hdT ts s,a) s2))) (btw:=0) (by decide) (fun s hs=>⟨Nat.le_refl _,hs⟩) hp f [] s l s1 h (Nat.zero_le _) e1
  have hq:=((zh (there:=fun s=>(decide (qy (hdT ts s)=3),s)) (one:=fun (_:List ((Tok × Nat) × α)) s=>qF (one 3 (qj ts s)) (fun a s2=>some (.ok (hdT ts s,a) s2))) (btw:=0) (by decide) (fun s hs=>⟨Nat.le_refl _,hs⟩) hp f [] s h).1 l s1 e1).2
  have h9:=hq.lt;have h8:=hq.len;injection e2 with e; injection e with e1 e2; subst e1
  show (l.map (·.2)).length≤4097
  rw [List.length_map];omega
 ·rw [if_neg h3] at e; injection e with e; cases e
theorem msg_len {ts:Ts} {f:Nat} {s s':Ps} {m:Nd} (h:Okq ts s) (e:qM ts f s=some (.ok m s')):m.kids.length≤4097:=by
 cases f with
 | zero=>unfold qM at e; cases e
 | succ f =>
  unfold qM at e;obtain ⟨x,s1,e1,e2⟩:=qQ e;have:=worded_len (fun k s _ hs=>(Pg.bind ((zS ts f).sends (k - 1) s hs) (fun x s1 _ h1=>Pq.ok h1)).q) f s h x s1 e1
  injection e2 with e; injection e with e1 e2; subst e1
  exact this
theorem ranks_len {ts:Ts}:∀ (f most rank:Nat) (n:Nd) (sent:Bool) (s:Ps),Okq ts s→(sent=true→n.kids.length≤4098)→∀ m b s',zn ts f most rank n sent s=some (.ok (m,b) s')→b=true→m.kids.length≤4098∧(n.kids≠[]∨sent=false→m.kids≠[]):=by
 intro f
 induction f with
 | zero=>intro most rank n sent s h hs m b s' e; unfold zn at e; cases e
 | succ f ih =>
  intro most rank n sent s h hs m b s' e hb;unfold zn at e
  by_cases h1:most < rank
  ·rw [if_pos h1] at e
   injection e with e; injection e with e1 e2; injection e1 with e1 e3
   subst e1; subst e3;exact ⟨hs hb,fun hh=>by rcases hh with hh | hh; exact hh; rw [hb] at hh; cases hh⟩
  rw [if_neg h1] at e
  by_cases h2:qy (hdT ts s)=rank
  ·rw [if_pos h2] at e
   obtain ⟨a,s1,e1,e2⟩:=qQ e;have hl:=msg_len h e1;have hk:(sendN n a).kids.length≤4098:=by show (n :: a.kids).length≤4098; simp; omega
   obtain ⟨q1,q2⟩:=ih most rank (sendN n a) true s1 ((zS ts f).msg s h a s1 e1).2 (fun _=>hk) m b s' e2 hb
   exact ⟨q1,fun _=>q2 (Or.inl (by show n :: a.kids≠[]; simp))⟩
  ·rw [if_neg h2] at e
   exact ih most (rank+1) n sent s h hs m b s' e hb
theorem sends_len {ts:Ts} {f most:Nat} {s:Ps} (h:Okq ts s) {m:Nd} {b:Bool} {s':Ps} (e:zm ts f most s=some (.ok (m,b) s')) (hb:b=true):m.kids.length≤4098∧m.kids≠[]:=by
 cases f with
 | zero=>unfold zm at e; cases e
 | succ f =>
  unfold zm at e;obtain ⟨a,s1,e1,e2⟩:=qQ e;have:=ranks_len f most 1 a false s1 ((zS ts f).prim most s h a s1 e1).2 (by simp) m b s' e2 hb
  exact ⟨this.1,this.2 (Or.inr rfl)⟩
end Go.Proofs.YtfhkhmgodkheaaaGreatDoor
namespace Go.Proofs.YtfhkhmgodkheaaaGreatDoor
open Go.RowKit Go.Maps
def Box (w:World) (b:Nat) (v:Value) (t:TypeId):Prop:=w.heap[b]?=some (.cells #[v] t (0,0))
theorem Box.cell {w:World} {b:Nat} {v:Value} {t:TypeId} (h:Box w b v t):w.cell? ⟨b,0,none⟩=some v:=by rw [qh h]; rfl
theorem Box.fr {w w':World} {b:Nat} {v:Value} {t:TypeId} {S:List Nat} (h:Box w b v t) (f:Fr S w w') (hs:b ∉ S):Box w' b v t:=(f.block _ (qf h) hs).trans h
theorem Box.bl {w w':World} {b:Nat} {v:Value} {t:TypeId} (h:Box w b v t) (f:Bl w w'):Box w' b v t:=(f.block _ (qf h)).trans h
theorem Box.lt {w:World} {b:Nat} {v:Value} {t:TypeId} (h:Box w b v t):b < w.heap.size:=qf h
def I1 (P g c:Nat) (ts:Ts) (bp:Nat) {α:Type}:Inv α:=fun W F acc s=>Pr W P g c ts s∧Okq ts s∧F=[P]∧Box W bp (.pointer (some ⟨P,0,none⟩)) 62
theorem I1.ok {P g c:Nat} {ts:Ts} {bp:Nat} {α:Type}:InvOk (α:=α) P [g,bp] ts (I1 P g c ts bp (α:=α)) where
 ok:=fun ⟨p,o,e,b⟩=>⟨o,p.posW,by intro x hx; simp at hx; rcases hx with rfl | rfl; exact p.glt (by have:=o.lt; omega); exact b.lt,by subst e; intro b hb; simp at hb; subst hb; exact p.lt⟩
 keep:=fun {W W' F acc s S} ⟨p,o,e,b⟩ f h=>by
  subst e;exact ⟨p.other f (fun hm=>(h P hm).1 (by simp)) (fun hm=>(h g hm).2 (by simp)),o,rfl,b.fr f (fun hm=>(h bp hm).2 (by simp))⟩
theorem I1.go {P g c:Nat} {ts:Ts} {bp:Nat} {α:Type} {W W':World} {F:List Nat} {acc acc':List α} {s s':Ps} (h:I1 P g c ts bp W F acc s) (f:Fr [P] W W') (hp:P≠bp) (p:Pr W' P g c ts s') (o:Okq ts s'):I1 P g c ts bp W' F acc' s' :=
 ⟨p,o,h.2.2.1,h.2.2.2.fr f (by simpa using fun e=>hp e.symm)⟩
theorem I1.bl {P g c:Nat} {ts:Ts} {bp:Nat} {α:Type} {W W':World} {F:List Nat} {acc acc':List α} {s:Ps} (h:I1 P g c ts bp W F acc s) (b:Bl W W'):I1 P g c ts bp W' F acc' s :=
 ⟨h.1.keep b,h.2.1,h.2.2.1,h.2.2.2.bl b⟩
theorem I1.skip {P g c:Nat} {ts:Ts} {bp:Nat} {α:Type} (hp:P≠bp) (k:Nat) (hk:k≠18) (W:World) (F:List Nat) (acc:List α) (s:Ps) (h:I1 P g c ts bp W F acc s):Calls Tryz.prog 85 #[.pointer (some ⟨P,0,none⟩),.int .i64 k] W fun e w'=>e=.returned (.bool (qN ts k s).1)∧I1 P g c ts bp w' F acc (qN ts k s).2∧Fr F W w':=by
 refine (skip_ok P g c ts s k W h.1 h.2.1.ok h.2.1.lt).mono ?_
 rintro e w' ⟨rfl,p,f⟩
 exact ⟨rfl,h.go f hp p (h.2.1.skip hk),by rw [h.2.2.1]; exact f⟩
theorem clo87_ok {P g c:Nat} {ts:Ts} {bp:Nat} {α:Type} (W:World) (F:List Nat) (acc:List α) (s:Ps) (h:I1 P g c ts bp W F acc s):Calls Tryz.prog 87 #[.pointer (some ⟨bp,0,none⟩)] W fun e w'=>e=.returned (.bool (qi ts 1 s))∧I1 P g c ts bp w' F acc s∧Fr F W w':=by
 have HK:=qd (je P g c ts s 1 W h.1 h.2.1.ok h.2.1.lt)
 have hb:=h.2.2.2.cell
 have HI:=qd h
 clear h
 go_enter Tryz.func87,Tryz.ntmps87
 go_wp2_with (go_at_call 83; refine HK.out.mono ?_; rintro e w1 ⟨rfl,b1⟩; have B1:=qd b1; clear b1)
 go_ret
 exact ⟨rfl,HI.out.bl B1.out,Fr.ofBl B1.out _⟩
theorem clo195_ok {P g c:Nat} {ts:Ts} {bp:Nat} {α:Type} (W:World) (F:List Nat) (acc:List α) (s:Ps) (h:I1 P g c ts bp W F acc s):Calls Tryz.prog 195 #[.pointer (some ⟨bp,0,none⟩)] W fun e w'=>e=.returned (.bool (!qi ts 9 s))∧I1 P g c ts bp w' F acc s∧Fr F W w':=by
 have HK:=qd (je P g c ts s 9 W h.1 h.2.1.ok h.2.1.lt)
 have hb:=h.2.2.2.cell
 have HI:=qd h
 clear h
 go_enter Tryz.func195,Tryz.ntmps195
 go_wp2_with (go_at_call 83; refine HK.out.mono ?_; rintro e w1 ⟨rfl,b1⟩; have B1:=qd b1; clear b1)
 go_ret
 exact ⟨rfl,HI.out.bl B1.out,Fr.ofBl B1.out _⟩
theorem clo187_ok {P g c:Nat} {ts:Ts} {bp:Nat} {α:Type} (hp:P≠bp) (W:World) (F:List Nat) (acc:List α) (s:Ps) (h:I1 P g c ts bp W F acc s):Calls Tryz.prog 187 #[.pointer (some ⟨bp,0,none⟩)] W fun e w'=>e=.returned (.bool (qN ts 13 s).1)∧I1 P g c ts bp w' F acc (qN ts 13 s).2∧Fr F W w':=by
 have HK:=qd (I1.skip hp 13 (by decide) W F acc s h)
 have hb:=h.2.2.2.cell
 clear h
 go_enter Tryz.func187,Tryz.ntmps187
 go_wp2_with (go_at_call 85; refine HK.out.mono ?_; rintro e w1 ⟨rfl,i1,f1⟩; have I2:=qd i1; have F2:=qd f1; clear i1 f1)
 go_ret
 exact ⟨rfl,I2.out,F2.out⟩
end Go.Proofs.YtfhkhmgodkheaaaGreatDoor
