import Derived.Test.YtfhkhmgodkheaaaGreatDoorQCG28TBd
import Derived.Deep.RegionHeld3
set_option linter.unusedSimpArgs false
set_option linter.unusedVariables false
set_option maxRecDepth 1000000
set_option maxHeartbeats 16000000
namespace Go.Proofs.YtfhkhmgodkheaaaGreatDoor
open Go.RowKit Go.Maps
theorem hbd {w V:World} (h:Hid (Bl w V)):Hid (Bl w V.drew):=qd (h.out.trans (qV V))
def RH (B:Bool) (w:World) (e:Ending) (w':World):Prop:=e=.returned (.bool B)∧Hid (Bl w w')
theorem rh_of {p:Program} {f:Nat} {vs:Array Value} {w V:World} {B:Bool} (hV:Hid (Bl w V)) (h:Calls p f vs V (RB B V)):Calls p f vs V (RH B w):=h.mono (fun e w' h=>⟨h.1,qd (hV.out.trans h.2)⟩)
theorem isBlock_ok (n:Nt) (b off o:Nat) (w:World) (ho:o≤24) (hE:Env w) (h:NtM w n b off) (hX:∀ i,i < n.kids.length→CE (n.kids.getD i qE)) (hX2:∀ i,i < n.kids.length→0 < (n.kids.getD i qE).kids.length→CE ((n.kids.getD i qE).kids.getD 0 qE)) :
  Calls Tryz.prog 103 #[.pointer (some ⟨b,off,none⟩),.int .i64 o] w (RB (zd n 12 && (decide (o < 24) && (decide (0≤n.num∧n.num≤8∧n.num≤n.names.length) && (nmsB n.names && jF n.kids (o+1))))) w):=by
 obtain ⟨sn,sk,hn⟩:=h.nod
 obtain ⟨pn,cn,en,_,_⟩:=hn.rs
 obtain ⟨pk,ck,ek,_,_⟩:=hn.rn.slc
 have hC:Hid (∀ V,Hid (Bl w V)→V.cell? ⟨b,off+2,none⟩=some (.int .i64 n.num)∧V.cell? ⟨b,off+4,none⟩=some (.slice pn n.names.length cn)∧V.cell? ⟨b,off+6,none⟩=some (.slice pk n.kids.length ck)):=qd (fun V hV=>by
  have k:=hn.keep hV.out;exact ⟨k.c2,by rw [k.c4,en],by rw [k.c6,ek]⟩)
 have HK:=qd (fun V (hV:Hid (Bl w V))=>rh_of hV (jG n b off 12 (by omega) (by omega) V (hE.mono hV.out).knd (h.keep hV.out)))
 have HM:=qd (fun V (hV:Hid (Bl w V))=>rh_of hV (areNames_ok sn n.names V (hn.rs.keep hV.out) (by have:=hn.nl; omega)))
 have HY:=qd (fun (h24:o+1≤24) V (hV:Hid (Bl w V))=>rh_of hV (isBody_ok sk n.kids (o+1) V h24 (hE.mono hV.out) (hn.rn.keep hV.out) hX hX2))
 rw [en] at HM
 rw [ek] at HY
 have hw:IntKind.i64.wrap ((o:Int)+1)=(o:Int)+1:=zP _ (by omega) (by omega)
 have hc:((o+1:Nat):Int)=(o:Int)+1:=by omega
 rw [hc] at HY
 have hR:Hid (Bl w w):=qd (Bl.refl _)
 generalize jF n.kids (o+1)=E at *
 generalize nmsB n.names=NB at *
 generalize zd n 12=K at *
 have lnb:=hn.nl
 generalize n.names.length=ln at *
 generalize n.kids.length=lk at *
 generalize n.num=m at *
 clear h hn hX hX2 hE hc en ek
 cases K with
 | false =>
  clear HM HY
  go_enter Tryz.func103,Tryz.ntmps103
  go_wp2_with fail
  refine wp_region_held_drew (S:=fun V=>V.cell? ⟨b,off+2,none⟩=some (.int .i64 m)∧V.cell? ⟨b,off+4,none⟩=some (.slice pn ln cn)∧V.cell? ⟨b,off+6,none⟩=some (.slice pk lk ck)) (by kernel_rfl) (hC.out _ (hbd hR)) (fun hHeld=>?_)
  refine tq (i:=0) ?_
  try simp only [Act.put,qq]
  refine qU (i:=1) (by kernel_rfl) rfl (fun K hK=>?_)
  refine qO (by rfl) 64 Tryz.f64 Tryz.func64 (by kernel_rfl) (by kernel_rfl) _ _ rfl _ (by first | (simp [Act.eval]; done) | (simp [Act.eval]; rfl)) _ (HK.out _ (hbd hR)) ?_
  rintro _ w1 ⟨rfl,hg1⟩;refine hK.out _ _ (hC.out _ hg1) (fun hHeld=>?_)
  clear hK K
  try simp only [Act.put,qq]
  refine tq (i:=2) ?_
  try simp only [Act.put,qq]
  refine tu (i:=3) ?_
  try simp only [Act.put,qq]
  refine tu (i:=4) ?_
  try simp only [Act.put,qq]
  refine tq (i:=5) ?_
  try simp only [Act.put,qq]
  refine tq (i:=6) ?_
  try simp only [Act.put,qq]
  refine tu (i:=7) ?_
  try simp only [Act.put,qq]
  refine tu (i:=8) ?_
  try simp only [Act.put,qq]
  refine tu (i:=9) ?_
  try simp only [Act.put,qq]
  refine tu (i:=10) ?_
  try simp only [Act.put,qq]
  refine tu (i:=11) ?_
  try simp only [Act.put,qq]
  refine tq (i:=12) ?_
  try simp only [Act.put,qq]
  refine tq (i:=13) ?_
  try simp only [Act.put,qq]
  refine tu (i:=14) ?_
  try simp only [Act.put,qq]
  refine tu (i:=15) ?_
  try simp only [Act.put,qq]
  refine tu (i:=16) ?_
  try simp only [Act.put,qq]
  refine tu (i:=17) ?_
  try simp only [Act.put,qq]
  refine tu (i:=18) ?_
  try simp only [Act.put,qq]
  refine tu (i:=19) ?_
  try simp only [Act.put,qq]
  refine tu (i:=20) ?_
  try simp only [Act.put,qq]
  refine tu (i:=21) ?_
  try simp only [Act.put,qq]
  refine tu (i:=22) ?_
  try simp only [Act.put,qq]
  refine tu (i:=23) ?_
  try simp only [Act.put,qq]
  refine tu (i:=24) ?_
  try simp only [Act.put,qq]
  refine tq (i:=25) ?_
  try simp only [Act.put,qq]
  refine tq (i:=26) ?_
  try simp only [Act.put,qq]
  refine tu (i:=27) ?_
  try simp only [Act.put,qq]
  refine tu (i:=28) ?_
  try simp only [Act.put,qq]
  refine tu (i:=29) ?_
  try simp only [Act.put,qq]
  refine tu (i:=30) ?_
  try simp only [Act.put,qq]
  refine tu (i:=31) ?_
  try simp only [Act.put,qq]
  refine tq (i:=32) ?_
  try simp only [Act.put,qq]
  refine tq (i:=33) ?_
  try simp only [Act.put,qq]
  refine tu (i:=34) ?_
  try simp only [Act.put,qq]
  refine tu (i:=35) ?_
  try simp only [Act.put,qq]
  refine tu (i:=36) ?_
  try simp only [Act.put,qq]
  refine tu (i:=37) ?_
  try simp only [Act.put,qq]
  refine tu (i:=38) ?_
  try simp only [Act.put,qq]
  refine tu (i:=39) ?_
  try simp only [Act.put,qq]
  refine tu (i:=40) ?_
  try simp only [Act.put,qq]
  refine tq (i:=41) ?_
  try simp only [Act.put,qq]
  refine tq (i:=42) ?_
  try simp only [Act.put,qq]
  refine wpAnyH_done (by kernel_rfl) ?_ _
  go_wp2_with fail
  go_ret
  exact ⟨rfl,hg1.out⟩
 | true =>
 by_cases h24:o < 24
 rotate_left
 ·have q24:((o:Int) < 24)=False:=eq_false (by omega)
  have d24:=qd (decide_eq_false h24);clear HM HY h24
  go_enter Tryz.func103,Tryz.ntmps103
  go_wp2_with fail
  refine wp_region_held_drew (S:=fun V=>V.cell? ⟨b,off+2,none⟩=some (.int .i64 m)∧V.cell? ⟨b,off+4,none⟩=some (.slice pn ln cn)∧V.cell? ⟨b,off+6,none⟩=some (.slice pk lk ck)) (by kernel_rfl) (hC.out _ (hbd hR)) (fun hHeld=>?_)
  refine tq (i:=0) ?_
  try simp only [Act.put,qq]
  refine qU (i:=1) (by kernel_rfl) rfl (fun K hK=>?_)
  refine qO (by rfl) 64 Tryz.f64 Tryz.func64 (by kernel_rfl) (by kernel_rfl) _ _ rfl _ (by first | (simp [Act.eval]; done) | (simp [Act.eval]; rfl)) _ (HK.out _ (hbd hR)) ?_
  rintro _ w1 ⟨rfl,hg1⟩;refine hK.out _ _ (hC.out _ hg1) (fun hHeld=>?_)
  clear hK K
  try simp only [Act.put,qq]
  refine tq (i:=2) ?_
  try simp only [Act.put,qq]
  refine tq (i:=3) ?_
  try simp only [Act.put,qq]
  refine tq (i:=4) ?_
  try simp only [Act.put,qq]
  refine tq (i:=5) ?_
  try simp only [Act.put,qq]
  refine tq (i:=6) ?_
  try simp only [Act.put,qq]
  refine tu (i:=7) ?_
  try simp only [Act.put,qq]
  refine tu (i:=8) ?_
  try simp only [Act.put,qq]
  refine tu (i:=9) ?_
  try simp only [Act.put,qq]
  refine tu (i:=10) ?_
  try simp only [Act.put,qq]
  refine tu (i:=11) ?_
  try simp only [Act.put,qq]
  refine tq (i:=12) ?_
  try simp only [Act.put,qq]
  refine tq (i:=13) ?_
  try simp only [Act.put,qq]
  refine tu (i:=14) ?_
  try simp only [Act.put,qq]
  refine tu (i:=15) ?_
  try simp only [Act.put,qq]
  refine tu (i:=16) ?_
  try simp only [Act.put,qq]
  refine tu (i:=17) ?_
  try simp only [Act.put,qq]
  refine tu (i:=18) ?_
  try simp only [Act.put,qq]
  refine tu (i:=19) ?_
  try simp only [Act.put,qq]
  refine tu (i:=20) ?_
  try simp only [Act.put,qq]
  refine tu (i:=21) ?_
  try simp only [Act.put,qq]
  refine tu (i:=22) ?_
  try simp only [Act.put,qq]
  refine tu (i:=23) ?_
  try simp only [Act.put,qq]
  refine tu (i:=24) ?_
  try simp only [Act.put,qq]
  refine tq (i:=25) ?_
  try simp only [Act.put,qq]
  refine tq (i:=26) ?_
  try simp only [Act.put,qq]
  refine tu (i:=27) ?_
  try simp only [Act.put,qq]
  refine tu (i:=28) ?_
  try simp only [Act.put,qq]
  refine tu (i:=29) ?_
  try simp only [Act.put,qq]
  refine tu (i:=30) ?_
  try simp only [Act.put,qq]
  refine tu (i:=31) ?_
  try simp only [Act.put,qq]
  refine tq (i:=32) ?_
  try simp only [Act.put,qq]
  refine tq (i:=33) ?_
  try simp only [Act.put,qq]
  refine tu (i:=34) ?_
  try simp only [Act.put,qq]
  refine tu (i:=35) ?_
  try simp only [Act.put,qq]
  refine tu (i:=36) ?_
  try simp only [Act.put,qq]
  refine tu (i:=37) ?_
  try simp only [Act.put,qq]
  refine tu (i:=38) ?_
  try simp only [Act.put,qq]
  refine tu (i:=39) ?_
  try simp only [Act.put,qq]
  refine tu (i:=40) ?_
  try simp only [Act.put,qq]
  refine tq (i:=41) ?_
  try simp only [Act.put,qq]
  refine tq (i:=42) ?_
  try simp only [Act.put,qq]
  refine wpAnyH_done (by kernel_rfl) ?_ _
  go_wp2_with fail
  go_ret
  exact ⟨by rw [d24.out]; rfl,hg1.out⟩
 have q24:((o:Int) < 24)=True:=eq_true (by omega)
 have d24:=qd (decide_eq_true h24)
 have HY2:=qd (HY.out (by omega))
 clear HY h24
 by_cases hm0:0≤m
 rotate_left
 ·have qm:((0:Int)≤m)=False:=eq_false (by omega)
  have dm:Hid (decide (0≤m∧m≤8∧m≤(ln:Int))=false):=qd (decide_eq_false (by omega))
  clear HM HY2 hm0
  go_enter Tryz.func103,Tryz.ntmps103
  go_wp2_with fail
  refine wp_region_held_drew (S:=fun V=>V.cell? ⟨b,off+2,none⟩=some (.int .i64 m)∧V.cell? ⟨b,off+4,none⟩=some (.slice pn ln cn)∧V.cell? ⟨b,off+6,none⟩=some (.slice pk lk ck)) (by kernel_rfl) (hC.out _ (hbd hR)) (fun hHeld=>?_)
  refine tq (i:=0) ?_
  try simp only [Act.put,qq]
  refine qU (i:=1) (by kernel_rfl) rfl (fun K hK=>?_)
  refine qO (by rfl) 64 Tryz.f64 Tryz.func64 (by kernel_rfl) (by kernel_rfl) _ _ rfl _ (by first | (simp [Act.eval]; done) | (simp [Act.eval]; rfl)) _ (HK.out _ (hbd hR)) ?_
  rintro _ w1 ⟨rfl,hg1⟩;refine hK.out _ _ (hC.out _ hg1) (fun hHeld=>?_)
  clear hK K
  try simp only [Act.put,qq]
  refine tq (i:=2) ?_
  try simp only [Act.put,qq]
  refine tq (i:=3) ?_
  try simp only [Act.put,qq]
  refine tq (i:=4) ?_
  try simp only [Act.put,qq]
  refine tq (i:=5) ?_
  try simp only [Act.put,qq]
  refine tq (i:=6) ?_
  try simp only [Act.put,qq]
  refine tq (i:=7) ?_
  try simp only [Act.put,qq]
  refine tq (i:=8) ?_
  try simp only [Act.put,qq]
  refine tq (i:=9) ?_
  try simp only [Act.put,qq]
  refine tq (i:=10) ?_
  try simp only [Act.put,qq]
  refine tq (i:=11) ?_
  try simp only [Act.put,qq]
  refine tq (i:=12) ?_
  try simp only [Act.put,qq]
  refine tq (i:=13) ?_
  try simp only [Act.put,qq]
  refine tu (i:=14) ?_
  try simp only [Act.put,qq]
  refine tu (i:=15) ?_
  try simp only [Act.put,qq]
  refine tu (i:=16) ?_
  try simp only [Act.put,qq]
  refine tu (i:=17) ?_
  try simp only [Act.put,qq]
  refine tu (i:=18) ?_
  try simp only [Act.put,qq]
  refine tu (i:=19) ?_
  try simp only [Act.put,qq]
  refine tu (i:=20) ?_
  try simp only [Act.put,qq]
  refine tu (i:=21) ?_
  try simp only [Act.put,qq]
  refine tu (i:=22) ?_
  try simp only [Act.put,qq]
  refine tu (i:=23) ?_
  try simp only [Act.put,qq]
  refine tu (i:=24) ?_
  try simp only [Act.put,qq]
  refine tq (i:=25) ?_
  try simp only [Act.put,qq]
  refine tq (i:=26) ?_
  try simp only [Act.put,qq]
  refine tu (i:=27) ?_
  try simp only [Act.put,qq]
  refine tu (i:=28) ?_
  try simp only [Act.put,qq]
  refine tu (i:=29) ?_
  try simp only [Act.put,qq]
  refine tu (i:=30) ?_
  try simp only [Act.put,qq]
  refine tu (i:=31) ?_
  try simp only [Act.put,qq]
  refine tq (i:=32) ?_
  try simp only [Act.put,qq]
  refine tq (i:=33) ?_
  try simp only [Act.put,qq]
  refine tu (i:=34) ?_
  try simp only [Act.put,qq]
  refine tu (i:=35) ?_
  try simp only [Act.put,qq]
  refine tu (i:=36) ?_
  try simp only [Act.put,qq]
  refine tu (i:=37) ?_
  try simp only [Act.put,qq]
  refine tu (i:=38) ?_
  try simp only [Act.put,qq]
  refine tu (i:=39) ?_
  try simp only [Act.put,qq]
  refine tu (i:=40) ?_
  try simp only [Act.put,qq]
  refine tq (i:=41) ?_
  try simp only [Act.put,qq]
  refine tq (i:=42) ?_
  try simp only [Act.put,qq]
  refine wpAnyH_done (by kernel_rfl) ?_ _
  go_wp2_with fail
  go_ret
  exact ⟨by rw [d24.out,dm.out]; rfl,hg1.out⟩
 have qm:((0:Int)≤m)=True:=eq_true (by omega)
 by_cases hm1:m≤min 8 (ln:Int)
 rotate_left
 ·have qm1:(m≤min 8 (ln:Int))=False:=eq_false hm1
  have dm:Hid (decide (0≤m∧m≤8∧m≤(ln:Int))=false):=qd (decide_eq_false (by omega))
  clear HM HY2 hm0 hm1
  go_enter Tryz.func103,Tryz.ntmps103
  go_wp2_with fail
  refine wp_region_held_drew (S:=fun V=>V.cell? ⟨b,off+2,none⟩=some (.int .i64 m)∧V.cell? ⟨b,off+4,none⟩=some (.slice pn ln cn)∧V.cell? ⟨b,off+6,none⟩=some (.slice pk lk ck)) (by kernel_rfl) (hC.out _ (hbd hR)) (fun hHeld=>?_)
  refine tq (i:=0) ?_
  try simp only [Act.put,qq]
  refine qU (i:=1) (by kernel_rfl) rfl (fun K hK=>?_)
  refine qO (by rfl) 64 Tryz.f64 Tryz.func64 (by kernel_rfl) (by kernel_rfl) _ _ rfl _ (by first | (simp [Act.eval]; done) | (simp [Act.eval]; rfl)) _ (HK.out _ (hbd hR)) ?_
  rintro _ w1 ⟨rfl,hg1⟩;refine hK.out _ _ (hC.out _ hg1) (fun hHeld=>?_)
  clear hK K
  try simp only [Act.put,qq]
  refine tq (i:=2) ?_
  try simp only [Act.put,qq]
  refine tq (i:=3) ?_
  try simp only [Act.put,qq]
  refine tq (i:=4) ?_
  try simp only [Act.put,qq]
  refine tq (i:=5) ?_
  try simp only [Act.put,qq]
  refine tq (i:=6) ?_
  try simp only [Act.put,qq]
  refine tq (i:=7) ?_
  try simp only [Act.put,qq]
  refine tq (i:=8) ?_
  try simp only [Act.put,qq]
  refine tq (i:=9) ?_
  try simp only [Act.put,qq]
  refine tq (i:=10) ?_
  try simp only [Act.put,qq]
  refine tq (i:=11) ?_
  try simp only [Act.put,qq]
  refine tq (i:=12) ?_
  try simp only [Act.put,qq]
  refine tq (i:=13) ?_
  try simp only [Act.put,qq]
  refine tq (i:=14) ?_
  try simp only [Act.put,qq]
  refine tq (i:=15) ?_
  try simp only [Act.put,qq]
  refine tq (i:=16) ?_
  try simp only [Act.put,qq]
  refine tq (i:=17) ?_
  try simp only [Act.put,qq]
  refine tq (i:=18) ?_
  try simp only [Act.put,qq]
  refine tq (i:=19) ?_
  try simp only [Act.put,qq]
  refine tq (i:=20) ?_
  try simp only [Act.put,qq]
  refine tq (i:=21) ?_
  try simp only [Act.put,qq]
  refine tq (i:=22) ?_
  try simp only [Act.put,qq]
  refine wpAnyH_take (i:=23) (v:=.int .i64 (min 8 (ln:Int))) rfl (by kernel_rfl) (by kernel_rfl) (by kernel_rfl) (fun _ _ _ h=>h) (Or.inl ⟨by rfl,?_⟩) (by assumption) ?_
  ·(intro w hSw; (try dsimp only at hSw); (try go_split_ands); go_simp; try first | omega | assumption)
  try simp only [Act.put,qq]
  refine tq (i:=24) ?_
  try simp only [Act.put,qq]
  refine tq (i:=25) ?_
  try simp only [Act.put,qq]
  refine tq (i:=26) ?_
  try simp only [Act.put,qq]
  refine tu (i:=27) ?_
  try simp only [Act.put,qq]
  refine tu (i:=28) ?_
  try simp only [Act.put,qq]
  refine tu (i:=29) ?_
  try simp only [Act.put,qq]
  refine tu (i:=30) ?_
  try simp only [Act.put,qq]
  refine tu (i:=31) ?_
  try simp only [Act.put,qq]
  refine tq (i:=32) ?_
  try simp only [Act.put,qq]
  refine tq (i:=33) ?_
  try simp only [Act.put,qq]
  refine tu (i:=34) ?_
  try simp only [Act.put,qq]
  refine tu (i:=35) ?_
  try simp only [Act.put,qq]
  refine tu (i:=36) ?_
  try simp only [Act.put,qq]
  refine tu (i:=37) ?_
  try simp only [Act.put,qq]
  refine tu (i:=38) ?_
  try simp only [Act.put,qq]
  refine tu (i:=39) ?_
  try simp only [Act.put,qq]
  refine tu (i:=40) ?_
  try simp only [Act.put,qq]
  refine tq (i:=41) ?_
  try simp only [Act.put,qq]
  refine tq (i:=42) ?_
  try simp only [Act.put,qq]
  refine wpAnyH_done (by kernel_rfl) ?_ _
  go_wp2_with fail
  go_ret
  exact ⟨by rw [d24.out,dm.out]; rfl,hg1.out⟩
 have qm1:(m≤min 8 (ln:Int))=True:=eq_true hm1
 have dm:Hid (decide (0≤m∧m≤8∧m≤(ln:Int))=true):=qd (decide_eq_true (by omega))
 clear hm0 hm1
 cases NB with
 | false =>
  clear HY2
  go_enter Tryz.func103,Tryz.ntmps103
  go_wp2_with fail
  refine wp_region_held_drew (S:=fun V=>V.cell? ⟨b,off+2,none⟩=some (.int .i64 m)∧V.cell? ⟨b,off+4,none⟩=some (.slice pn ln cn)∧V.cell? ⟨b,off+6,none⟩=some (.slice pk lk ck)) (by kernel_rfl) (hC.out _ (hbd hR)) (fun hHeld=>?_)
  refine tq (i:=0) ?_
  try simp only [Act.put,qq]
  refine qU (i:=1) (by kernel_rfl) rfl (fun K hK=>?_)
  refine qO (by rfl) 64 Tryz.f64 Tryz.func64 (by kernel_rfl) (by kernel_rfl) _ _ rfl _ (by first | (simp [Act.eval]; done) | (simp [Act.eval]; rfl)) _ (HK.out _ (hbd hR)) ?_
  rintro _ w1 ⟨rfl,hg1⟩;refine hK.out _ _ (hC.out _ hg1) (fun hHeld=>?_)
  clear hK K
  try simp only [Act.put,qq]
  refine tq (i:=2) ?_
  try simp only [Act.put,qq]
  refine tq (i:=3) ?_
  try simp only [Act.put,qq]
  refine tq (i:=4) ?_
  try simp only [Act.put,qq]
  refine tq (i:=5) ?_
  try simp only [Act.put,qq]
  refine tq (i:=6) ?_
  try simp only [Act.put,qq]
  refine tq (i:=7) ?_
  try simp only [Act.put,qq]
  refine tq (i:=8) ?_
  try simp only [Act.put,qq]
  refine tq (i:=9) ?_
  try simp only [Act.put,qq]
  refine tq (i:=10) ?_
  try simp only [Act.put,qq]
  refine tq (i:=11) ?_
  try simp only [Act.put,qq]
  refine tq (i:=12) ?_
  try simp only [Act.put,qq]
  refine tq (i:=13) ?_
  try simp only [Act.put,qq]
  refine tq (i:=14) ?_
  try simp only [Act.put,qq]
  refine tq (i:=15) ?_
  try simp only [Act.put,qq]
  refine tq (i:=16) ?_
  try simp only [Act.put,qq]
  refine tq (i:=17) ?_
  try simp only [Act.put,qq]
  refine tq (i:=18) ?_
  try simp only [Act.put,qq]
  refine tq (i:=19) ?_
  try simp only [Act.put,qq]
  refine tq (i:=20) ?_
  try simp only [Act.put,qq]
  refine tq (i:=21) ?_
  try simp only [Act.put,qq]
  refine tq (i:=22) ?_
  try simp only [Act.put,qq]
  refine wpAnyH_take (i:=23) (v:=.int .i64 (min 8 (ln:Int))) rfl (by kernel_rfl) (by kernel_rfl) (by kernel_rfl) (fun _ _ _ h=>h) (Or.inl ⟨by rfl,?_⟩) (by assumption) ?_
  ·(intro w hSw; (try dsimp only at hSw); (try go_split_ands); go_simp; try first | omega | assumption)
  try simp only [Act.put,qq]
  refine tq (i:=24) ?_
  try simp only [Act.put,qq]
  refine tq (i:=25) ?_
  try simp only [Act.put,qq]
  refine tq (i:=26) ?_
  try simp only [Act.put,qq]
  refine tq (i:=27) ?_
  try simp only [Act.put,qq]
  refine tq (i:=28) ?_
  try simp only [Act.put,qq]
  refine tq (i:=29) ?_
  try simp only [Act.put,qq]
  refine tq (i:=30) ?_
  try simp only [Act.put,qq]
  refine qU (i:=31) (by kernel_rfl) rfl (fun K hK=>?_)
  refine qO (by rfl) 36 Tryz.f36 Tryz.func36 (by kernel_rfl) (by kernel_rfl) _ _ rfl _ (by first | (simp [Act.eval]; done) | (simp [Act.eval]; rfl)) _ (HM.out _ hg1) ?_
  rintro _ w2 ⟨rfl,hg2⟩;refine hK.out _ _ (hC.out _ hg2) (fun hHeld=>?_)
  clear hK K
  try simp only [Act.put,qq]
  refine tq (i:=32) ?_
  try simp only [Act.put,qq]
  refine tq (i:=33) ?_
  try simp only [Act.put,qq]
  refine tu (i:=34) ?_
  try simp only [Act.put,qq]
  refine tu (i:=35) ?_
  try simp only [Act.put,qq]
  refine tu (i:=36) ?_
  try simp only [Act.put,qq]
  refine tu (i:=37) ?_
  try simp only [Act.put,qq]
  refine tu (i:=38) ?_
  try simp only [Act.put,qq]
  refine tu (i:=39) ?_
  try simp only [Act.put,qq]
  refine tu (i:=40) ?_
  try simp only [Act.put,qq]
  refine tq (i:=41) ?_
  try simp only [Act.put,qq]
  refine tq (i:=42) ?_
  try simp only [Act.put,qq]
  refine wpAnyH_done (by kernel_rfl) ?_ _
  go_wp2_with fail
  go_ret
  exact ⟨by rw [d24.out,dm.out]; rfl,hg2.out⟩
 | true =>
  go_enter Tryz.func103,Tryz.ntmps103
  go_wp2_with fail
  refine wp_region_held_drew (S:=fun V=>V.cell? ⟨b,off+2,none⟩=some (.int .i64 m)∧V.cell? ⟨b,off+4,none⟩=some (.slice pn ln cn)∧V.cell? ⟨b,off+6,none⟩=some (.slice pk lk ck)) (by kernel_rfl) (hC.out _ (hbd hR)) (fun hHeld=>?_)
  refine tq (i:=0) ?_
  try simp only [Act.put,qq]
  refine qU (i:=1) (by kernel_rfl) rfl (fun K hK=>?_)
  refine qO (by rfl) 64 Tryz.f64 Tryz.func64 (by kernel_rfl) (by kernel_rfl) _ _ rfl _ (by first | (simp [Act.eval]; done) | (simp [Act.eval]; rfl)) _ (HK.out _ (hbd hR)) ?_
  rintro _ w1 ⟨rfl,hg1⟩;refine hK.out _ _ (hC.out _ hg1) (fun hHeld=>?_)
  clear hK K
  try simp only [Act.put,qq]
  refine tq (i:=2) ?_
  try simp only [Act.put,qq]
  refine tq (i:=3) ?_
  try simp only [Act.put,qq]
  refine tq (i:=4) ?_
  try simp only [Act.put,qq]
  refine tq (i:=5) ?_
  try simp only [Act.put,qq]
  refine tq (i:=6) ?_
  try simp only [Act.put,qq]
  refine tq (i:=7) ?_
  try simp only [Act.put,qq]
  refine tq (i:=8) ?_
  try simp only [Act.put,qq]
  refine tq (i:=9) ?_
  try simp only [Act.put,qq]
  refine tq (i:=10) ?_
  try simp only [Act.put,qq]
  refine tq (i:=11) ?_
  try simp only [Act.put,qq]
  refine tq (i:=12) ?_
  try simp only [Act.put,qq]
  refine tq (i:=13) ?_
  try simp only [Act.put,qq]
  refine tq (i:=14) ?_
  try simp only [Act.put,qq]
  refine tq (i:=15) ?_
  try simp only [Act.put,qq]
  refine tq (i:=16) ?_
  try simp only [Act.put,qq]
  refine tq (i:=17) ?_
  try simp only [Act.put,qq]
  refine tq (i:=18) ?_
  try simp only [Act.put,qq]
  refine tq (i:=19) ?_
  try simp only [Act.put,qq]
  refine tq (i:=20) ?_
  try simp only [Act.put,qq]
  refine tq (i:=21) ?_
  try simp only [Act.put,qq]
  refine tq (i:=22) ?_
  try simp only [Act.put,qq]
  refine wpAnyH_take (i:=23) (v:=.int .i64 (min 8 (ln:Int))) rfl (by kernel_rfl) (by kernel_rfl) (by kernel_rfl) (fun _ _ _ h=>h) (Or.inl ⟨by rfl,?_⟩) (by assumption) ?_
  ·(intro w hSw; (try dsimp only at hSw); (try go_split_ands); go_simp; try first | omega | assumption)
  try simp only [Act.put,qq]
  refine tq (i:=24) ?_
  try simp only [Act.put,qq]
  refine tq (i:=25) ?_
  try simp only [Act.put,qq]
  refine tq (i:=26) ?_
  try simp only [Act.put,qq]
  refine tq (i:=27) ?_
  try simp only [Act.put,qq]
  refine tq (i:=28) ?_
  try simp only [Act.put,qq]
  refine tq (i:=29) ?_
  try simp only [Act.put,qq]
  refine tq (i:=30) ?_
  try simp only [Act.put,qq]
  refine qU (i:=31) (by kernel_rfl) rfl (fun K hK=>?_)
  refine qO (by rfl) 36 Tryz.f36 Tryz.func36 (by kernel_rfl) (by kernel_rfl) _ _ rfl _ (by first | (simp [Act.eval]; done) | (simp [Act.eval]; rfl)) _ (HM.out _ hg1) ?_
  rintro _ w2 ⟨rfl,hg2⟩;refine hK.out _ _ (hC.out _ hg2) (fun hHeld=>?_)
  clear hK K
  try simp only [Act.put,qq]
  refine tq (i:=32) ?_
  try simp only [Act.put,qq]
  refine tq (i:=33) ?_
  try simp only [Act.put,qq]
  refine tq (i:=34) ?_
  try simp only [Act.put,qq]
  refine tq (i:=35) ?_
  try simp only [Act.put,qq]
  refine tq (i:=36) ?_
  try simp only [Act.put,qq]
  refine tq (i:=37) ?_
  try simp only [Act.put,qq]
  refine tq (i:=38) ?_
  try simp only [Act.put,qq]
  refine tq (i:=39) ?_
  try simp only [Act.put,qq]
  refine qU (i:=40) (by kernel_rfl) rfl (fun K hK=>?_)
  refine qO (by rfl) 37 Tryz.f37 Tryz.func37 (by kernel_rfl) (by kernel_rfl) _ _ rfl _ (by first | (simp [Act.eval]; done) | (simp [Act.eval]; rfl)) _ (HY2.out _ hg2) ?_
  rintro _ w3 ⟨rfl,hg3⟩;refine hK.out _ _ (hC.out _ hg3) (fun hHeld=>?_)
  clear hK K
  try simp only [Act.put,qq]
  refine tq (i:=41) ?_
  try simp only [Act.put,qq]
  refine tq (i:=42) ?_
  try simp only [Act.put,qq]
  refine wpAnyH_done (by kernel_rfl) ?_ _
  go_wp2_with fail
  go_ret
  exact ⟨by rw [d24.out,dm.out]; rfl,hg3.out⟩
theorem RdN.tail {w:World} {kb ko n c:Nat} {l:List Nt} (h:RdN w (.slice (some ⟨kb,ko,none⟩) n c) l) (h0:0 < l.length):RdN w (.slice (some ⟨kb,ko+7,none⟩) (l.length - 1) (c - 1)) l.tail:=by
 obtain ⟨p',c',kb',ko',e,h1,h2,hp,hs⟩:=h
 injection e with e1 e2 e3
 have hp':=hp h0
 rw [← e1] at hp'
 injection hp' with hp'
 injection hp' with q1 q2
 subst q1; subst q2
 refine ⟨_,_,kb,ko+7,by rw [List.length_tail],by rw [List.length_tail]; omega,by rw [List.length_tail]; omega,fun _=>rfl,?_⟩
 have:=hs.drop 1
 simpa using this
def RI (k:Nat) (w:World) (e:Ending) (w':World):Prop:=e=.returned (.int .i64 k)∧Hid (Bl w w')
theorem ri_of {p:Program} {f:Nat} {vs:Array Value} {w V:World} {k:Nat} (hV:Hid (Bl w V)) (h:Calls p f vs V fun e w'=>e=.returned (.int .i64 k)∧Bl V w'):Calls p f vs V (RI k w):=h.mono (fun e w' h=>⟨h.1,qd (hV.out.trans h.2)⟩)
theorem rankS_le (l:Bs):qI l≤4:=by
 unfold qI
 (repeat' split); all_goals omega
theorem getD_tail (l:List Nt) (i:Nat):l.tail.getD i qE=l.getD (i+1) qE:=by
 cases l with
 | nil=>simp
 | cons a r=>simp
theorem isCascade_ok (hT:CT) (n:Nt) (b off o:Nat) (w:World) (ho:o≤24) (hE:Env w) (h:NtM w n b off) (hX:∀ i,i < n.kids.length→CE (n.kids.getD i qE)) (hX2:∀ i j,i < n.kids.length→j < (n.kids.getD i qE).kids.length→CE ((n.kids.getD i qE).kids.getD j qE)) :
  Calls Tryz.prog 102 #[.pointer (some ⟨b,off,none⟩),.int .i64 o] w (RB (zd n 10 && (decide (3≤n.kids.length) && cascB n.kids o)) w):=by
 obtain ⟨sn,sk,hn⟩:=h.nod
 obtain ⟨pk,ck,ek,hck,hk2⟩:=hn.rn.slc
 have HK:=qd (fun V (hV:Hid (Bl w V))=>rh_of hV (jG n b off 10 (by omega) (by omega) V (hE.mono hV.out).knd (h.keep hV.out)))
 have HN:=qd (fun V (bl:Bl w V)=>hn.keep bl)
 have hR:Hid (Bl w w):=qd (Bl.refl _)
 have HK0:=qd (HK.out _ hR)
 subst ek
 cases hKK:zd n 10 with
 | false =>
  rw [hKK] at HK0;clear hT hE h hX hX2 hn HK hKK
  go_enter Tryz.func102,Tryz.ntmps102
  go_wp2_with (go_at_call 64; refine HK0.out.mono ?_; rintro e w1 ⟨rfl,b1⟩)
  go_ret
  exact ⟨rfl,b1.out⟩
 | true =>
 rw [hKK] at HK0
 by_cases h3:3≤n.kids.length
 rotate_left
 ·have d3:=qd (decide_eq_false h3)
  have q3:(n.kids.length:Int) < 3:=by omega
  generalize n.kids.length=lk at *;clear hT hE h hX hX2 hn HK hKK h3
  go_enter Tryz.func102,Tryz.ntmps102
  go_wp2_with (go_at_call 64; refine HK0.out.mono ?_; rintro e w1 ⟨rfl,b1⟩; have c6:=(HN.out _ b1.out).c6)
  go_ret
  exact ⟨by rw [d3.out]; rfl,b1.out⟩
 have d3:=decide_eq_true h3
 obtain ⟨kb,ko,hp,hn0⟩:=hn.rn.at_ 0 (by omega)
 subst hp
 have HT1:=qd (fun V (bl:Bl w V)=>(hn.rn.keep bl).tail (by omega))
 have hX0:=hX 0 (by omega)
 have hcs:=cascB_is n.kids o h3
 have hl:n.kids.tail.length=n.kids.length - 1:=List.length_tail
 obtain ⟨lm,hlm⟩:∃ lm,n.kids.length=lm+1:=⟨n.kids.length - 1,by omega⟩
 have hl2:n.kids.tail.length=lm:=by omega
 have HB:Hid ((true && (decide (3≤n.kids.length) && cascB n.kids o))=(n.kids.tail.all (fun n=>zd n 11 && msgB n.text n.kids o) && recvB (n.kids.getD 0 qE) (qI (n.kids.getD 1 qE).text) o)):=qd (by rw [d3,hcs,msgsB_all]; rfl)
 have HA:=qd (all_getD qE (fun n=>zd n 11 && msgB n.text n.kids o) n.kids.tail)
 have HBd:=qd (all_bad qE (fun n=>zd n 11 && msgB n.text n.kids o) n.kids.tail)
 have hX3:∀ i,i < lm→∀ j,j < (n.kids.tail.getD i qE).kids.length→CE ((n.kids.tail.getD i qE).kids.getD j qE):=fun i hi j hj=>by
  rw [getD_tail] at hj ⊢;exact hX2 (i+1) j (by omega) hj
 have HRc:Hid (∀ V,Hid (Bl w V)→Calls Tryz.prog 100 #[.pointer (some ⟨kb,ko,none⟩),.int .i64 (qI (n.kids.getD 1 qE).text:Nat),.int .i64 o] V (RH (recvB (n.kids.getD 0 qE) (qI (n.kids.getD 1 qE).text) o) w)):=qd (fun V hV=>rh_of hV (isReceiver_ok _ hX0 kb ko _ o V ho (rankS_le _) (hE.mono hV.out) (by have:=hn0.keep hV.out; rwa [show ko+0 * 7=ko by omega] at this)))
 obtain ⟨_,_,hnd1⟩:=(((hn.rn).tail (by omega)).at_ 0 (by omega))
 obtain ⟨hpe,hnd1⟩:=hnd1
 injection hpe with hpe
 injection hpe with hp1 hp2
 subst hp1; subst hp2
 rw [getD_tail] at hnd1
 obtain ⟨sn1,sk1,nd1⟩:=hnd1.nod
 have hsz:(ba (n.kids.getD 1 qE).text).size=(n.kids.getD 1 qE).text.length:=by rw [← qo,qJ]
 have HRk:=qd (fun V (hV:Hid (Bl w V))=>ri_of hV (jK (ba (n.kids.getD 1 qE).text) V (by have:=nd1.t; rw [show (0+1)=1 from rfl] at this; omega)))
 rw [qJ] at HRk
 have hC3:Hid (∀ V,Hid (Bl w V)→V.cell? ⟨b,off+6,none⟩=some (.slice (some ⟨kb,ko,none⟩) (lm+1) ck)∧V.cell? ⟨kb,ko+7+1,none⟩=some (.string (ba (n.kids.getD 1 qE).text))):=qd (fun V hV=>by
  refine ⟨by rw [(hn.keep hV.out).c6,hlm],?_⟩
  have:=(nd1.keep hV.out).c1
  rwa [show ko+7+0 * 7+1=ko+7+1 by omega] at this)
 have HEn:=qd (fun V (bl:Bl w V)=>hE.mono bl)
 generalize hms:n.kids.tail=ms at *
 generalize (true && (decide (3≤n.kids.length) && cascB n.kids o))=BB at *
 generalize recvB (n.kids.getD 0 qE) (qI (n.kids.getD 1 qE).text) o=RC at *
 generalize qI (n.kids.getD 1 qE).text=rk at *
 generalize (n.kids.getD 1 qE).text=tx at *
 generalize n.kids.length=lk at *
 subst hlm
 have hck2:lm+1≤ck:=hck
 have e1:lm+1 - 1=lm:=rfl
 rw [e1] at HT1
 have h3':¬ ((lm:Int)+1 < 3):=by omega
 have i1:(1:Int)≤(lm:Int)+1:=by omega
 have HL:=qd hl2
 have hX3':=qd hX3
 rw [hl2] at HA HBd
 clear hE h hX hX2 hn HK hKK hn0 hX0 hcs hnd1 nd1 hsz hms hl hX3 h3 d3 hl2
 go_enter Tryz.func102,Tryz.ntmps102
 go_wp2_with (go_at_call 64; refine HK0.out.mono ?_; rintro e w0 ⟨rfl,b0⟩; have c6:=(HN.out _ b0.out).c6)
 go_loopw [26] (fun q wr=>∃ i:Nat,i≤lm∧q=.int .i64 i∧Hid (∀ j,j < i→(zd (ms.getD j qE) 11 && msgB (ms.getD j qE).text (ms.getD j qE).kids o)=true)∧Hid (Bl w wr)) (fun q _=>lm - (intOf q).toNat)
 case atStart=>exact ⟨0,Nat.zero_le _,rfl,(fun j hj=>by omega),b0⟩
 case round =>
  obtain ⟨i,hi,rfl,hok,hbl⟩:=hrel
  by_cases hin:i < lm
  rotate_left
  ·have hie:¬ (i:Int) < lm:=by omega
   have eB:Hid (BB=RC):=qd (by rw [HB.out,HA.out.2 fun j hj=>hok.out j (by omega)]; rfl)
   have hR3:=hbl;have i0:(0:Int) < (lm:Int)+1:=by omega
   have i00:(0:Int) < (lm:Int):=by omega
   have i000:0 < lm:=by omega
   clear HA HBd HT1 HN hX3' HEn HB hok HK0
   go_wp2_with fail
   refine wp_region_held_drew (S:=fun V=>V.cell? ⟨b,off+6,none⟩=some (.slice (some ⟨kb,ko,none⟩) (lm+1) ck)∧V.cell? ⟨kb,ko+7+1,none⟩=some (.string (ba tx))) (by kernel_rfl) (hC3.out _ (hbd hR3)) (fun hHeld=>?_)
   refine tq (i:=0) ?_
   try simp only [Act.put,qq]
   refine tq (i:=1) ?_
   try simp only [Act.put,qq]
   refine tq (i:=2) ?_
   try simp only [Act.put,qq]
   refine tq (i:=3) ?_
   try simp only [Act.put,qq]
   refine tq (i:=4) ?_
   try simp only [Act.put,qq]
   refine tq (i:=5) ?_
   try simp only [Act.put,qq]
   refine tq (i:=6) ?_
   try simp only [Act.put,qq]
   refine tq (i:=7) ?_
   try simp only [Act.put,qq]
   refine tq (i:=8) ?_
   try simp only [Act.put,qq]
   refine tq (i:=10) ?_
   try simp only [Act.put,qq]
   refine qU (i:=9) (by kernel_rfl) rfl (fun K hK=>?_)
   refine qO (by rfl) 101 Tryz.f101 Tryz.func101 (by kernel_rfl) (by kernel_rfl) _ _ rfl _ (by first | (simp [Act.eval]; done) | (simp [Act.eval]; rfl)) _ (HRk.out _ (hbd hR3)) ?_
   rintro _ w1 ⟨rfl,hg1⟩;refine hK.out _ _ (hC3.out _ hg1) (fun hHeld=>?_)
   clear hK K
   try simp only [Act.put,qq]
   refine qU (i:=11) (by kernel_rfl) rfl (fun K hK=>?_)
   refine qO (by rfl) 100 Tryz.f100 Tryz.func100 (by kernel_rfl) (by kernel_rfl) _ _ rfl _ (by first | (simp [Act.eval]; done) | (simp [Act.eval]; rfl)) _ (HRc.out _ hg1) ?_
   rintro _ w2 ⟨rfl,hg2⟩;refine hK.out _ _ (hC3.out _ hg2) (fun hHeld=>?_)
   clear hK K
   try simp only [Act.put,qq]
   refine tq (i:=12) ?_
   try simp only [Act.put,qq]
   refine wpAnyH_done (by kernel_rfl) ?_ _
   go_wp2_with fail
   go_ret
   exact ⟨by rw [eB.out]; rfl,hg2.out⟩
  have hii:(i:Int) < lm:=by omega
  obtain ⟨_,_,hpe,hnd⟩:=(HT1.out _ hbl.out).at_ i (by rw [HL.out]; exact hin)
  injection hpe with hpe
  injection hpe with hp1 hp2
  subst hp1; subst hp2;obtain ⟨sn2,sk2,nd⟩:=hnd.nod;have hXi:=hX3'.out i hin;have hJ:Hid (∀ B,(zd (ms.getD i qE) 11 && msgB (ms.getD i qE).text (ms.getD i qE).kids o)=B→(B=true→∀ j,j < i+1→(zd (ms.getD j qE) 11 && msgB (ms.getD j qE).text (ms.getD j qE).kids o)=true)∧(B=false→BB=false)):=qd (fun B hB=>⟨fun h j hj=>by
   by_cases he:j=i
   ·rw [he,hB,h]
   ·exact hok.out j (by omega),fun h=>by rw [HB.out,HBd.out i hin (by rw [hB,h])]; rfl⟩)
  have hJ2:=qd (hJ.out _ rfl);generalize ms.getD i qE=d at *;have hC2:Hid (∀ V,Hid (Bl wr V)→V.cell? ⟨kb,ko+7+i * 7+1,none⟩=some (.string (ba d.text))∧V.cell? ⟨kb,ko+7+i * 7+6,none⟩=some sk2):=qd (fun V hV=>⟨(nd.keep hV.out).c1,(nd.keep hV.out).c6⟩)
  have HKi:=qd (fun V (hV:Hid (Bl wr V))=>rh_of hV (jG d kb _ 11 (by omega) (by omega) V (HEn.out _ (hbl.out.trans hV.out)).knd (hnd.keep hV.out)))
  have HMi:=qd (fun V (hV:Hid (Bl wr V))=>rh_of hV (isMessage_ok hT d.text sk2 d.kids o V ho nd.t (HEn.out _ (hbl.out.trans hV.out)) (nd.rn.keep hV.out) hXi))
  have hR2:Hid (Bl wr wr):=qd (Bl.refl _);generalize msgB d.text d.kids o=MM at *;generalize zd d 11=KK at *;clear hJ HA HBd HT1 HN hX3' HEn HB hok HK0 hXi hnd nd HRc HRk hC3
  cases KK with
  | false =>
   go_wp2_with fail
   refine wp_region_held_drew (S:=fun V=>V.cell? ⟨kb,ko+7+i * 7+1,none⟩=some (.string (ba d.text))∧V.cell? ⟨kb,ko+7+i * 7+6,none⟩=some sk2) (by kernel_rfl) (hC2.out _ (hbd hR2)) (fun hHeld=>?_)
   refine tq (i:=0) ?_
   try simp only [Act.put,qq]
   refine qU (i:=1) (by kernel_rfl) rfl (fun K hK=>?_)
   refine qO (by rfl) 64 Tryz.f64 Tryz.func64 (by kernel_rfl) (by kernel_rfl) _ _ rfl _ (by first | (simp [Act.eval]; done) | (simp [Act.eval]; rfl)) _ (HKi.out _ (hbd hR2)) ?_
   rintro _ w1 ⟨rfl,hg1⟩;refine hK.out _ _ (hC2.out _ hg1) (fun hHeld=>?_)
   clear hK K
   try simp only [Act.put,qq]
   refine tq (i:=2) ?_
   try simp only [Act.put,qq]
   refine tq (i:=3) ?_
   try simp only [Act.put,qq]
   refine tu (i:=4) ?_
   try simp only [Act.put,qq]
   refine tu (i:=5) ?_
   try simp only [Act.put,qq]
   refine tu (i:=6) ?_
   try simp only [Act.put,qq]
   refine tu (i:=7) ?_
   try simp only [Act.put,qq]
   refine tu (i:=8) ?_
   try simp only [Act.put,qq]
   refine tu (i:=9) ?_
   try simp only [Act.put,qq]
   refine tu (i:=10) ?_
   try simp only [Act.put,qq]
   refine tu (i:=11) ?_
   try simp only [Act.put,qq]
   refine tu (i:=12) ?_
   try simp only [Act.put,qq]
   refine tu (i:=13) ?_
   try simp only [Act.put,qq]
   refine tu (i:=14) ?_
   try simp only [Act.put,qq]
   refine tq (i:=15) ?_
   try simp only [Act.put,qq]
   refine wpAnyH_done (by kernel_rfl) ?_ _
   go_wp2_with fail
   go_ret
   exact ⟨by rw [hJ2.out.2 rfl]; rfl,hbl.out.trans hg1.out⟩
  | true =>
   cases MM with
   | false =>
    go_wp2_with fail
    refine wp_region_held_drew (S:=fun V=>V.cell? ⟨kb,ko+7+i * 7+1,none⟩=some (.string (ba d.text))∧V.cell? ⟨kb,ko+7+i * 7+6,none⟩=some sk2) (by kernel_rfl) (hC2.out _ (hbd hR2)) (fun hHeld=>?_)
    refine tq (i:=0) ?_
    try simp only [Act.put,qq]
    refine qU (i:=1) (by kernel_rfl) rfl (fun K hK=>?_)
    refine qO (by rfl) 64 Tryz.f64 Tryz.func64 (by kernel_rfl) (by kernel_rfl) _ _ rfl _ (by first | (simp [Act.eval]; done) | (simp [Act.eval]; rfl)) _ (HKi.out _ (hbd hR2)) ?_
    rintro _ w1 ⟨rfl,hg1⟩;refine hK.out _ _ (hC2.out _ hg1) (fun hHeld=>?_)
    clear hK K
    try simp only [Act.put,qq]
    refine tq (i:=2) ?_
    try simp only [Act.put,qq]
    refine tq (i:=3) ?_
    try simp only [Act.put,qq]
    refine tq (i:=4) ?_
    try simp only [Act.put,qq]
    refine tq (i:=5) ?_
    try simp only [Act.put,qq]
    refine tq (i:=6) ?_
    try simp only [Act.put,qq]
    refine tq (i:=7) ?_
    try simp only [Act.put,qq]
    refine tq (i:=8) ?_
    try simp only [Act.put,qq]
    refine tq (i:=9) ?_
    try simp only [Act.put,qq]
    refine tq (i:=10) ?_
    try simp only [Act.put,qq]
    refine tq (i:=11) ?_
    try simp only [Act.put,qq]
    refine tq (i:=12) ?_
    try simp only [Act.put,qq]
    refine qU (i:=13) (by kernel_rfl) rfl (fun K hK=>?_)
    refine qO (by rfl) 99 Tryz.f99 Tryz.func99 (by kernel_rfl) (by kernel_rfl) _ _ rfl _ (by first | (simp [Act.eval]; done) | (simp [Act.eval]; rfl)) _ (HMi.out _ hg1) ?_
    rintro _ w2 ⟨rfl,hg2⟩;refine hK.out _ _ (hC2.out _ hg2) (fun hHeld=>?_)
    clear hK K
    try simp only [Act.put,qq]
    refine tq (i:=14) ?_
    try simp only [Act.put,qq]
    refine tq (i:=15) ?_
    try simp only [Act.put,qq]
    refine wpAnyH_done (by kernel_rfl) ?_ _
    go_wp2_with fail
    go_ret
    exact ⟨by rw [hJ2.out.2 rfl]; rfl,hbl.out.trans hg2.out⟩
   | true =>
    go_wp2_with fail
    refine wp_region_held_drew (S:=fun V=>V.cell? ⟨kb,ko+7+i * 7+1,none⟩=some (.string (ba d.text))∧V.cell? ⟨kb,ko+7+i * 7+6,none⟩=some sk2) (by kernel_rfl) (hC2.out _ (hbd hR2)) (fun hHeld=>?_)
    refine tq (i:=0) ?_
    try simp only [Act.put,qq]
    refine qU (i:=1) (by kernel_rfl) rfl (fun K hK=>?_)
    refine qO (by rfl) 64 Tryz.f64 Tryz.func64 (by kernel_rfl) (by kernel_rfl) _ _ rfl _ (by first | (simp [Act.eval]; done) | (simp [Act.eval]; rfl)) _ (HKi.out _ (hbd hR2)) ?_
    rintro _ w1 ⟨rfl,hg1⟩;refine hK.out _ _ (hC2.out _ hg1) (fun hHeld=>?_)
    clear hK K
    try simp only [Act.put,qq]
    refine tq (i:=2) ?_
    try simp only [Act.put,qq]
    refine tq (i:=3) ?_
    try simp only [Act.put,qq]
    refine tq (i:=4) ?_
    try simp only [Act.put,qq]
    refine tq (i:=5) ?_
    try simp only [Act.put,qq]
    refine tq (i:=6) ?_
    try simp only [Act.put,qq]
    refine tq (i:=7) ?_
    try simp only [Act.put,qq]
    refine tq (i:=8) ?_
    try simp only [Act.put,qq]
    refine tq (i:=9) ?_
    try simp only [Act.put,qq]
    refine tq (i:=10) ?_
    try simp only [Act.put,qq]
    refine tq (i:=11) ?_
    try simp only [Act.put,qq]
    refine tq (i:=12) ?_
    try simp only [Act.put,qq]
    refine qU (i:=13) (by kernel_rfl) rfl (fun K hK=>?_)
    refine qO (by rfl) 99 Tryz.f99 Tryz.func99 (by kernel_rfl) (by kernel_rfl) _ _ rfl _ (by first | (simp [Act.eval]; done) | (simp [Act.eval]; rfl)) _ (HMi.out _ hg1) ?_
    rintro _ w2 ⟨rfl,hg2⟩;refine hK.out _ _ (hC2.out _ hg2) (fun hHeld=>?_)
    clear hK K
    try simp only [Act.put,qq]
    refine tq (i:=14) ?_
    try simp only [Act.put,qq]
    refine tq (i:=15) ?_
    try simp only [Act.put,qq]
    refine wpAnyH_done (by kernel_rfl) ?_ _
    go_wp2_with fail
    go_roundw
    case rel=>exact ⟨i+1,by omega,by go_num,hJ2.out.1 rfl,qd (hbl.out.trans hg2.out)⟩
    case measure=>simp [intOf]; omega
end Go.Proofs.YtfhkhmgodkheaaaGreatDoor
