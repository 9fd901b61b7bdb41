import Derived.Test.YtfhkhmgodkheaaaGreatDoorQCG05PAhead
import Derived.Test.YtfhkhmgodkheaaaGreatDoorQCG07PTree
import Derived.Test.YtfhkhmgodkheaaaGreatDoorQCG02LRes
import Derived.Test.YtfhkhmgodkheaaaGreatDoorQCG01LSym
import Derived.Shelf.Strings.Builder1
import Derived.Shelf.Strings.Builder2
import Derived.Shelf.Strings.BuilderK
set_option linter.unusedSimpArgs false
set_option linter.unusedVariables false
set_option maxRecDepth 1000000
set_option maxHeartbeats 16000000
namespace Go.Proofs.YtfhkhmgodkheaaaGreatDoor
open Go.RowKit Go.Maps
def RdS (w:World) (v:Value) (l:List Bs):Prop:=∃ p c,v=.slice p l.length c∧l.length≤c∧(0 < l.length→∃ b off,p=some ⟨b,off,none⟩∧b < w.heap.size∧∀ j,j < l.length→w.cell? ⟨b,off+j,none⟩=some (.string (ba (l.getD j []))))
theorem RdS.keep {w w':World} {v:Value} {l:List Bs} (h:RdS w v l) (b:Bl w w'):RdS w' v l:=by
 obtain ⟨p,c,e,hc,hp⟩:=h
 refine ⟨p,c,e,hc,fun h0=>?_⟩
 obtain ⟨g,off,e1,hg,hcs⟩:=hp h0
 exact ⟨g,off,e1,Nat.lt_of_lt_of_le hg b.size,fun j hj=>by rw [World.cell?_of_block (w:=w) (b.block g hg)]; exact hcs j hj⟩
mutual
inductive NtM (w:World):Nt→Nat→Nat→Prop
 | mk {k:Int} {t:Bs} {m:Int} {ns:List Bs} {ks:List Nt} {b off:Nat} {sn:Value} {p:Option Addr} {c kb ko:Nat} (hb:b < w.heap.size)
   (h0:w.cell? ⟨b,off,none⟩=some (.int .i64 k)) (h1:w.cell? ⟨b,off+1,none⟩=some (.string (ba t))) (h2:w.cell? ⟨b,off+2,none⟩=some (.int .i64 m))
   (h4:w.cell? ⟨b,off+4,none⟩=some sn) (h6:w.cell? ⟨b,off+6,none⟩=some (.slice p ks.length c)) (ht:t.length≤268435456) (hn:ns.length≤268435456) (hk:ks.length≤268435456)
   (hc:ks.length≤c) (hs:RdS w sn ns) (hp:0 < ks.length→p=some ⟨kb,ko,none⟩) (hks:NtsM w ks kb ko):NtM w (.mk k t m ns ks) b off
inductive NtsM (w:World):List Nt→Nat→Nat→Prop
 | nil {b off:Nat}:NtsM w [] b off
 | cons {n:Nt} {r:List Nt} {b off:Nat} (h1:NtM w n b off) (h2:NtsM w r b (off+7)):NtsM w (n :: r) b off
end
mutual
theorem NtM.keep {w w':World} {n:Nt} {b off:Nat} (h:NtM w n b off) (bl:Bl w w'):NtM w' n b off:=by
 cases h with
 | mk hb h0 h1 h2 h4 h6 ht hn hk hc hs hp hks =>
  have e:∀ i,w'.cell? ⟨b,i,none⟩=w.cell? ⟨b,i,none⟩:=fun i=>World.cell?_of_block (w:=w) (bl.block b hb)
  exact .mk (Nat.lt_of_lt_of_le hb bl.size) (by rw [e]; exact h0) (by rw [e]; exact h1) (by rw [e]; exact h2) (by rw [e]; exact h4) (by rw [e]; exact h6) ht hn hk hc (hs.keep bl) hp (NtsM.keep hks bl)
theorem NtsM.keep {w w':World} {ns:List Nt} {b off:Nat} (h:NtsM w ns b off) (bl:Bl w w'):NtsM w' ns b off:=by
 cases h with
 | nil=>exact .nil
 | cons h1 h2=>exact .cons (NtM.keep h1 bl) (NtsM.keep h2 bl)
end
theorem NtsM.get {w:World}:∀ {ns:List Nt} {b off:Nat},NtsM w ns b off→∀ i,i < ns.length→NtM w (ns.getD i qE) b (off+i * 7):=by
 intro ns
 induction ns with
 | nil=>intro b off h i hi; simp at hi
 | cons n r ih =>
  intro b off h i hi
  cases h with
  | cons h1 h2 =>
   cases i with
   | zero=>simpa using h1
   | succ i =>
    have:=ih h2 i (by simpa using hi)
    rw [show off+7+i * 7=off+(i+1) * 7 by omega] at this
    simpa using this
theorem NtsM.drop {w:World}:∀ (i:Nat) {ns:List Nt} {b off:Nat},NtsM w ns b off→NtsM w (ns.drop i) b (off+i * 7):=by
 intro i
 induction i with
 | zero=>intro ns b off h; simpa using h
 | succ i ih =>
  intro ns b off h
  cases h with
  | nil=>simpa using NtsM.nil
  | cons h1 h2 =>
   have:=ih h2;rw [show off+7+i * 7=off+(i+1) * 7 by omega] at this
   simpa using this
def RdN (w:World) (v:Value) (l:List Nt):Prop:=∃ p c kb ko,v=.slice p l.length c∧l.length≤c∧l.length≤268435456∧(0 < l.length→p=some ⟨kb,ko,none⟩)∧NtsM w l kb ko
theorem RdN.keep {w w':World} {v:Value} {l:List Nt} (h:RdN w v l) (b:Bl w w'):RdN w' v l:=by
 obtain ⟨p,c,kb,ko,h1,h2,h3,h4,h5⟩:=h
 exact ⟨p,c,kb,ko,h1,h2,h3,h4,h5.keep b⟩
structure Nod (w:World) (n:Nt) (b off:Nat) (sn sk:Value):Prop where
 lt:b < w.heap.size
 c0:w.cell? ⟨b,off,none⟩=some (.int .i64 n.kind)
 c1:w.cell? ⟨b,off+1,none⟩=some (.string (ba n.text))
 c2:w.cell? ⟨b,off+2,none⟩=some (.int .i64 n.num)
 c4:w.cell? ⟨b,off+4,none⟩=some sn
 c6:w.cell? ⟨b,off+6,none⟩=some sk
 t:n.text.length≤268435456
 nl:n.names.length≤268435456
 rs:RdS w sn n.names
 rn:RdN w sk n.kids
theorem NtM.nod {w:World} {n:Nt} {b off:Nat} (h:NtM w n b off):∃ sn sk,Nod w n b off sn sk:=by
 cases h with
 | mk hb h0 h1 h2 h4 h6 ht hn hk hc hs hp hks=>exact ⟨_,_,hb,h0,h1,h2,h4,h6,ht,hn,hs,⟨_,_,_,_,rfl,hc,hk,hp,hks⟩⟩
theorem Nod.keep {w w':World} {n:Nt} {b off:Nat} {sn sk:Value} (h:Nod w n b off sn sk) (bl:Bl w w'):Nod w' n b off sn sk:=by
 have e:∀ i,w'.cell? ⟨b,i,none⟩=w.cell? ⟨b,i,none⟩:=fun i=>World.cell?_of_block (w:=w) (bl.block b h.lt)
 exact ⟨Nat.lt_of_lt_of_le h.lt bl.size,by rw [e]; exact h.c0,by rw [e]; exact h.c1,by rw [e]; exact h.c2,by rw [e]; exact h.c4,by rw [e]; exact h.c6,h.t,h.nl,h.rs.keep bl,h.rn.keep bl⟩
def sizN:Nt→Nat
 | .mk _ _ _ _ ks=>1+sizL ks
where sizL:List Nt→Nat
 | []=>0
 | n :: r=>sizN n+sizL r
theorem sizN_pos (n:Nt):0 < sizN n:=by cases n; simp [sizN]; omega
theorem sizL_getD:∀ (l:List Nt) (i:Nat),i < l.length→sizN (l.getD i qE)≤sizN.sizL l:=by
 intro l
 induction l with
 | nil=>intro i h; simp at h
 | cons n r ih =>
  intro i h
  cases i with
  | zero=>simp [sizN.sizL]
  | succ i=>have:=ih i (by simpa using h); simp [sizN.sizL] at this ⊢; omega
theorem sizN_kids (n:Nt):sizN n=1+sizN.sizL n.kids:=by cases n; simp [sizN,Nt.kids]
theorem siz_kid (n:Nt) (i:Nat) (h:i < n.kids.length):sizN (n.kids.getD i qE) < sizN n:=by
 have:=sizL_getD n.kids i h
 rw [sizN_kids n]; omega
def kndC:List Bool:=[false,false,false,false,  false,true,false,false,  true,false,false,false,  true,false,false,false,  false,false,false,true,  true,false,false,false,  true,false,false,false,  false,false,false,false,  true,false,false,true,  true,false,false,true,  false,false,false,true,  true,false,false,true,  false,true,true,true,  false,false,false,true]
structure Knd (w:World):Prop where
 one:1 < w.heap.size
 at_:∀ i v,kndC[i]?=some v→w.cell? ⟨1,i,none⟩=some (.bool v)
theorem Knd.mono {w w':World} (h:Knd w) (b:Bl w w'):Knd w' where
 one:=Nat.lt_of_lt_of_le h.one b.size
 at_:=fun i v hv=>by rw [World.cell?_of_block (w:=w) (b.block 1 h.one)]; exact h.at_ i v hv
theorem Knd.row {w:World} (h:Knd w) (k:Nat) (hk:k≤13):(1≤k→w.cell? ⟨1,k * 4,none⟩=some (.bool (hasT k))∧w.cell? ⟨1,k * 4+1,none⟩=some (.bool (hasN k))∧w.cell? ⟨1,k * 4+2,none⟩=some (.bool (hasM k))∧w.cell? ⟨1,k * 4+3,none⟩=some (.bool (hasK k))):=by
 intro h1
 have:k=1∨k=2∨k=3∨k=4∨k=5∨k=6∨k=7∨k=8∨k=9∨k=10∨k=11∨k=12∨k=13:=by omega
 rcases this with rfl | rfl | rfl | rfl | rfl | rfl | rfl | rfl | rfl | rfl | rfl | rfl | rfl <;> exact ⟨h.at_ _ _ rfl,h.at_ _ _ rfl,h.at_ _ _ rfl,h.at_ _ _ rfl⟩
def zR (k:Int) (x:Bs) (m:Int):Prop:=(k≠4→m=0)∧((k=1∨k=2)∧nameB x=true∨k=3∧opB x=true∨k=4∧x=[]∧0≤m∧m≤1073741824∨k=5∧symB x=true∨k=6∨7≤k∧k≤18∧x=[])
instance (k:Int) (x:Bs) (m:Int):Decidable (zR k x m):=by unfold zR; infer_instance
theorem canBe_ok (k:Int) (s:ByteArray) (m a:Int) (w:World) (hs:s.size≤140737488355328):Calls Tryz.prog 169 #[.agg #[.int .i64 k,.string s,.int .i64 m,.int .i64 a]] w fun e w'=>e=.returned (.bool (decide (zR k (lst s) m)))∧Bl w w':=by
 have HN:=qd (fun W=>isName_ok s W hs)
 have HO:=qd (fun W=>isOp_ok s W hs)
 have HS:=qd (fun W=>isSym_ok s W hs)
 by_cases h4:k=4
 ·have b4:(k == 4)=true:=by simpa using h4
  have n4:(k != 4)=false:=by simpa using h4
  have b1:(k == 1)=false:=by simp; omega
  have b2:(k == 2)=false:=by simp; omega
  have b3:(k == 3)=false:=by simp; omega
  have c1:¬ k=1:=by omega
  have c2:¬ k=2:=by omega
  have c3:¬ k=3:=by omega
  by_cases h0:s.size=0
  ·have hE:s.toList.isEmpty=true:=jE h0
   have hx:lst s=[]:=lst_nil.2 h0
   by_cases hm:0≤m
   ·by_cases hm2:m≤1073741824
    ·have d1:decide (m≤1073741824)=true:=decide_eq_true hm2
     have e:decide (zR k (lst s) m)=true:=decide_eq_true (by unfold zR; simp [hx]; omega)
     rw [e];clear e
     go_enter Tryz.func169,Tryz.ntmps169
     go_wp2
     go_ret
     exact ⟨rfl,Bl.alloc _ _⟩
    ·have d1:decide (m≤1073741824)=false:=decide_eq_false hm2
     have e:decide (zR k (lst s) m)=false:=decide_eq_false (fun h=>by unfold zR at h; first | omega | (simp [hx] at h; omega) | (simp [hx] at h))
     rw [e];clear e
     go_enter Tryz.func169,Tryz.ntmps169
     go_wp2
     go_ret
     exact ⟨rfl,Bl.alloc _ _⟩
   ·have d1:decide (0≤m)=false:=decide_eq_false hm
    have e:decide (zR k (lst s) m)=false:=decide_eq_false (fun h=>by unfold zR at h; first | omega | (simp [hx] at h; omega) | (simp [hx] at h))
    rw [e];clear e
    go_enter Tryz.func169,Tryz.ntmps169
    go_wp2
    go_ret
    exact ⟨rfl,Bl.alloc _ _⟩
  ·have hE:s.toList.isEmpty=false:=ja h0
   have hx:¬ lst s=[]:=fun h=>h0 (lst_nil.1 h)
   have e:decide (zR k (lst s) m)=false:=decide_eq_false (fun h=>by unfold zR at h; first | omega | (simp [hx] at h; omega) | (simp [hx] at h))
   rw [e];clear e
   go_enter Tryz.func169,Tryz.ntmps169
   go_wp2
   go_ret
   exact ⟨rfl,Bl.alloc _ _⟩
 ·by_cases hm:m=0
  ·subst hm
   by_cases h1:k=1
   ·subst h1
    have e:decide (zR 1 (lst s) 0)=nameB (lst s):=by
     rw [Bool.eq_iff_iff];simp [zR]
    rw [e];clear e
    go_enter Tryz.func169,Tryz.ntmps169
    go_wp2_with (go_at_call 92; refine (HN.out _).mono ?_; rintro e1 w1 ⟨rfl,b1⟩)
    go_ret
    exact ⟨rfl,(Bl.alloc _ _).trans b1⟩
   by_cases h2:k=2
   ·subst h2
    have e:decide (zR 2 (lst s) 0)=nameB (lst s):=by
     rw [Bool.eq_iff_iff];simp [zR]
    rw [e];clear e
    go_enter Tryz.func169,Tryz.ntmps169
    go_wp2_with (go_at_call 92; refine (HN.out _).mono ?_; rintro e1 w1 ⟨rfl,b1⟩)
    go_ret
    exact ⟨rfl,(Bl.alloc _ _).trans b1⟩
   by_cases h3:k=3
   ·subst h3
    have e:decide (zR 3 (lst s) 0)=opB (lst s):=by
     rw [Bool.eq_iff_iff];simp [zR]
    rw [e];clear e
    go_enter Tryz.func169,Tryz.ntmps169
    go_wp2_with (go_at_call 95; refine (HO.out _).mono ?_; rintro e1 w1 ⟨rfl,rfl⟩)
    go_ret
    exact ⟨rfl,Bl.alloc _ _⟩
   by_cases h5:k=5
   ·subst h5
    have e:decide (zR 5 (lst s) 0)=symB (lst s):=by
     rw [Bool.eq_iff_iff];simp [zR]
    rw [e];clear e
    go_enter Tryz.func169,Tryz.ntmps169
    go_wp2_with (go_at_call 181; refine (HS.out _).mono ?_; rintro e1 w1 ⟨rfl,b1⟩)
    go_ret
    exact ⟨rfl,(Bl.alloc _ _).trans b1⟩
   by_cases h6:k=6
   ·subst h6
    have e:decide (zR 6 (lst s) 0)=true:=by simp [zR]
    rw [e];clear e
    go_enter Tryz.func169,Tryz.ntmps169
    go_wp2
    go_ret
    exact ⟨rfl,Bl.alloc _ _⟩
   by_cases h0:s.size=0
   ·have hE:s.toList.isEmpty=true:=jE h0
    have hx:lst s=[]:=lst_nil.2 h0
    by_cases h7:7≤k
    ·by_cases h8:k≤18
     ·have d1:decide (k≤18)=true:=decide_eq_true h8
      have d2:decide (7≤k)=true:=decide_eq_true h7;have e:decide (zR k (lst s) 0)=true:=decide_eq_true (by unfold zR; simp [hx]; omega)
      rw [e];clear e
      go_enter Tryz.func169,Tryz.ntmps169
      go_wp2
      go_ret
      exact ⟨rfl,Bl.alloc _ _⟩
     ·have d1:decide (k≤18)=false:=decide_eq_false h8
      have d2:decide (7≤k)=true:=decide_eq_true h7;have e:decide (zR k (lst s) 0)=false:=decide_eq_false (fun h=>by unfold zR at h; first | omega | (simp [hx] at h; omega) | (simp [hx] at h))
      rw [e];clear e
      go_enter Tryz.func169,Tryz.ntmps169
      go_wp2
      go_ret
      exact ⟨rfl,Bl.alloc _ _⟩
    ·have d2:decide (7≤k)=false:=decide_eq_false h7
     have e:decide (zR k (lst s) 0)=false:=decide_eq_false (fun h=>by unfold zR at h; first | omega | (simp [hx] at h; omega) | (simp [hx] at h))
     rw [e];clear e
     go_enter Tryz.func169,Tryz.ntmps169
     go_wp2
     go_ret
     exact ⟨rfl,Bl.alloc _ _⟩
   ·have hE:s.toList.isEmpty=false:=ja h0
    have hx:¬ lst s=[]:=fun h=>h0 (lst_nil.1 h)
    have e:decide (zR k (lst s) 0)=false:=decide_eq_false (fun h=>by unfold zR at h; first | omega | (simp [hx] at h; omega) | (simp [hx] at h))
    rw [e];clear e
    go_enter Tryz.func169,Tryz.ntmps169
    go_wp2
    go_ret
    exact ⟨rfl,Bl.alloc _ _⟩
  ·have n4:(k != 4)=true:=by simpa using h4
   have nm:(m != 0)=true:=by simpa using hm
   have e:decide (zR k (lst s) m)=false:=decide_eq_false (fun h=>hm (h.1 h4))
   rw [e];clear e
   go_enter Tryz.func169,Tryz.ntmps169
   go_wp2
   go_ret
   exact ⟨rfl,Bl.alloc _ _⟩
end Go.Proofs.YtfhkhmgodkheaaaGreatDoor
namespace Go.Proofs.YtfhkhmgodkheaaaGreatDoor
open Go Go.Shelf Go.RowKit
theorem bl166:Lays.n166 Tryz.prog Tryz.lays155_ren:={ Tryz.lays155 with }
theorem bl169:Lays.n169 Tryz.prog Tryz.lays155_ren:={ Tryz.lays155 with }
def ren167:Go.Shelf.Ren:=⟨fun | 167=>170 | n=>Tryz.lays155_ren.f n,Tryz.lays155_ren.t,Tryz.lays155_ren.g⟩
theorem bl167:Lays.n167 Tryz.prog ren167:={
 mixed:=Tryz.lays155.mixed
 f167:=Tryz.func170.trans (congrArg some (by kernel_rfl))
 f240:=Tryz.func130.trans (congrArg some (by kernel_rfl))
 f276:=Tryz.func146.trans (congrArg some (by kernel_rfl))
 t0:=Tryz.lays155.t0,a0:=Tryz.lays155.a0,z0:=Tryz.lays155.z0,v0:=Tryz.lays155.v0
 t4:=Tryz.lays155.t4,a4:=Tryz.lays155.a4,z4:=Tryz.lays155.z4,v4:=Tryz.lays155.v4
 t5:=Tryz.underlying5,a5:=Tryz.isAgg5,z5:=Tryz.sizeOf5,v5:=Tryz.zeroValue5
 t9:=Tryz.lays155.t9,a9:=Tryz.lays155.a9,z9:=Tryz.lays155.z9,v9:=Tryz.lays155.v9
 t20:=Tryz.lays155.t20,a20:=Tryz.lays155.a20,z20:=Tryz.lays155.z20,v20:=Tryz.lays155.v20
 t37:=Tryz.lays155.t37,a37:=Tryz.lays155.a37,z37:=Tryz.lays155.z37,v37:=Tryz.lays155.v37
 t70:=Tryz.lays155.t70,a70:=Tryz.lays155.a70,z70:=Tryz.lays155.z70,v70:=Tryz.lays155.v70
 t72:=Tryz.lays155.t72,a72:=Tryz.lays155.a72,z72:=Tryz.lays155.z72,v72:=Tryz.lays155.v72
 t75:=Tryz.lays155.t75,a75:=Tryz.lays155.a75,z75:=Tryz.lays155.z75,v75:=Tryz.lays155.v75
 t164:=Tryz.lays155.t164,a164:=Tryz.lays155.a164,z164:=Tryz.lays155.z164,v164:=Tryz.lays155.v164 }
theorem ex167:Builder.Extra Tryz.prog ren167:={
 sizeBuilder:=by kernel_rfl
 liesBuilder:=by kernel_rfl
 t5:=Tryz.underlying5
 a5:=Tryz.isAgg5
 z5:=Tryz.sizeOf5
 v5:=Tryz.zeroValue5
 infoByte:=by kernel_rfl
 cellsByte:=by kernel_rfl
 sizeByte:=by kernel_rfl
 neB5:=by decide }
theorem WriteByte_k (B b:Nat) (bs:List Value) (c:Int) (w:World) (h:Lib.IsBuilderF 86 5 B b bs w) (hlen:bs.length+1≤140737488355328) (hBw:B≤w.heap.size) :
  Calls Tryz.prog 170 #[.pointer (some ⟨b,0,none⟩),.int .u8 c] w fun e w'=>e=.returned .nilIface∧(Lib.BuilderAtF 86 5 B b (.pointer (some ⟨b,0,none⟩)) (bs++[.int .u8 c]) w'∧Below B w w'∧Lib.OthersKept 5 (some b) w w'):=Any.Builder_WriteByte_k bl167 ex167 B b bs c w h hlen hBw
theorem WriteString_k (B b:Nat) (bs:List Value) (s:ByteArray) (w:World) (h:Lib.IsBuilderF 86 5 B b bs w) (hlen:bs.length+s.size≤140737488355328) (hBw:B≤w.heap.size) :
  Calls Tryz.prog 108 #[.pointer (some ⟨b,0,none⟩),.string s] w fun e w'=>e=.returned (.tuple #[.int .i64 s.size,.nilIface])∧(Lib.BuilderAtF 86 5 B b (.pointer (some ⟨b,0,none⟩)) (bs++Lib.strCells s) w'∧Below B w w'∧Lib.OthersKept 5 (some b) w w'):=Any.Builder_WriteString_k bl166 Tryz.Builder_Extra_155 B b bs s w h hlen hBw
theorem String_k (B b:Nat) (l:List UInt8) (w:World) (h:Lib.IsBuilderF 86 5 B b (Lib.byteCells l) w) (hBw:B≤w.heap.size) :
  Calls Tryz.prog 40 #[.pointer (some ⟨b,0,none⟩)] w fun e w'=>e=.returned (.string ⟨l.toArray⟩)∧(Lib.IsBuilderF 86 5 B b (Lib.byteCells l) w'∧Below B w w'∧Lib.OthersKept 5 (some b) w w'):=Any.Builder_String_any_k bl169 Tryz.Builder_Extra_155 B b l w h hBw
end Go.Proofs.YtfhkhmgodkheaaaGreatDoor
namespace Go.Proofs.YtfhkhmgodkheaaaGreatDoor
open Go.RowKit Go.Maps
abbrev Z:=Int × Bs × Int × Int
def noZ:Z:=(0,[],0,0)
def jk (z:Z):Tok:=⟨z.1.toNat,z.2.1,z.2.2.1.toNat⟩
def RdZ (w:World) (g off:Nat) (zs:List Z):Prop:=g < w.heap.size∧∀ j,j < zs.length →
  w.cell? ⟨g,off+j * 4,none⟩=some (.int .i64 (zs.getD j noZ).1)∧w.cell? ⟨g,off+j * 4+1,none⟩=some (.string (ba (zs.getD j noZ).2.1)) ∧
  w.cell? ⟨g,off+j * 4+2,none⟩=some (.int .i64 (zs.getD j noZ).2.2.1)∧w.cell? ⟨g,off+j * 4+3,none⟩=some (.int .i64 (zs.getD j noZ).2.2.2)
theorem RdZ.keep {w w':World} {g off:Nat} {zs:List Z} (h:RdZ w g off zs) (b:Bl w w'):RdZ w' g off zs:=by
 have e:∀ i,w'.cell? ⟨g,i,none⟩=w.cell? ⟨g,i,none⟩:=fun i=>World.cell?_of_block (w:=w) (b.block g h.1)
 exact ⟨Nat.lt_of_lt_of_le h.1 b.size,fun j hj=>by rw [e,e,e,e]; exact h.2 j hj⟩
def okAt (zs:List Z) (i:Nat):Prop:=zR (zs.getD i noZ).1 (zs.getD i noZ).2.1 (zs.getD i noZ).2.2.1∧((zs.getD i noZ).1=18 ↔ i+1=zs.length)
theorem tok_can {z:Z} (h:zR z.1 z.2.1 z.2.2.1) (h18:z.1≠18):canB (jk z)∧((jk z).kind:Int)=z.1∧((jk z).num:Int)=z.2.2.1∧(jk z).text=z.2.1:=by
 obtain ⟨k,x,m,a⟩:=z
 obtain ⟨h0,h⟩:=h
 simp only at h0 h h18
 have hk:0≤k:=by omega
 have hm:0≤m:=by
  by_cases h4:k=4
  ·omega
  ·rw [h0 h4]; omega
 have e1:((jk (k,x,m,a)).kind:Int)=k:=by show ((k.toNat:Nat):Int)=k; omega
 have e2:((jk (k,x,m,a)).num:Int)=m:=by show ((m.toNat:Nat):Int)=m; omega
 refine ⟨⟨fun h4=>?_,?_⟩,e1,e2,rfl⟩
 ·have:k≠4:=fun e=>h4 (by omega)
  have:=h0 this;omega
 ·have e3:(jk (k,x,m,a)).text=x:=rfl
  rw [e3]
  rcases h with ⟨h1 | h1,h2⟩ | ⟨h1,h2⟩ | ⟨h1,h2,h3⟩ | ⟨h1,h2⟩ | h1 | ⟨h1,h2,h3⟩
  ·exact Or.inl ⟨Or.inl (by omega),h2⟩
  ·exact Or.inl ⟨Or.inr (by omega),h2⟩
  ·exact Or.inr (Or.inl ⟨by omega,h2⟩)
  ·exact Or.inr (Or.inr (Or.inl ⟨by omega,h2,by omega⟩))
  ·exact Or.inr (Or.inr (Or.inr (Or.inl ⟨by omega,h2⟩)))
  ·exact Or.inr (Or.inr (Or.inr (Or.inr (Or.inl (by omega)))))
  ·exact Or.inr (Or.inr (Or.inr (Or.inr (Or.inr ⟨by omega,by omega,h3⟩))))
theorem pr_snoc:∀ (ts:List Tok) (t:Tok),ts≠[]→pr (ts++[t])=pr ts++32 :: wr t:=by
 intro ts
 induction ts with
 | nil=>intro t h; exact absurd rfl h
 | cons a r ih =>
  intro t _
  cases r with
  | nil=>rfl
  | cons b r =>
   show wr a++32 :: pr ((b :: r)++[t])=(wr a++32 :: pr (b :: r))++32 :: wr t
   rw [ih t (by simp)]
   simp
theorem own_congrF {w w':World} {base:Nat} {v:Value} {n:Nat} {xs:List Value} (h:w.ownsRowF base 5 1 v n xs) (b:Bl w w'):w'.ownsRowF base 5 1 v n xs:=by
 refine ⟨h.1,?_⟩
 rcases h.2 with h2 | ⟨g,cap,cur,fz,rfl,h1,h2,h3⟩
 ·exact Or.inl h2
 ·exact Or.inr ⟨g,cap,cur,fz,rfl,h1,(b.block g (qf h2)).trans h2,h3⟩
theorem bld_keep {w w':World} {B b:Nat} {bs:List Value} (h:Lib.IsBuilderF 86 5 B b bs w) (k:Bl w w'):Lib.IsBuilderF 86 5 B b bs w':=by
 have key:∀ p,Lib.BuilderAtF 86 5 B b p bs w→Lib.BuilderAtF 86 5 B b p bs w':=fun p ⟨hB,v,hb,ho,hn⟩=>⟨hB,v,(k.block b (qf hb)).trans hb,own_congrF ho k,hn⟩
 rcases h with h | h
 ·exact Or.inl (key _ h)
 ·exact Or.inr (key _ h)
theorem bld_new (w:World):Lib.IsBuilderF 86 5 w.heap.size w.heap.size [] (w.alloc (.cells #[.pointer none,.slice none 0 0] 86)) :=
 Lib.IsBuilderF.of (Or.inl ⟨Nat.le_refl _,.slice none 0 0,heap_alloc_new w _,World.ownsRow_nil _ _ _ _,by simp [Value.ownBlock]⟩)
def prZ (zs:List Z):Bs:=pr ((zs.take (zs.length - 1)).map jk)
def goodZ (zs:List Z):Prop:=∀ i,i < zs.length→okAt zs i
theorem prZ_step {zs:List Z} {i:Nat} (h:i < zs.length):pr ((zs.take (i+1)).map jk)=if i=0 then wr (jk (zs.getD i noZ)) else pr ((zs.take i).map jk)++32 :: wr (jk (zs.getD i noZ)):=by
 have e:zs.take (i+1)=zs.take i++[zs.getD i noZ]:=by
  rw [List.take_succ_eq_append_getElem h,List.getD_eq_getElem?_getD,List.getElem?_eq_getElem h];rfl
 rw [e,List.map_append]
 by_cases hi:i=0
 ·subst hi
  rw [if_pos rfl];rfl
 ·rw [if_neg hi]
  refine pr_snoc _ _ ?_;intro h2;have h3:((zs.take i).map jk).length=0:=by rw [h2]; rfl
  rw [List.length_map,List.length_take] at h3;omega
theorem bytes_app (a b:Bs):Lib.byteCells (a++32 :: b)=Lib.byteCells a++([.int .u8 32]++Lib.byteCells b):=by simp [Lib.byteCells]
theorem print_ok (g off c:Nat) (zs:List Z) (w:World) (hT:Tab w) (hP:Pw w) (hr:RdZ w g off zs) (h0:0 < zs.length) (hn:zs.length≤268435456) (hc:zs.length≤c) (hcm:c≤9223372036854775807)
  (htx:∀ i,i < zs.length→(zs.getD i noZ).2.1.length≤268435456) (hpl:goodZ zs→∀ i,i < zs.length→(pr ((zs.take i).map jk)).length≤1099511627776) :
  Calls Tryz.prog 160 #[.slice (some ⟨g,off,none⟩) zs.length c] w fun e w'=>((goodZ zs∧e=.returned (.tuple #[.string (ba (prZ zs)),.int .i64 0]))∨(¬ goodZ zs∧e=.returned (.tuple #[.string ⟨#[]⟩,.int .i64 1])))∧Bl w w':=by
 obtain ⟨n,hn'⟩:∃ n,zs.length=n:=⟨_,rfl⟩
 have HR:=qd hr
 have HX:=qd htx
 have HL:=qd hpl
 have HC:=qd (fun i (hi:i < zs.length) W=>canBe_ok (zs.getD i noZ).1 (ba (zs.getD i noZ).2.1) (zs.getD i noZ).2.2.1 (zs.getD i noZ).2.2.2 W (by rw [← qo,qJ]; have:=htx i hi; omega))
 simp only [qJ] at HC
 rw [hn'] at h0 hn hc HC HX HL ⊢
 have HN:=qd hn'
 clear hr htx hpl hn'
 have v0:IntKind.i64.wrap ((n:Int) - 1)=(n:Int) - 1:=zP _ (by omega) (by omega)
 have v1:¬ (n:Int) - 1 < 0:=by omega
 have v2:(n:Int) - 1≤c:=by omega
 have v3:(0:Int)≤(n:Int) - 1:=by omega
 have v4:((n:Int) - 1).toNat=n - 1:=by omega
 have HT:=qd hT
 have HP:=qd hP
 clear hT hP
 go_enter Tryz.func160,Tryz.ntmps160
 go_wp2_with fail
 go_loopw [17] (fun q wr=>∃ i:Nat,i≤n∧q=.int .i64 i∧Hid (∀ j,j < i→okAt zs j)∧Hid (Bl w wr)) (fun q _=>n - (intOf q).toNat)
 case atStart=>exact ⟨0,Nat.zero_le _,rfl,(fun j hj=>by omega),Bl.refl _⟩
 case round =>
  obtain ⟨i,hi,rfl,hok,hbl⟩:=hrel
  by_cases hin:i < n
  ·have hii:(i:Int) < n:=by omega
   have r1:=qd (HR.out.keep hbl.out);obtain ⟨x0,x1,x2,x3⟩:=r1.out.2 i (by rw [HN.out]; exact hin)
   have hgl:=r1.out.1;have hcb:=HC.out i hin;have hI:Hid (okAt zs i ↔ (zR (zs.getD i noZ).1 (zs.getD i noZ).2.1 (zs.getD i noZ).2.2.1∧((zs.getD i noZ).1=18 ↔ i+1=n))):=qd (by unfold okAt; rw [HN.out])
   generalize zs.getD i noZ=z at *;obtain ⟨k,x,m,a⟩:=z;dsimp only at *;have HW:Hid (∀ V,Bl (wr.alloc (.cells #[.int .i64 k,.string (ba x),.int .i64 m,.int .i64 a] 54)) V→Bl w V):=qd fun V hV=>(hbl.out.trans (Bl.alloc _ _)).trans hV
   by_cases hcz:zR k x m
   ·have dc:decide (zR k x m)=true:=decide_eq_true hcz
    rw [dc] at hcb;have HB:=qd hcb;have hcz':=qd hcz
    by_cases h18:k=18
    ·by_cases hl:i+1=n
     ·skip
      have b1:(k == 18)=true:=by simpa using h18
      have b2:((i:Int) == (n:Int) - 1)=true:=by simp; omega
      have hl':=qd hl;have h18':=qd h18;clear hcb dc hcz hl h18
      go_wp2_with (go_at_call 169; refine (HB.out _).mono ?_; rintro e w1 ⟨rfl,b9⟩; have hz:=blk_in b9; have c0:w1.cell? ⟨wr.heap.size,0,none⟩=some (.int .i64 k):=by rw [qh hz]; rfl)
      go_roundw
      case rel=>exact ⟨i+1,by omega,by simp,(fun j hj=>by
       by_cases he:j=i
       ·rw [he]; exact hI.out.2 ⟨hcz'.out,⟨fun _=>hl'.out,fun _=>h18'.out⟩⟩
       ·exact hok.out j (by omega)),HW.out _ b9⟩
      case measure=>simp [intOf]; omega
     ·skip
      have b1:(k == 18)=true:=by simpa using h18
      have b2:((i:Int) == (n:Int) - 1)=false:=by simp; omega
      have hl':=qd hl;have h18':=qd h18;clear hcb dc hcz hl h18
      go_wp2_with (go_at_call 169; refine (HB.out _).mono ?_; rintro e w1 ⟨rfl,b9⟩; have hz:=blk_in b9; have c0:w1.cell? ⟨wr.heap.size,0,none⟩=some (.int .i64 k):=by rw [qh hz]; rfl)
      go_ret2
      exact ⟨Or.inr ⟨fun h=>hl'.out ((hI.out.1 (h i (by rw [HN.out]; exact hin))).2.1 h18'.out),rfl⟩,HW.out _ b9⟩
    ·by_cases hl:i+1=n
     ·skip
      have b1:(k == 18)=false:=by simpa using h18
      have b2:((i:Int) == (n:Int) - 1)=true:=by simp; omega
      have hl':=qd hl;have h18':=qd h18;clear hcb dc hcz hl h18
      go_wp2_with (go_at_call 169; refine (HB.out _).mono ?_; rintro e w1 ⟨rfl,b9⟩; have hz:=blk_in b9; have c0:w1.cell? ⟨wr.heap.size,0,none⟩=some (.int .i64 k):=by rw [qh hz]; rfl)
      go_ret2
      exact ⟨Or.inr ⟨fun h=>h18'.out ((hI.out.1 (h i (by rw [HN.out]; exact hin))).2.2 hl'.out),rfl⟩,HW.out _ b9⟩
     ·skip
      have b1:(k == 18)=false:=by simpa using h18
      have b2:((i:Int) == (n:Int) - 1)=false:=by simp; omega
      have hl':=qd hl;have h18':=qd h18;clear hcb dc hcz hl h18
      go_wp2_with (go_at_call 169; refine (HB.out _).mono ?_; rintro e w1 ⟨rfl,b9⟩; have hz:=blk_in b9; have c0:w1.cell? ⟨wr.heap.size,0,none⟩=some (.int .i64 k):=by rw [qh hz]; rfl)
      go_roundw
      case rel=>exact ⟨i+1,by omega,by simp,(fun j hj=>by
       by_cases he:j=i
       ·rw [he]; exact hI.out.2 ⟨hcz'.out,⟨fun h=>absurd h h18'.out,fun h=>absurd h hl'.out⟩⟩
       ·exact hok.out j (by omega)),HW.out _ b9⟩
      case measure=>simp [intOf]; omega
   ·have dc:decide (zR k x m)=false:=decide_eq_false hcz
    rw [dc] at hcb;have HB:=qd hcb;have hcz':=qd hcz;clear hcb dc hcz
    go_wp2_with (go_at_call 169; refine (HB.out _).mono ?_; rintro e w1 ⟨rfl,b9⟩; have hz:=blk_in b9; have c0:w1.cell? ⟨wr.heap.size,0,none⟩=some (.int .i64 k):=by rw [qh hz]; rfl)
    go_ret2
    exact ⟨Or.inr ⟨fun h=>hcz'.out (hI.out.1 (h i (by rw [HN.out]; exact hin))).1,rfl⟩,HW.out _ b9⟩
  ·have hie:¬ (i:Int) < n:=by omega
   have hgood:Hid (goodZ zs):=qd fun j hj=>hok.out j (by rw [HN.out] at hj; omega)
   obtain ⟨W1,hW1⟩:∃ W1,W1=wr:=⟨_,rfl⟩;subst hW1;have HB1:=qd hbl.out;clear HC hok hbl
   go_wp2_with fail
   go_loopw [39] (fun q V=>∃ i:Nat,i≤n - 1∧q=.int .i64 i∧Hid (Lib.IsBuilderF 86 5 W1.heap.size W1.heap.size (Lib.byteCells (pr ((zs.take i).map jk))) V∧Bl W1 V)) (fun q _=>n - 1 - (intOf q).toNat)
   case atStart=>exact ⟨0,Nat.zero_le _,rfl,bld_new _,Bl.alloc _ _⟩
   case round =>
    obtain ⟨i,hi,rfl,hq'⟩:=hrel;obtain ⟨wr0,hwr0⟩:∃ wr0,wr0=wr:=⟨_,rfl⟩;subst hwr0;have hq:=hq'.out;have hbW:W1.heap.size < wr0.heap.size:=by
     obtain ⟨p,hB,v,hb,_⟩:∃ p,Lib.BuilderAtF 86 5 W1.heap.size W1.heap.size p (Lib.byteCells (pr ((zs.take i).map jk))) wr0:=by
      rcases hq.1 with h | h
      ·exact ⟨_,h⟩
      ·exact ⟨_,h⟩
     exact qf hb
    have r1:=qd (HR.out.keep (HB1.out.trans hq.2))
    by_cases hin2:i < n - 1
    ·have hii:(i:Int) < ((n - 1:Nat):Int):=by omega
     have hii2:(i:Int) < (n:Int) - 1:=by omega
     by_cases hi0:i=0
     ·skip
      obtain ⟨x0,x1,x2,x3⟩:=r1.out.2 i (by rw [HN.out]; omega)
      have hgl:=r1.out.1;obtain ⟨hcz,h18'⟩:=hgood.out i (by rw [HN.out]; omega)
      have h18:(zs.getD i noZ).1≠18:=fun h=>by have:=h18'.1 h; rw [HN.out] at this; omega
      have hst:=prZ_step (zs:=zs) (i:=i) (by rw [HN.out]; omega)
      have hl1:=HL.out hgood.out i (by omega)
      have hl2:=HL.out hgood.out (i+1) (by omega)
      have htx:=HX.out i (by omega)
      obtain ⟨tc1,tc2,tc3,tc4⟩:=tok_can hcz h18;generalize zs.getD i noZ=z at *;obtain ⟨k,x,m,a⟩:=z;obtain ⟨t,ht⟩:∃ t,t=jk (k,x,m,a):=⟨_,rfl⟩;rw [← ht] at tc1 tc2 tc3 tc4 hst;dsimp only at *;have HWr:Hid (∀ V,Bl W1 V→Calls Tryz.prog 171 #[.agg #[.int .i64 k,.string (ba x),.int .i64 m,.int .i64 a]] V fun e w'=>e=.returned (.string (ba (wr t)))∧Bl V w'):=qd fun V hV=>by
       have:=written_ok t a V (HT.out.mono (HB1.out.trans hV)) (HP.out.mono (HB1.out.trans hV)) tc1 (by rw [tc4]; exact htx)
       rw [tc2,tc3,tc4] at this;exact this
      have hws:(ba (wr t)).size=(wr t).length:=by rw [← qo,qJ]
      have hsc:Lib.strCells (ba (wr t))=Lib.byteCells (wr t):=by unfold Lib.strCells Lib.byteCells; rw [show (ba (wr t)).data.toList=wr t from qJ _]
      have hbc:(Lib.byteCells (pr ((zs.take i).map jk))).length=(pr ((zs.take i).map jk)).length:=Lib.byteCells_length _;rw [if_pos hi0] at hst;rw [hst] at hl2;have hi0i:¬ (0:Int) < i:=by omega
      have hpe:Lib.byteCells (pr ((zs.take i).map jk))=[]:=by rw [hi0]; rfl
      have HST:=qd hst;have HI0:=qd hi0;clear hcz h18' h18 tc1 tc2 tc3 tc4 ht hst hi0
      go_wp2_with (first
       | (go_at_call 171; refine (HWr.out _ (hq.2.trans (Bl.alloc _ _))).mono ?_; rintro e w2 ⟨rfl,b2⟩)
       | (go_at_call 108; refine (WriteString_k W1.heap.size W1.heap.size _ (ba (wr t)) _ (bld_keep hq.1 ((Bl.alloc _ _).trans b2)) (by rw [hbc,hws]; omega) ((hq.2.trans (Bl.alloc _ _)).trans b2).size).mono ?_; rintro e w3 ⟨rfl,q1,q2,q3⟩))
      go_roundw
      case rel=>exact ⟨i+1,by omega,by simp,(by rw [hpe,List.nil_append,hsc] at q1; rw [HST.out]; exact Or.inr q1),Below.trans ((hq.2.trans (Bl.alloc _ _)).trans b2) q2⟩
      case measure=>simp [intOf]; omega
     ·skip
      obtain ⟨x0,x1,x2,x3⟩:=r1.out.2 i (by rw [HN.out]; omega)
      have hgl:=r1.out.1;obtain ⟨hcz,h18'⟩:=hgood.out i (by rw [HN.out]; omega)
      have h18:(zs.getD i noZ).1≠18:=fun h=>by have:=h18'.1 h; rw [HN.out] at this; omega
      have hst:=prZ_step (zs:=zs) (i:=i) (by rw [HN.out]; omega)
      have hl1:=HL.out hgood.out i (by omega)
      have hl2:=HL.out hgood.out (i+1) (by omega)
      have htx:=HX.out i (by omega)
      obtain ⟨tc1,tc2,tc3,tc4⟩:=tok_can hcz h18;generalize zs.getD i noZ=z at *;obtain ⟨k,x,m,a⟩:=z;obtain ⟨t,ht⟩:∃ t,t=jk (k,x,m,a):=⟨_,rfl⟩;rw [← ht] at tc1 tc2 tc3 tc4 hst;dsimp only at *;have HWr:Hid (∀ V,Bl W1 V→Calls Tryz.prog 171 #[.agg #[.int .i64 k,.string (ba x),.int .i64 m,.int .i64 a]] V fun e w'=>e=.returned (.string (ba (wr t)))∧Bl V w'):=qd fun V hV=>by
       have:=written_ok t a V (HT.out.mono (HB1.out.trans hV)) (HP.out.mono (HB1.out.trans hV)) tc1 (by rw [tc4]; exact htx)
       rw [tc2,tc3,tc4] at this;exact this
      have hws:(ba (wr t)).size=(wr t).length:=by rw [← qo,qJ]
      have hsc:Lib.strCells (ba (wr t))=Lib.byteCells (wr t):=by unfold Lib.strCells Lib.byteCells; rw [show (ba (wr t)).data.toList=wr t from qJ _]
      have hbc:(Lib.byteCells (pr ((zs.take i).map jk))).length=(pr ((zs.take i).map jk)).length:=Lib.byteCells_length _;rw [if_neg hi0] at hst;rw [hst] at hl2;have hi0i:(0:Int) < i:=by omega
      have hwl:(wr t).length≤1099511627776:=by rw [List.length_append,List.length_cons] at hl2; omega
      have HST:=qd hst;clear hcz h18' h18 tc1 tc2 tc3 tc4 ht hst hi0
      go_wp2_with (first
       | (
        go_at_call 170; refine (WriteByte_k W1.heap.size W1.heap.size _ 32 _ (bld_keep hq.1 (Bl.alloc _ _)) (by rw [hbc]; omega) (hq.2.trans (Bl.alloc _ _)).size).mono ?_; rintro e w1 ⟨rfl,p1,p2,p3⟩
        have bw1:Bl W1 w1:=Below.trans (hq.2.trans (Bl.alloc _ _)) p2;have hz:=p3 wr0.heap.size _ (heap_alloc_new wr0 _) (by have:=hbW; intro e; injection e with e; omega) (by intro c fz h; injection h with h1 h2; cases h2)
        have d0:w1.cell? ⟨wr0.heap.size,0,none⟩=some (.int .i64 k):=by rw [qh hz]; rfl
        have d1:w1.cell? ⟨wr0.heap.size,1,none⟩=some (.string (ba x)):=by rw [qh hz]; rfl
        have d2:w1.cell? ⟨wr0.heap.size,2,none⟩=some (.int .i64 m):=by rw [qh hz]; rfl
        have d3:w1.cell? ⟨wr0.heap.size,3,none⟩=some (.int .i64 a):=by rw [qh hz]; rfl)
       | (go_at_call 171; refine (HWr.out _ bw1).mono ?_; rintro e w2 ⟨rfl,b2⟩)
       | (go_at_call 108; refine (WriteString_k W1.heap.size W1.heap.size _ (ba (wr t)) _ (bld_keep (Or.inr p1) b2) (by rw [List.length_append,hbc,hws]; show _+1+_≤_; omega) (bw1.trans b2).size).mono ?_; rintro e w3 ⟨rfl,q1,q2,q3⟩))
      go_roundw
      case rel=>exact ⟨i+1,by omega,by simp,(by rw [hsc,List.append_assoc] at q1; rw [HST.out,bytes_app]; exact Or.inr q1),Below.trans (bw1.trans b2) q2⟩
      case measure=>simp [intOf]; omega
    ·have hii:¬ (i:Int) < ((n - 1:Nat):Int):=by omega
     have hii2:¬ (i:Int) < (n:Int) - 1:=by omega
     have hie2:Hid (pr ((zs.take i).map jk)=prZ zs):=qd (by unfold prZ; rw [HN.out,show i=n - 1 by omega])
     have hq1:=qd hq.1;have hq2:=qd hq.2;rw [hie2.out] at hq1;clear hq hq' hie2
     go_wp2_with (go_at_call 40; refine (String_k W1.heap.size W1.heap.size (prZ zs) _ hq1.out hq2.out.size).mono ?_; rintro e w2 ⟨rfl,p1,p2,p3⟩)
     go_ret2
     exact ⟨Or.inl ⟨hgood.out,rfl⟩,HB1.out.trans (Below.trans hq2.out p2)⟩
structure Env (w:World):Prop where
 tab:Tab w
 pw:Pw w
 knd:Knd w
theorem Env.mono {w w':World} (h:Env w) (b:Bl w w'):Env w':=⟨h.tab.mono b,h.pw.mono b,h.knd.mono b⟩
def twoZ (k:Nat) (t:Bs):List Z:=[((k:Int),t,0,0),(18,[],0,0)]
theorem two_good (k:Nat) (t:Bs) (hk:k≠18):goodZ (twoZ k t) ↔ zR k t 0:=by
 unfold goodZ twoZ okAt
 constructor
 ·intro h
  simpa using (h 0 (by simp)).1
 ·intro h i hi
  have:i=0∨i=1:=by simp at hi; omega
  rcases this with rfl | rfl
  ·refine ⟨by simpa using h,?_⟩
   simp
   omega
  ·refine ⟨?_,by simp⟩
   simp [zR]
theorem two_pr (k:Nat) (t:Bs):prZ (twoZ k t)=wr ⟨k,t,0⟩:=by
 unfold prZ twoZ
 simp [pr,jk]
theorem wr56_len (k:Nat) (t:Bs) (hk:k=5∨k=6):(wr ⟨k,t,0⟩).length≤2 * t.length+12:=by
 have hq:=qt_len t
 rcases hk with rfl | rfl
 ·show (35 :: t).length≤_
  simp
  omega
 ·show (39 :: (qt t++[39])).length≤_
  simp
  omega
def twoC (k:Nat) (t:Bs):Array Value:=#[.int .i64 k,.string (ba t),.int .i64 0,.int .i64 0,.int .i64 18,.string ⟨#[]⟩,.int .i64 0,.int .i64 0]
theorem two_rd (X:World) (k:Nat) (t:Bs):RdZ (X.alloc (.cells (twoC k t) 54)) X.heap.size 0 (twoZ k t):=by
 refine ⟨by simp,fun j hj=>?_⟩
 have hg:=heap_alloc_new X (.cells (twoC k t) 54)
 have:j=0∨j=1:=by simp [twoZ] at hj; omega
 rcases this with rfl | rfl
 ·refine ⟨?_,?_,?_,?_⟩ <;> (rw [qh hg]; rfl)
 ·refine ⟨?_,?_,?_,?_⟩ <;> (rw [qh hg]; rfl)
theorem two_pl (k:Nat) (t:Bs) (hk:k=5∨k=6) (ht:t.length≤268435456):∀ i,i < (twoZ k t).length→(pr (((twoZ k t).take i).map jk)).length≤1099511627776:=by
 intro i hi
 have:i=0∨i=1:=by simp [twoZ] at hi; omega
 rcases this with rfl | rfl
 ·simp [pr]
 ·have:=wr56_len k t hk
  simp [twoZ,pr,jk]
  omega
theorem two_print (k:Nat) (t:Bs) (X:World) (hE:Env (X.alloc (.cells (twoC k t) 54))) (hk:k=5∨k=6) (ht:t.length≤268435456):Calls Tryz.prog 160 #[.slice (some ⟨X.heap.size,0,none⟩) 2 2] (X.alloc (.cells (twoC k t) 54)) fun e w'=>((zR k t 0∧e=.returned (.tuple #[.string (ba (wr ⟨k,t,0⟩)),.int .i64 0]))∨(¬ zR k t 0∧e=.returned (.tuple #[.string ⟨#[]⟩,.int .i64 1])))∧Bl (X.alloc (.cells (twoC k t) 54)) w':=by
 have h:=print_ok X.heap.size 0 2 (twoZ k t) _ hE.tab hE.pw (two_rd X k t) (by simp [twoZ]) (by simp [twoZ]) (by simp [twoZ]) (by omega) (fun i hi=>by
  have:i=0∨i=1:=by simp [twoZ] at hi; omega
  rcases this with rfl | rfl <;> simp [twoZ]
  exact ht) (fun _=>two_pl k t hk ht)
 rw [two_good k t (by omega),two_pr] at h
 exact h
theorem wordOf_ok (k:Nat) (t:Bs) (w:World) (hE:Env w) (hk:k=5∨k=6) (ht:t.length≤268435456):Calls Tryz.prog 145 #[.agg #[.int .i64 k,.string (ba t),.int .i64 0,.int .i64 0]] w fun e w'=>((zR k t 0∧e=.returned (.tuple #[.string (ba (wr ⟨k,t,0⟩)),.int .i64 0]))∨(¬ zR k t 0∧e=.returned (.tuple #[.string ⟨#[]⟩,.int .i64 1])))∧Bl w w':=by
 obtain ⟨W1,hW1⟩:∃ X,w.alloc (.cells #[.int .i64 k,.string (ba t),.int .i64 0,.int .i64 0] 54)=X:=⟨_,rfl⟩
 have b1:Bl w W1:=hW1▸Bl.alloc _ _
 have s1:W1.heap.size=w.heap.size+1:=by rw [← hW1]; simp
 have H:=qd (two_print k t W1 (hE.mono (b1.trans (Bl.alloc _ _))) hk ht)
 rw [s1] at H
 unfold twoC at H
 have B1:=qd (b1.trans (Bl.alloc W1 (.cells #[.int .i64 k,.string (ba t),.int .i64 0,.int .i64 0,.int .i64 18,.string ⟨#[]⟩,.int .i64 0,.int .i64 0] 54)))
 rw [← hW1] at H B1
 generalize zR k t 0=C at *
 clear hk ht hE b1 s1 hW1
 go_enter Tryz.func145,Tryz.ntmps145
 go_wp2_with (go_at_call 160; refine H.out.mono ?_; rintro e w1 ⟨hh,b2⟩; rcases hh with ⟨hc,rfl⟩ | ⟨hc,rfl⟩)
 all_goals go_ret2
 ·exact ⟨Or.inl ⟨hc,rfl⟩,B1.out.trans b2⟩
 ·exact ⟨Or.inr ⟨hc,rfl⟩,B1.out.trans b2⟩
theorem can5 (t:Bs):zR (5:Nat) t 0 ↔ symB t=true:=by simp [zR]
theorem can6 (t:Bs):zR (6:Nat) t 0:=by simp [zR]
theorem isSymbol_ok (t:Bs) (w:World) (hE:Env w) (ht:t.length≤268435456):Calls Tryz.prog 126 #[.string (ba t)] w fun e w'=>e=.returned (.bool (symOk t))∧Bl w w':=by
 have hsz:(ba t).size=t.length:=by rw [← qo,qJ]
 have H:=qd (wordOf_ok 5 t w hE (Or.inl rfl) ht)
 rw [can5] at H
 have hS:Hid (symOk t=(decide (((ba t).size:Int)≤96) && symB t)):=qd (by
  unfold symOk
  congr 1
  rw [Bool.eq_iff_iff];simp;omega)
 generalize symB t=B at *
 generalize symOk t=S at *
 have hl:(((ba t).size:Int)≤96∧Hid (decide (((ba t).size:Int)≤96)=true))∨(¬ ((ba t).size:Int)≤96∧Hid (decide (((ba t).size:Int)≤96)=false)):=by
  by_cases h:((ba t).size:Int)≤96
  ·exact Or.inl ⟨h,qd (decide_eq_true h)⟩
  ·exact Or.inr ⟨h,qd (decide_eq_false h)⟩
 clear hsz ht hE
 cases B with
 | true =>
  rcases hl with ⟨hl,hd⟩ | ⟨hl,hd⟩
  ·go_enter Tryz.func126,Tryz.ntmps126
   go_wp2_with (go_at_call 145; refine H.out.mono ?_; rintro e w1 ⟨hh,b2⟩; rcases hh with ⟨hc,rfl⟩ | ⟨hc,rfl⟩; rotate_left; exact absurd rfl hc)
   go_ret
   exact ⟨by rw [hS.out,hd.out]; rfl,b2⟩
  ·go_enter Tryz.func126,Tryz.ntmps126
   go_wp2_with (go_at_call 145; refine H.out.mono ?_; rintro e w1 ⟨hh,b2⟩; rcases hh with ⟨hc,rfl⟩ | ⟨hc,rfl⟩; rotate_left; exact absurd rfl hc)
   go_ret
   exact ⟨by rw [hS.out,hd.out]; rfl,b2⟩
 | false =>
  rcases hl with ⟨hl,hd⟩ | ⟨hl,hd⟩
  ·go_enter Tryz.func126,Tryz.ntmps126
   go_wp2_with (go_at_call 145; refine H.out.mono ?_; rintro e w1 ⟨hh,b2⟩; rcases hh with ⟨hc,rfl⟩ | ⟨hc,rfl⟩; cases hc)
   go_ret
   exact ⟨by rw [hS.out,hd.out]; rfl,b2⟩
  ·go_enter Tryz.func126,Tryz.ntmps126
   go_wp2_with (go_at_call 145; refine H.out.mono ?_; rintro e w1 ⟨hh,b2⟩; rcases hh with ⟨hc,rfl⟩ | ⟨hc,rfl⟩; cases hc)
   go_ret
   exact ⟨by rw [hS.out,hd.out]; rfl,b2⟩
end Go.Proofs.YtfhkhmgodkheaaaGreatDoor
