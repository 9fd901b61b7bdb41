import Derived.Test.YtfhkhmgodkheaaaGreatDoorQCG33TW7
import Derived.Test.YtfhkhmgodkheaaaGreatDoorQCG29TCs
set_option linter.unusedSimpArgs false
set_option linter.unusedVariables false
set_option maxRecDepth 1000000
set_option maxHeartbeats 16000000
namespace Go.Proofs.YtfhkhmgodkheaaaGreatDoor
open Go.RowKit Go.Maps
theorem two_boxes {w W2:World} {o1 o2:Obj} (hW2:(w.alloc o1).alloc o2=W2):Bl w W2∧W2.heap.size=w.heap.size+2∧W2.heap[w.heap.size]?=some o1∧W2.heap[w.heap.size+1]?=some o2:=by
 subst hW2
 refine ⟨(Bl.alloc _ _).trans (Bl.alloc _ _),by simp,?_,?_⟩
 ·rw [Below.heap_alloc _ _ _ (by simp)]; exact heap_alloc_new _ _
 ·have:=heap_alloc_new (w.alloc o1) o2
  rw [World.size_alloc] at this;exact this
theorem head_ok (w0:World) (b c:Nat) (p:Option Addr) (l t:Bs) (ns:List Bs) (w:World) (hb:Bl w0 w) (h:Wt w0.heap.size b l w) (hr:RdS w0 (.slice p ns.length c) ns) (hN:∀ n∈ns,n.length≤70368744177664) (ht:t.length≤268435456) (h2:qI t=2→0 < ns.length) (h3:qI t=3→(zo (jq t)).length=ns.length) :
  Calls Tryz.prog 38 #[.pointer (some ⟨b,0,none⟩),.string (ba t),.slice p ns.length c] w (RW w0 b (qH l (zk t (ns.map fun n=>[n]))) w):=by
 have hmf:∀ (fn:Fn) (first cap:Array Value) (w:World),(Instr.makeFunc fn first cap).run Tryz.prog w=.ok (.func fn first cap) w:=fun _ _ _ _=>rfl
 obtain ⟨W2,hW2⟩:∃ X,(w.alloc (.cells #[.pointer (some ⟨b,0,none⟩)] 83)).alloc (.cells #[.slice p ns.length c] 23)=X:=⟨_,rfl⟩
 obtain ⟨b2,s2,g0,g1⟩:=two_boxes hW2
 have hblt:=h.lt
 have c0:W2.cell? ⟨w.heap.size,0,none⟩=some (.pointer (some ⟨b,0,none⟩)):=by rw [qh g0]; rfl
 have k2:=Wk.ofBl h hb b2
 have hTh:Thing w0 b 67 #[.pointer (some ⟨w.heap.size,0,none⟩),.pointer (some ⟨w.heap.size+1,0,none⟩)] [(w.heap.size,.cells #[.pointer (some ⟨b,0,none⟩)] 83 (0,0)),(w.heap.size+1,.cells #[.slice p ns.length c] 23 (0,0))] (ns.map fun n=>[n]):=by
  refine ⟨ent 67 _ _ Tryz.func67 (by kernel_rfl) rfl,fun x hx=>?_,fun i hi l' V hV hw hbx=>?_⟩
  ·have hx':x=(w.heap.size,Obj.cells #[.pointer (some ⟨b,0,none⟩)] 83 (0,0))∨x=(w.heap.size+1,Obj.cells #[.slice p ns.length c] 23 (0,0)):=by simpa using hx
   rcases hx' with rfl | rfl
   ·exact ⟨by show w.heap.size≠b; omega,fun c fz e=>by injection e with e1 e2; exact absurd e2 (by decide)⟩
   ·exact ⟨by show w.heap.size+1≠b; omega,fun c fz e=>by injection e with e1 e2; exact absurd e2 (by decide)⟩
  ·have hil:i < ns.length:=by simpa using hi
   obtain ⟨p',c',e,hc,hp⟩:=hr;injection e with e1 e2 e3
   obtain ⟨g,off,e4,hg,hcs⟩:=hp (by omega)
   rw [← e1] at e4;subst e4;have q1:=hbx.at_ _ (List.mem_cons_self);have q2:=hbx.at_ (w.heap.size+1,.cells #[.slice (some ⟨g,off,none⟩) ns.length c] 23 (0,0)) (by simp)
   have e:(ns.map fun n=>[n]).getD i []=[ns.getD i []]:=by
    rw [List.getD_eq_getElem?_getD,List.getD_eq_getElem?_getD,List.getElem?_map,List.getElem?_eq_getElem hil]; rfl
   rw [e,addsP_one];exact head1_w w0 b w.heap.size (w.heap.size+1) g off ns.length c i l' (ns.getD i []) V hV hw q1 q2 (by omega) (by omega) hg (hcs i hil) hil (hN _ (by
    rw [List.getD_eq_getElem?_getD,List.getElem?_eq_getElem hil]; exact List.getElem_mem hil))
 have HW:=qd (worded_ok w0 b 67 _ _ (ns.map fun n=>[n]) hTh l t W2 (hb.trans b2) k2.wt ⟨fun x hx=>by
   have hx':x=(w.heap.size,Obj.cells #[.pointer (some ⟨b,0,none⟩)] 83 (0,0))∨x=(w.heap.size+1,Obj.cells #[.slice p ns.length c] 23 (0,0)):=by simpa using hx
   rcases hx' with rfl | rfl
   ·exact g0
   ·exact g1⟩ (fun x hx=>by
   have hx':x=(w.heap.size,Obj.cells #[.pointer (some ⟨b,0,none⟩)] 83 (0,0))∨x=(w.heap.size+1,Obj.cells #[.slice p ns.length c] 23 (0,0)):=by simpa using hx
   rcases hx' with rfl | rfl
   ·show w.heap.size < _; omega
   ·show w.heap.size+1 < _; omega) ht (by simpa using h2) (by simpa using h3))
 have K2:=qd k2
 generalize zk t (ns.map fun n=>[n])=P at *
 clear h hb hr hN ht h2 h3 hTh g0 g1 b2 s2 k2 hblt
 go_enter Tryz.func38,Tryz.ntmps38
 go_wp2_with (go_at_call 66; refine HW.out.mono ?_; rintro e w3 ⟨rfl,k3⟩)
 go_end0
 exact ⟨rfl,K2.out.trans k3⟩
theorem opersPc_len:∀ (ks:List Nt) (m:Nat),(ji ks m).length=ks.length:=by
 intro ks
 induction ks with
 | nil=>intro m; rfl
 | cons n r ih=>intro m; rw [ji,List.length_cons,List.length_cons,ih]
theorem opersPc_get:∀ (ks:List Nt) (m i:Nat),i < ks.length→(ji ks m).getD i []=oprPc (ks.getD i qE) m (qP (ks.getD i qE)):=by
 intro ks
 induction ks with
 | nil=>intro m i h; simp at h
 | cons n r ih =>
  intro m i h;rw [ji]
  cases i with
  | zero=>rfl
  | succ i=>simpa using ih m i (by simpa using h)
theorem wmessage_ok (w0:World) (b:Nat) (l t:Bs) (v:Value) (ks:List Nt) (w:World) (hb:Bl w0 w) (hE:Env w0) (h:Wt w0.heap.size b l w) (hr:RdN w0 v ks) (hX:∀ i,i < ks.length→CW (ks.getD i qE)) (ht:t.length≤268435456) (h1:1≤qI t∧qI t≤3) (h2:qI t=2→0 < ks.length) (h3:qI t=3→(zo (jq t)).length=ks.length) :
  Calls Tryz.prog 134 #[.pointer (some ⟨b,0,none⟩),.string (ba t),v] w (RW w0 b (qH l (zk t (ji ks (qI t - 1)))) w):=by
 have hmf:∀ (fn:Fn) (first cap:Array Value) (w:World),(Instr.makeFunc fn first cap).run Tryz.prog w=.ok (.func fn first cap) w:=fun _ _ _ _=>rfl
 obtain ⟨p,c,rfl,hc1,hc2⟩:=hr.slc
 have hsz:(ba t).size=t.length:=by rw [← qo,qJ]
 obtain ⟨W2,hW2⟩:∃ X,(w.alloc (.cells #[.pointer (some ⟨b,0,none⟩)] 83)).alloc (.cells #[.slice p ks.length c] 25)=X:=⟨_,rfl⟩
 obtain ⟨b2,s2,g0,g1⟩:=two_boxes hW2
 have hblt:=h.lt
 have HR:=qd (jK (ba t) W2 (by omega))
 rw [qJ] at HR
 have HM:=qd (most_arg (qI t) h1)
 have hTh:∀ D,D≠b→Thing w0 b 149 #[.pointer (some ⟨w.heap.size,0,none⟩),.pointer (some ⟨w.heap.size+1,0,none⟩),.pointer (some ⟨D,0,none⟩)] [(w.heap.size,.cells #[.pointer (some ⟨b,0,none⟩)] 83 (0,0)),(w.heap.size+1,.cells #[.slice p ks.length c] 25 (0,0)),(D,.cells #[.int .i64 ((qI t - 1:Nat):Int)] 3 (0,0))] (ji ks (qI t - 1)):=fun D hD=>by
  refine ⟨ent 149 _ _ Tryz.func149 (by kernel_rfl) rfl,fun x hx=>?_,fun i hi l' V hV hw hbx=>?_⟩
  ·have hx':x=(w.heap.size,Obj.cells #[.pointer (some ⟨b,0,none⟩)] 83 (0,0))∨x=(w.heap.size+1,Obj.cells #[.slice p ks.length c] 25 (0,0))∨x=(D,Obj.cells #[.int .i64 ((qI t - 1:Nat):Int)] 3 (0,0)):=by simpa using hx
   rcases hx' with rfl | rfl | rfl
   ·exact ⟨by show w.heap.size≠b; omega,fun c fz e=>by injection e with e1 e2; exact absurd e2 (by decide)⟩
   ·exact ⟨by show w.heap.size+1≠b; omega,fun c fz e=>by injection e with e1 e2; exact absurd e2 (by decide)⟩
   ·exact ⟨hD,fun c fz e=>by injection e with e1 e2; exact absurd e2 (by decide)⟩
  ·have hil:i < ks.length:=by rwa [opersPc_len] at hi
   obtain ⟨kb,ko,e4,hnd⟩:=hr.at_ i hil;subst e4;have q1:=hbx.at_ _ (List.mem_cons_self);have q2:=hbx.at_ (w.heap.size+1,.cells #[.slice (some ⟨kb,ko,none⟩) ks.length c] 25 (0,0)) (by simp)
   have q3:=hbx.at_ (D,.cells #[.int .i64 ((qI t - 1:Nat):Int)] 3 (0,0)) (by simp)
   rw [opersPc_get ks _ i hil];exact msg1_w _ (hX i hil) w0 b w.heap.size (w.heap.size+1) D kb ko ks.length c i (qI t - 1) l' V hV hE hw q1 q2 q3 (by omega) (by omega) hD hnd hil
 have HW:Hid (∀ W D,Bl W2 W→w.heap.size+2≤D→W.heap[D]?=some (.cells #[.int .i64 ((qI t - 1:Nat):Int)] 3 (0,0))→Calls Tryz.prog 66 #[.pointer (some ⟨b,0,none⟩),.string (ba t),.func (.func 149) #[] #[.pointer (some ⟨w.heap.size,0,none⟩),.pointer (some ⟨w.heap.size+1,0,none⟩),.pointer (some ⟨D,0,none⟩)]] W (RW w0 b (qH l (zk t (ji ks (qI t - 1)))) W)):=qd (fun W D bW hD gD=>by
  have hm0:=(bW.block _ (qf g0)).trans g0;have hm1:=(bW.block _ (qf g1)).trans g1;refine worded_ok w0 b 149 _ _ (ji ks (qI t - 1)) (hTh D (by omega)) l t W ((hb.trans b2).trans bW) (Wk.ofBl h hb (b2.trans bW)).wt ⟨fun x hx=>?_⟩ (fun x hx=>?_) ht (by rw [opersPc_len]; exact h2) (by rw [opersPc_len]; exact h3)
  all_goals
   have hx':x=(w.heap.size,Obj.cells #[.pointer (some ⟨b,0,none⟩)] 83 (0,0))∨x=(w.heap.size+1,Obj.cells #[.slice p ks.length c] 25 (0,0))∨x=(D,Obj.cells #[.int .i64 ((qI t - 1:Nat):Int)] 3 (0,0)):=by simpa using hx
   rcases hx' with rfl | rfl | rfl
  ·exact hm0
  ·exact hm1
  ·exact gD
  ·exact qf hm0
  ·exact qf hm1
  ·exact qf gD)
 have HK:=qd (fun V (kv:Bl W2 V)=>Wk.ofBl h hb (b2.trans kv))
 have G0:=qd g0
 have S2:=qd s2
 generalize zk t (ji ks (qI t - 1))=P at *
 generalize qI t - 1=mo at *
 generalize qI t=rk at *
 clear h hb hr ht h1 h2 h3 hTh g0 g1 b2 s2 hX hE hsz
 go_enter Tryz.func134,Tryz.ntmps134
 go_wp2_with (first
  | (go_at_call 101; refine HR.out.mono ?_; rintro e w1 ⟨rfl,b1⟩; have c0:(w1.alloc (.cells #[.int .i64 (mo:Int)] 3)).cell? ⟨w.heap.size,0,none⟩=some (.pointer (some ⟨b,0,none⟩)):=by (rw [qh ((Below.heap_alloc _ _ _ (qf ((b1.block _ (qf G0.out)).trans G0.out))).trans ((b1.block _ (qf G0.out)).trans G0.out))]; rfl))
  | (go_at_call 122; refine (HM.out _).mono ?_; rintro e w2 ⟨rfl,h2⟩; have h3:=h2.symm; subst h3)
  | (go_at_call 66; refine (HW.out _ _ (b1.trans (Bl.alloc _ _)) (by have:=b1.size; have:=S2.out; omega) (heap_alloc_new _ _)).mono ?_; rintro e w3 ⟨rfl,k3⟩))
 go_end0
 exact ⟨rfl,(HK.out _ (b1.trans (Bl.alloc _ _))).trans k3⟩
def blkPc (t:Bool):List Bs:=if t=true then [[32]] else []
def jt (behind:Bool) (tm:List Bs) (ks:List Nt):List Bs:=tmpPc behind tm++(if ks.length=0 then [] else blkPc (behind || decide (tm≠[]))++zJ ks [46,32] true)
theorem map_take_snoc (l:List Bs) (i:Nat) (h:i < l.length):(l.take (i+1)).map (fun n=>(32:UInt8) :: n)=(l.take i).map (fun n=>(32:UInt8) :: n)++[32 :: l.getD i []]:=by
 rw [List.take_succ_eq_append_getElem h,List.map_append,List.getD_eq_getElem?_getD,List.getElem?_eq_getElem h]; rfl
theorem wrest_ok (w0:World) (b:Nat) (l:Bs) (behind:Bool) (tv v:Value) (tm:List Bs) (ks:List Nt) (w:World) (hb:Bl w0 w) (hE:Env w0) (h:Wt w0.heap.size b l w) (ht:RdS w0 tv tm) (htl:tm.length≤140737488355328) (hN:∀ n∈tm,n.length≤268435456) (hr:RdN w0 v ks) (hX:∀ i,i < ks.length→CW (ks.getD i qE)) :
  Calls Tryz.prog 39 #[.pointer (some ⟨b,0,none⟩),.bool behind,tv,v] w (RW w0 b (qH l (jt behind tm ks)) w):=by
 obtain ⟨p,c,rfl,hc1,hc2⟩:=hr.slc
 obtain ⟨q,d,rfl,hd,hcs⟩:=ht
 have HL:=qd (fun (l':Bs) V (hV:Bl w0 V) (hw:Wt w0.heap.size b l' V)=>list_ok w0 b l' [46,32] _ ks V hV hE hw (by decide) hr hX)
 have HBk:=qd (fun (l':Bs) (t:Bool) V (hV:Bl w0 V) (hw:Wt w0.heap.size b l' V)=>blank_ok w0 b l' t V hV hw)
 have HB:=qd hb
 have H:=qd h
 obtain ⟨nk,hnk⟩:∃ nk,ks.length=nk:=⟨_,rfl⟩
 have hP:Hid (jt behind tm ks=tmpPc behind tm++(if nk=0 then [] else blkPc (behind || decide (tm≠[]))++zJ ks [46,32] true)):=qd (by rw [← hnk]; rfl)
 rw [hnk] at HL hc1 hc2
 rw [hnk]
 generalize zJ ks [46,32] true=LP at *
 generalize jt behind tm ks=RP at *
 clear hr hX hE h hb hnk
 by_cases ht0:tm.length=0
 ·have htn:tm=[]:=List.length_eq_zero_iff.1 ht0
  subst htn
  by_cases hk:nk=0
  ·subst hk
   have e:Hid (qH l RP=l):=qd (by rw [hP.out]; rfl)
   clear hP HL HBk hN hcs
   go_enter Tryz.func39,Tryz.ntmps39
   go_wp2_with fail
   go_end0
   exact ⟨rfl,by rw [e.out]; exact Wk.refl H.out⟩
  ·have e:Hid (qH l RP=qH (qH l (blkPc behind)) LP):=qd (by
    rw [hP.out,if_neg hk,← zw];simp [tmpPc])
   have HB1:=qd (HBk.out l behind w HB.out H.out);have q1:(0:Int) < nk:=by omega
   clear hP HBk hN hcs hk
   go_enter Tryz.func39,Tryz.ntmps39
   go_wp2_with (first
    | (go_at_call 69; refine HB1.out.mono ?_; rintro e w1 ⟨rfl,k1⟩)
    | (go_at_call 70; refine (HL.out _ _ (k1.bl HB.out) k1.wt).mono ?_; rintro e w2 ⟨rfl,k2⟩))
   go_end0
   exact ⟨rfl,by rw [e.out]; exact k1.trans k2⟩
 obtain ⟨g,off,rfl,hg,hcell⟩:=hcs (by omega)
 have HA:=qd (fun (l' s:Bs) (hs:s.length≤268435457) V (hV:Bl w0 V) (hw:Wt w0.heap.size b l' V)=>jz w0 b l' s V hV hw (by omega))
 have HB1:=qd (HBk.out l behind w HB.out H.out)
 have HA1:=qd (fun l' V hV hw=>HA.out l' [124] (by decide) V hV hw)
 have HA2:=qd (fun l' V hV hw=>HA.out l' [32,124] (by decide) V hV hw)
 have hne:tm≠[]:=fun e=>ht0 (by rw [e]; rfl)
 have hT:Hid (tmpPc behind tm=blkPc behind++([124] :: (tm.map (fun n=>32 :: n)++[[32,124]]))):=qd (by unfold tmpPc blkPc; rw [if_neg hne])
 have HTk:=qd (map_take_snoc tm)
 have HF:Hid ((tm.take tm.length).map (fun n=>(32:UInt8) :: n)=tm.map (fun n=>32 :: n)):=qd (by rw [List.take_length])
 have hdt:Hid ((behind || decide (tm≠[]))=true):=qd (by rw [decide_eq_true hne]; simp)
 have HCl:=qd hcell
 have HNn:=qd hN
 obtain ⟨n,hn⟩:∃ n,tm.length=n:=⟨_,rfl⟩
 rw [hn] at HCl HTk HF htl hd ht0
 rw [hn]
 have HNl:=qd hn
 have q0:(0:Int) < n:=by omega
 clear hcs hcell hN hne hn
 go_enter Tryz.func39,Tryz.ntmps39
 go_wp2_with (first
  | (go_at_call 69; refine HB1.out.mono ?_; clear HB1; rintro e w1 ⟨rfl,k1⟩)
  | (go_at_call 68; refine (HA1.out _ _ (k1.bl HB.out) k1.wt).mono ?_; clear HA1; rintro e w2 ⟨rfl,k2'⟩; have k2:=qd (k1.trans k2')))
 go_loopw [20] (fun q wr=>∃ i:Nat,i≤n∧q=.int .i64 i∧Hid (Wk w0 b (qH (zU (qH l (blkPc behind)) [124]) ((tm.take i).map (fun n=>32 :: n))) w wr)) (fun q _=>n - (intOf q).toNat)
 case atStart=>exact ⟨0,Nat.zero_le _,rfl,k2⟩
 case round =>
  obtain ⟨i,hi,rfl,hk⟩:=hrel
  by_cases hin:i < n
  ·have hii:(i:Int) < n:=by omega
   have hwb:=hk.out.bl HB.out;have x0:wr.cell? ⟨g,off+i,none⟩=some (.string (ba (tm.getD i []))):=by rw [World.cell?_of_block (w:=w0) (hwb.block g hg)]; exact HCl.out i hin
   have hxl:(tm.getD i []).length≤268435456:=HNn.out _ (by
    rw [List.getD_eq_getElem?_getD,List.getElem?_eq_getElem (by rw [HNl.out]; exact hin)]; exact List.getElem_mem _)
   have hstep:Hid (qH (zU (qH l (blkPc behind)) [124]) ((tm.take (i+1)).map (fun n=>32 :: n))=zU (qH (zU (qH l (blkPc behind)) [124]) ((tm.take i).map (fun n=>32 :: n))) (32 :: tm.getD i [])):=qd (by rw [HTk.out i hin,zw]; rfl)
   have HA3:=qd (HA.out (qH (zU (qH l (blkPc behind)) [124]) ((tm.take i).map (fun n=>32 :: n))) (32 :: tm.getD i []) (by rw [List.length_cons]; omega) wr hwb hk.out.wt)
   have hcat:(⟨#[32]⟩:ByteArray)++ba (tm.getD i [])=ba (32 :: tm.getD i []):=ba_app [32] (tm.getD i []);have hsz:(ba (tm.getD i [])).size=(tm.getD i []).length:=by rw [← qo,qJ]
   generalize tm.getD i []=x at *;clear HTk HF HCl HNn hwb HA HA2 HL HBk
   go_wp2_with (go_at_call 68; refine HA3.out.mono ?_; rintro e w3 ⟨rfl,k3⟩)
   go_roundw
   case rel=>exact ⟨i+1,by omega,by go_num,qd (by rw [hstep.out]; exact hk.out.trans k3)⟩
   case measure=>simp [intOf]; omega
  ·have hie:¬ (i:Int) < n:=by omega
   have hi2:i=n:=by omega
   subst hi2;rw [HF.out] at hk;have HA4:=qd (HA2.out _ wr (hk.out.bl HB.out) hk.out.wt);clear HTk HCl HNn HA HA2
   by_cases hkn:nk=0
   ·subst hkn
    have e:Hid (qH l RP=zU (qH (zU (qH l (blkPc behind)) [124]) (tm.map (fun n=>32 :: n))) [32,124]):=qd (by
     rw [hP.out,hT.out];simp only [if_true,List.append_nil];simp only [zw,jh,jR])
    clear hP HL HBk
    go_wp2_with (go_at_call 68; refine HA4.out.mono ?_; rintro e w3 ⟨rfl,k3⟩)
    go_end0
    exact ⟨rfl,by rw [e.out]; exact hk.out.trans k3⟩
   ·have e:Hid (qH l RP=qH (qH (zU (qH (zU (qH l (blkPc behind)) [124]) (tm.map (fun n=>32 :: n))) [32,124]) (blkPc true)) LP):=qd (by
     rw [hP.out,hT.out,if_neg hkn,hdt.out];simp only [zw,jh,jR])
    have q1:(0:Int) < nk:=by omega
    have HB2:=qd (fun l' V hV hw=>HBk.out l' true V hV hw)
    clear hP HBk hkn
    go_wp2_with (first
     | (go_at_call 68; refine HA4.out.mono ?_; rintro e w3 ⟨rfl,k3'⟩; have k3:=hk.out.trans k3')
     | (go_at_call 69; refine (HB2.out _ _ (k3.bl HB.out) k3.wt).mono ?_; rintro e w4 ⟨rfl,k4'⟩; have k4:=k3.trans k4')
     | (go_at_call 70; refine (HL.out _ _ (k4.bl HB.out) k4.wt).mono ?_; rintro e w5 ⟨rfl,k5⟩))
    go_end0
    exact ⟨rfl,by rw [e.out]; exact k4.trans k5⟩
theorem parPc_snoc (x:Bs):∀ (r:List Bs) (f:Bool),parPc (r++[x]) f=parPc r f++((if r.length=0∧f=true then [] else [[32]])++[58 :: x]):=by
 intro r
 induction r with
 | nil=>intro f; cases f <;> simp [parPc]
 | cons y r ih=>intro f; rw [List.cons_append,parPc,parPc,ih]; simp
theorem parPc_take (ns:List Bs) (i:Nat) (h:i < ns.length):parPc (ns.take (i+1)) true=parPc (ns.take i) true++(btwPc i [32]++[58 :: ns.getD i []]):=by
 have e:ns.take (i+1)=ns.take i++[ns.getD i []]:=by
  rw [List.take_succ_eq_append_getElem h,List.getD_eq_getElem?_getD,List.getElem?_eq_getElem h]; rfl
 rw [e,parPc_snoc]
 congr 2
 unfold btwPc
 have:(ns.take i).length=i:=by rw [List.length_take]; omega
 rw [this]
 by_cases hi:0 < i
 ·rw [if_pos hi,if_neg (by omega)]
 ·rw [if_neg hi,if_pos ⟨by omega,rfl⟩]
def blockPc (m:Nat) (ns:List Bs) (ks:List Nt):List Bs:=[91] :: (parPc (ns.take m) true++((if 0 < m then [[32,124]] else [])++(jt (decide (0 < m)) (ns.drop m) ks++[[93]])))
theorem RdS.drop {w:World} {p:Option Addr} {ln cn:Nat} {ns:List Bs} (h:RdS w (.slice p ns.length cn) ns) (m:Nat) (hm:m≤ns.length) (sx:Value) (hsx:(m=0∧sx=.slice p ns.length cn)∨(∃ g off nx,0 < m∧p=some ⟨g,off,none⟩∧sx=.slice (some ⟨g,nx,none⟩) (ns.length - m) (cn - m)∧(ns.length≠m→nx=off+m))):RdS w sx (ns.drop m):=by
 obtain ⟨p',c',e,hc,hp⟩:=h
 injection e with e1 e2 e3
 rcases hsx with ⟨rfl,rfl⟩ | ⟨g,off,nx,h0,rfl,rfl,hnx⟩
 ·exact ⟨p,cn,by simp,by simp; omega,by rw [e1]; simpa using hp⟩
 ·refine ⟨_,_,by rw [List.length_drop],by rw [List.length_drop]; omega,fun hl=>?_⟩
  rw [List.length_drop] at hl;obtain ⟨g',off',e4,hg,hcs⟩:=hp (by omega)
  rw [← e1] at e4;injection e4 with e4
  injection e4 with q1 q2
  subst q1; subst q2;refine ⟨g,nx,rfl,hg,fun j hj=>?_⟩
  rw [List.length_drop] at hj;have:=hcs (m+j) (by omega)
  rw [hnx (by omega),Nat.add_assoc]
  rw [this];simp [List.getD_eq_getElem?_getD]
theorem wblock0 (w0:World) (b kb ko ln cn:Nat) (pn:Option Addr) (sk sn:Value) (l:Bs) (ns:List Bs) (ks:List Nt) (n:Nt) (w:World) (hb:Bl w0 w) (hE:Env w0) (h:Wt w0.heap.size b l w) (hn:Nod w0 n kb ko sn sk) (hnum:n.num=0) (hns:n.names=ns) (hks:n.kids=ks) (hsn:sn=.slice pn ns.length cn) (hN:∀ y∈ns,y.length≤268435456) (hX:∀ i,i < ks.length→CW (ks.getD i qE)) :
  Calls Tryz.prog 135 #[.pointer (some ⟨b,0,none⟩),.pointer (some ⟨kb,ko,none⟩)] w (RW w0 b (qH l (blockPc 0 ns ks)) w):=by
 subst hns; subst hks
 have rs:=hn.rs
 rw [hsn] at rs
 have hcn:n.names.length≤cn:=by
  obtain ⟨p',c',e,hc,_⟩:=rs;injection e with e1 e2 e3
  omega
 have HS1:Hid (∀ V,Hid (Bl w0 V)→V.cell? ⟨kb,ko+2,none⟩=some (.int .i64 0)∧V.cell? ⟨kb,ko+4,none⟩=some (.slice pn n.names.length cn)):=qd (fun V hV=>by
  have k:=hn.keep hV.out;exact ⟨by rw [k.c2,hnum],by rw [k.c4,hsn]⟩)
 have HS9:Hid (∀ V,Hid (Bl w0 V)→V.cell? ⟨kb,ko+2,none⟩=some (.int .i64 0)∧V.cell? ⟨kb,ko+4,none⟩=some (.slice pn n.names.length cn)∧V.cell? ⟨kb,ko+6,none⟩=some sk):=qd (fun V hV=>by
  have k:=hn.keep hV.out;exact ⟨by rw [k.c2,hnum],by rw [k.c4,hsn],k.c6⟩)
 have hnl:=hn.nl
 have hrd:RdS w0 (.slice pn n.names.length cn) (n.names.drop 0):=by simpa using rs
 have HRs:=qd (fun (l':Bs) V (hV:Hid (Bl w0 V)) (hw:Wt w0.heap.size b l' V)=>wrest_ok w0 b l' false _ sk (n.names.drop 0) n.kids V hV.out hE hw hrd (by rw [List.length_drop]; omega) (fun y hy=>hN y (List.mem_of_mem_drop hy)) hn.rn hX)
 have HA:=qd (fun (l' s:Bs) (hs:s.length≤268435457) V (hV:Bl w0 V) (hw:Wt w0.heap.size b l' V)=>jz w0 b l' s V hV hw (by omega))
 have HA91:=qd (fun l' V hV hw=>HA.out l' [91] (by decide) V hV hw)
 have HA93:=qd (fun l' V hV hw=>HA.out l' [93] (by decide) V hV hw)
 have HBt:=qd (fun (l':Bs) (i:Nat) V (hV:Bl w0 V) (hw:Wt w0.heap.size b l' V)=>between_ok w0 b l' [32] i V hV hw (by decide))
 have HAb:=qd (fun l' V hV hw=>HA.out l' [32,124] (by decide) V hV hw)
 have HN:=qd hN
 have HB:=qd hb
 have H:=qd h
 have hblt:=h.lt
 have hRS:=qd rs
 have HPt:=qd (parPc_take n.names)
 have e:Hid (qH l (blockPc 0 n.names n.kids)=zU (qH (zU l [91]) (jt false (n.names.drop 0) n.kids)) [93]):=qd (by
  unfold blockPc;simp only [List.take_zero,parPc,List.nil_append,Nat.lt_irrefl,if_false,decide_false,jh,zw,jR])
 generalize hbp:blockPc 0 n.names n.kids=BP at *
 generalize jt false (n.names.drop 0) n.kids=RP at *
 generalize hln:n.names.length=ln at *
 clear h hb hE hX hN rs hrd hn hbp hnum hsn
 go_enter Tryz.func135,Tryz.ntmps135
 go_wp2_with (go_at_call 68; refine (HA91.out _ _ HB.out H.out).mono ?_; rintro e w1 ⟨rfl,k1⟩)
 have hR1:Hid (Bl w0 w1):=qd (k1.bl HB.out)
 have K1:=qd (k1.trans (Wk.ofBl k1.wt hR1.out (qV w1)))
 clear k1
 refine wp_region_held_drew (S:=fun V=>V.cell? ⟨kb,ko+2,none⟩=some (.int .i64 0)∧V.cell? ⟨kb,ko+4,none⟩=some (.slice pn ln cn)) (by kernel_rfl) (HS1.out _ (hbd hR1)) (fun hHeld=>?_)
 refine tq (i:=0) ?_
 try simp only [Act.put,qq]
 refine tq (i:=1) ?_
 try simp only [Act.put,qq]
 refine tq (i:=2) ?_
 try simp only [Act.put,qq]
 refine tq (i:=3) ?_
 try simp only [Act.put,qq]
 refine tq (i:=4) ?_
 try simp only [Act.put,qq]
 refine tq (i:=5) ?_
 try simp only [Act.put,qq]
 refine tq (i:=6) ?_
 try simp only [Act.put,qq]
 refine tq (i:=7) ?_
 try simp only [Act.put,qq]
 refine wpAnyH_take (i:=8) (v:=.slice pn 0 cn) rfl (by kernel_rfl) (by kernel_rfl) (by kernel_rfl) (fun _ _ _ h=>h) (Or.inl ⟨by rfl,?_⟩) (by assumption) ?_
 ·(intro w hSw; (try dsimp only at hSw); (try go_split_ands); go_simp; try first | omega | rfl | (simp; omega))
 try simp only [Act.put,qq]
 refine tq (i:=9) ?_
 try simp only [Act.put,qq]
 refine tq (i:=10) ?_
 try simp only [Act.put,qq]
 refine wpAnyH_done (by kernel_rfl) ?_ _
 go_wp2_with fail
 go_loopw [18] (fun q wr=>q=.int .i64 0∧Hid (Wk w0 b (zU l [91]) w wr)) (fun q _=>0)
 case atStart=>exact ⟨rfl,K1⟩
 case round =>
   obtain ⟨rfl,hk⟩:=hrel;have hR9:Hid (Bl w0 wr):=qd (hk.out.bl HB.out);obtain ⟨y1,y2,y3⟩:=HS9.out wr hR9;have hW9:Hid (Wt w0.heap.size b (zU l [91]) wr.drew):=qd (Wk.ofBl hk.out.wt hR9.out (qV wr)).wt;have hD9:=qd (Wk.ofBl hk.out.wt hR9.out (qV wr));clear HPt HBt HAb HA HA91 HS1
   go_wp2_with fail
   refine wp_region_held_drew (S:=fun V=>V.cell? ⟨kb,ko+2,none⟩=some (.int .i64 0)∧V.cell? ⟨kb,ko+4,none⟩=some (.slice pn ln cn)∧V.cell? ⟨kb,ko+6,none⟩=some sk) (by kernel_rfl) (HS9.out _ (hbd hR9)) (fun hHeld=>?_)
   refine tq (i:=0) ?_
   try simp only [Act.put,qq]
   refine tq (i:=1) ?_
   try simp only [Act.put,qq]
   refine tq (i:=2) ?_
   try simp only [Act.put,qq]
   refine tq (i:=3) ?_
   try simp only [Act.put,qq]
   refine tq (i:=4) ?_
   try simp only [Act.put,qq]
   refine wpAnyH_take (i:=5) (v:=.bool false) rfl (by kernel_rfl) (by kernel_rfl) (by kernel_rfl) (fun _ _ _ h=>h) (Or.inl ⟨by rfl,?_⟩) (by assumption) ?_
   ·(intro w hSw; (try dsimp only at hSw); (try go_split_ands); go_simp; try first | rfl | (simp; done) | (simp; omega))
   try simp only [Act.put,qq]
   refine tq (i:=6) ?_
   try simp only [Act.put,qq]
   refine tq (i:=7) ?_
   try simp only [Act.put,qq]
   refine tq (i:=8) ?_
   try simp only [Act.put,qq]
   refine tq (i:=9) ?_
   try simp only [Act.put,qq]
   refine tq (i:=10) ?_
   try simp only [Act.put,qq]
   refine tq (i:=11) ?_
   try simp only [Act.put,qq]
   refine tq (i:=12) ?_
   try simp only [Act.put,qq]
   refine tq (i:=13) ?_
   try simp only [Act.put,qq]
   refine wpAnyH_take (i:=14) (v:=.slice pn ln cn) rfl (by kernel_rfl) (by kernel_rfl) (by kernel_rfl) (fun _ _ _ h=>h) (Or.inl ⟨by rfl,?_⟩) (by assumption) ?_
   ·(intro w hSw; (try dsimp only at hSw); (try go_split_ands); go_simp; try first | omega | rfl | (simp; done))
   try simp only [Act.put,qq]
   refine tq (i:=15) ?_
   try simp only [Act.put,qq]
   refine tq (i:=16) ?_
   try simp only [Act.put,qq]
   refine tq (i:=17) ?_
   try simp only [Act.put,qq]
   refine tq (i:=18) ?_
   try simp only [Act.put,qq]
   refine qU (i:=19) (by kernel_rfl) rfl (fun K hK=>?_)
   refine qO (by rfl) 39 Tryz.f39 Tryz.func39 (by kernel_rfl) (by kernel_rfl) _ _ rfl _ (by first | (simp [Act.eval]; done) | (simp [Act.eval]; rfl)) _ (HRs.out _ _ (hbd hR9) hW9.out) ?_
   rintro _ w9 ⟨rfl,k9⟩;refine hK.out _ _ (HS9.out _ (qd (k9.bl (hbd hR9).out))) (fun hHeld=>?_)
   clear hK K
   try simp only [Act.put,qq]
   refine wpAnyH_done (by kernel_rfl) ?_ _
   go_wp2_with (go_at_call 68; refine (HA93.out _ _ (k9.bl (hbd hR9).out) k9.wt).mono ?_; rintro e w10 ⟨rfl,k10⟩)
   go_end0
   exact ⟨rfl,by rw [e.out]; exact ((hk.out.trans hD9.out).trans k9).trans k10⟩
theorem wblock1 (w0:World) (b kb ko ln cn:Nat) (sk sn:Value) (l:Bs) (ns:List Bs) (ks:List Nt) (n:Nt) (w:World) (g off m nx:Nat) (hm:0 < m) (hml:m≤ns.length) (hm8:m≤8) (hkx0:(cn=m∧nx=off)∨(cn≠m∧nx=off+m)) (hb:Bl w0 w) (hE:Env w0) (h:Wt w0.heap.size b l w) (hn:Nod w0 n kb ko sn sk) (hnum:n.num=(m:Nat)) (hns:n.names=ns) (hks:n.kids=ks) (hsn:sn=.slice (some ⟨g,off,none⟩) ns.length cn) (hN:∀ y∈ns,y.length≤268435456) (hX:∀ i,i < ks.length→CW (ks.getD i qE)) :
  Calls Tryz.prog 135 #[.pointer (some ⟨b,0,none⟩),.pointer (some ⟨kb,ko,none⟩)] w (RW w0 b (qH l (blockPc m ns ks)) w):=by
 subst hns; subst hks
 have rs:=hn.rs
 rw [hsn] at rs
 have hcn:n.names.length≤cn:=by
  obtain ⟨p',c',e,hc,_⟩:=rs;injection e with e1 e2 e3
  omega
 have HS1:Hid (∀ V,Hid (Bl w0 V)→V.cell? ⟨kb,ko+2,none⟩=some (.int .i64 (m:Nat))∧V.cell? ⟨kb,ko+4,none⟩=some (.slice (some ⟨g,off,none⟩) n.names.length cn)):=qd (fun V hV=>by
  have k:=hn.keep hV.out;exact ⟨by rw [k.c2,hnum],by rw [k.c4,hsn]⟩)
 have HS9:Hid (∀ V,Hid (Bl w0 V)→V.cell? ⟨kb,ko+2,none⟩=some (.int .i64 (m:Nat))∧V.cell? ⟨kb,ko+4,none⟩=some (.slice (some ⟨g,off,none⟩) n.names.length cn)∧V.cell? ⟨kb,ko+6,none⟩=some sk):=qd (fun V hV=>by
  have k:=hn.keep hV.out;exact ⟨by rw [k.c2,hnum],by rw [k.c4,hsn],k.c6⟩)
 have hnl:=hn.nl
 have hrd:RdS w0 (.slice (some ⟨g,nx,none⟩) (n.names.length - m) (cn - m)) (n.names.drop m):=rs.drop (ln:=0) m hml _ (Or.inr ⟨g,off,nx,hm,rfl,rfl,fun h=>by rcases hkx0 with ⟨h1,h2⟩ | ⟨h1,h2⟩ <;> omega⟩)
 have hkx:=qd hkx0
 have HRs:=qd (fun (l':Bs) V (hV:Hid (Bl w0 V)) (hw:Wt w0.heap.size b l' V)=>wrest_ok w0 b l' true _ sk (n.names.drop m) n.kids V hV.out hE hw hrd (by rw [List.length_drop]; omega) (fun y hy=>hN y (List.mem_of_mem_drop hy)) hn.rn hX)
 have HA:=qd (fun (l' s:Bs) (hs:s.length≤268435457) V (hV:Bl w0 V) (hw:Wt w0.heap.size b l' V)=>jz w0 b l' s V hV hw (by omega))
 have HA91:=qd (fun l' V hV hw=>HA.out l' [91] (by decide) V hV hw)
 have HA93:=qd (fun l' V hV hw=>HA.out l' [93] (by decide) V hV hw)
 have HBt:=qd (fun (l':Bs) (i:Nat) V (hV:Bl w0 V) (hw:Wt w0.heap.size b l' V)=>between_ok w0 b l' [32] i V hV hw (by decide))
 have HAb:=qd (fun l' V hV hw=>HA.out l' [32,124] (by decide) V hV hw)
 have HN:=qd hN
 have HB:=qd hb
 have H:=qd h
 have hblt:=h.lt
 have hRS:=qd rs
 have HPt:=qd (parPc_take n.names)
 have e:Hid (qH l (blockPc m n.names n.kids)=zU (qH (zU (qH (zU l [91]) (parPc (n.names.take m) true)) [32,124]) (jt true (n.names.drop m) n.kids)) [93]):=qd (by
  unfold blockPc;rw [if_pos hm,decide_eq_true hm];simp only [jh,zw,jR])
 generalize hbp:blockPc m n.names n.kids=BP at *
 generalize jt true (n.names.drop m) n.kids=RP at *
 generalize hln:n.names.length=ln at *
 clear h hb hE hX hN rs hrd hn hbp hnum hsn hkx0
 go_enter Tryz.func135,Tryz.ntmps135
 go_wp2_with (go_at_call 68; refine (HA91.out _ _ HB.out H.out).mono ?_; rintro e w1 ⟨rfl,k1⟩)
 have hR1:Hid (Bl w0 w1):=qd (k1.bl HB.out)
 have K1:=qd (k1.trans (Wk.ofBl k1.wt hR1.out (qV w1)))
 clear k1
 refine wp_region_held_drew (S:=fun V=>V.cell? ⟨kb,ko+2,none⟩=some (.int .i64 (m:Nat))∧V.cell? ⟨kb,ko+4,none⟩=some (.slice (some ⟨g,off,none⟩) ln cn)) (by kernel_rfl) (HS1.out _ (hbd hR1)) (fun hHeld=>?_)
 refine tq (i:=0) ?_
 try simp only [Act.put,qq]
 refine tq (i:=1) ?_
 try simp only [Act.put,qq]
 refine tq (i:=2) ?_
 try simp only [Act.put,qq]
 refine tq (i:=3) ?_
 try simp only [Act.put,qq]
 refine tq (i:=4) ?_
 try simp only [Act.put,qq]
 refine tq (i:=5) ?_
 try simp only [Act.put,qq]
 refine tq (i:=6) ?_
 try simp only [Act.put,qq]
 refine tq (i:=7) ?_
 try simp only [Act.put,qq]
 refine wpAnyH_take (i:=8) (v:=.slice (some ⟨g,off,none⟩) m cn) rfl (by kernel_rfl) (by kernel_rfl) (by kernel_rfl) (fun _ _ _ h=>h) (Or.inl ⟨by rfl,?_⟩) (by assumption) ?_
 ·(intro w hSw; (try dsimp only at hSw); (try go_split_ands); go_simp; try first | omega | rfl | (simp; omega))
 try simp only [Act.put,qq]
 refine tq (i:=9) ?_
 try simp only [Act.put,qq]
 refine tq (i:=10) ?_
 try simp only [Act.put,qq]
 refine wpAnyH_done (by kernel_rfl) ?_ _
 go_wp2_with fail
 go_loopw [18] (fun q wr=>∃ i:Nat,i≤m∧q=.int .i64 i∧Hid (Wk w0 b (qH (zU l [91]) (parPc (n.names.take i) true)) w wr)) (fun q _=>m - (intOf q).toNat)
 case atStart=>exact ⟨0,Nat.zero_le _,rfl,K1⟩
 case round =>
  obtain ⟨i,hi,rfl,hk⟩:=hrel;have hRw:Hid (Bl w0 wr):=qd (hk.out.bl HB.out)
  by_cases hin:i < m
  ·have hii:(i:Int) < m:=by omega
   have hil:i < ln:=by omega
   obtain ⟨p',c',e',hc',hp'⟩:=hRS.out;injection e' with e1 e2 e3
   obtain ⟨g',off',e4,hg,hcs⟩:=hp' (by omega)
   rw [← e1] at e4;injection e4 with e4
   injection e4 with q1 q2
   subst q1; subst q2;have x0:wr.cell? ⟨g,off+i,none⟩=some (.string (ba (n.names.getD i []))):=by rw [World.cell?_of_block (w:=w0) (hRw.out.block g hg)]; exact hcs i (by omega)
   have hxl:(n.names.getD i []).length≤268435456:=HN.out _ (by
    rw [List.getD_eq_getElem?_getD,List.getElem?_eq_getElem (by omega)]; exact List.getElem_mem _)
   have hstep:Hid (qH (zU l [91]) (parPc (n.names.take (i+1)) true)=zU (qH (qH (zU l [91]) (parPc (n.names.take i) true)) (btwPc i [32])) (58 :: n.names.getD i [])):=qd (by rw [HPt.out i (by omega)]; simp only [jh,zw,jR])
   have HB2:=qd (HBt.out _ i wr hRw.out hk.out.wt);have HA3:=qd (fun l' V hV hw=>HA.out l' (58 :: n.names.getD i []) (by rw [List.length_cons]; omega) V hV hw)
   have hcat:(⟨#[58]⟩:ByteArray)++ba (n.names.getD i [])=ba (58 :: n.names.getD i []):=ba_app [58] (n.names.getD i []);have hsz:(ba (n.names.getD i [])).size=(n.names.getD i []).length:=by rw [← qo,qJ]
   generalize n.names.getD i []=x at *;clear HPt HBt HAb HA HA91 HA93 HS1 HS9 HRs hcs hp' e1 hRS
   go_wp2_with (first
    | (go_at_call 106; refine HB2.out.mono ?_; rintro e w3 ⟨rfl,k3⟩)
    | (go_at_call 68; refine (HA3.out _ _ (k3.bl hRw.out) k3.wt).mono ?_; rintro e w4 ⟨rfl,k4⟩))
   go_roundw
   case rel=>exact ⟨i+1,by omega,by go_num,qd (by rw [hstep.out]; exact (hk.out.trans k3).trans k4)⟩
   case measure=>simp [intOf]; omega
  ·have hie:¬ (i:Int) < m:=by omega
   have hi2:i=m:=by omega
   subst hi2;have hm0:(0:Int) < i:=by omega
   obtain ⟨y1,y2,y3⟩:=HS9.out wr hRw;clear HPt HBt HA HA91 HS1 hRS HN
   go_wp2_with (go_at_call 68; refine (HAb.out _ _ hRw.out hk.out.wt).mono ?_; rintro e w8 ⟨rfl,k8⟩)
   have hR9:Hid (Bl w0 w8):=qd (k8.bl hRw.out);have hD9:=qd (Wk.ofBl k8.wt hR9.out (qV w8));have hW9:=qd hD9.out.wt;refine wp_region_held_drew (S:=fun V=>V.cell? ⟨kb,ko+2,none⟩=some (.int .i64 (i:Nat))∧V.cell? ⟨kb,ko+4,none⟩=some (.slice (some ⟨g,off,none⟩) ln cn)∧V.cell? ⟨kb,ko+6,none⟩=some sk) (by kernel_rfl) (HS9.out _ (hbd hR9)) (fun hHeld=>?_)
   refine tq (i:=0) ?_
   try simp only [Act.put,qq]
   refine tq (i:=1) ?_
   try simp only [Act.put,qq]
   refine tq (i:=2) ?_
   try simp only [Act.put,qq]
   refine tq (i:=3) ?_
   try simp only [Act.put,qq]
   refine tq (i:=4) ?_
   try simp only [Act.put,qq]
   refine wpAnyH_take (i:=5) (v:=.bool true) rfl (by kernel_rfl) (by kernel_rfl) (by kernel_rfl) (fun _ _ _ h=>h) (Or.inl ⟨by rfl,?_⟩) (by assumption) ?_
   ·(intro w hSw; (try dsimp only at hSw); (try go_split_ands); go_simp; try first | rfl | (simp; done) | (simp; omega))
   try simp only [Act.put,qq]
   refine tq (i:=6) ?_
   try simp only [Act.put,qq]
   refine tq (i:=7) ?_
   try simp only [Act.put,qq]
   refine tq (i:=8) ?_
   try simp only [Act.put,qq]
   refine tq (i:=9) ?_
   try simp only [Act.put,qq]
   refine tq (i:=10) ?_
   try simp only [Act.put,qq]
   refine tq (i:=11) ?_
   try simp only [Act.put,qq]
   refine tq (i:=12) ?_
   try simp only [Act.put,qq]
   refine tq (i:=13) ?_
   try simp only [Act.put,qq]
   refine wpAnyH_take (i:=14) (v:=.slice (some ⟨g,nx,none⟩) (ln - i) (cn - i)) rfl (by kernel_rfl) (by kernel_rfl) (by kernel_rfl) (fun _ _ _ h=>h) (Or.inl ⟨by rfl,?_⟩) (by assumption) ?_
   ·(intro w hSw; (try dsimp only at hSw); (try go_split_ands); (rcases hkx.out with ⟨hx1,hx2⟩ | ⟨hx1,hx2⟩ <;> (rw [hx2]; go_simp; try first | omega | rfl | (simp [hx1]; done) | (simp [hx1]; omega))))
   try simp only [Act.put,qq]
   refine tq (i:=15) ?_
   try simp only [Act.put,qq]
   refine tq (i:=16) ?_
   try simp only [Act.put,qq]
   refine tq (i:=17) ?_
   try simp only [Act.put,qq]
   refine tq (i:=18) ?_
   try simp only [Act.put,qq]
   refine qU (i:=19) (by kernel_rfl) rfl (fun K hK=>?_)
   refine qO (by rfl) 39 Tryz.f39 Tryz.func39 (by kernel_rfl) (by kernel_rfl) _ _ rfl _ (by first | (simp [Act.eval]; done) | (simp [Act.eval]; rfl)) _ (HRs.out _ _ (hbd hR9) hW9.out) ?_
   rintro _ w9 ⟨rfl,k9⟩;refine hK.out _ _ (HS9.out _ (qd (k9.bl (hbd hR9).out))) (fun hHeld=>?_)
   clear hK K
   try simp only [Act.put,qq]
   refine wpAnyH_done (by kernel_rfl) ?_ _
   go_wp2_with (go_at_call 68; refine (HA93.out _ _ (k9.bl (hbd hR9).out) k9.wt).mono ?_; rintro e w10 ⟨rfl,k10⟩)
   go_end0
   exact ⟨rfl,by rw [e.out]; exact (((hk.out.trans k8).trans hD9.out).trans k9).trans k10⟩
theorem nDig_le':∀ (k u:Nat),u < 10 ^ (k+1)→Lib.nDigits u≤k+1:=by
 intro k
 induction k with
 | zero=>intro u h; rw [Lib.nDigits_small (by simpa using h)]; exact Nat.le_refl _
 | succ k ih =>
  intro u h
  by_cases hu:u < 10
  ·rw [Lib.nDigits_small hu]; omega
  ·rw [Lib.nDigits_big hu]
   have:=ih (u / 10) (by rw [Nat.pow_succ] at h; omega)
   omega
theorem itoaB_len (n:Int) (h1:-1073741824≤n) (h2:n≤1073741824):(itoaB n).length≤20:=by
 unfold itoaB Lib.itoa
 split
 ·rw [List.length_cons,Lib.decDigits_length]
  have:=nDig_le' 9 n.natAbs (by omega)
  omega
 ·rw [Lib.decDigits_length]
  have:=nDig_le' 9 n.toNat (by omega)
  omega
theorem zW (n:Nt):qP n=qP (.mk n.kind n.text n.num n.names n.kids):=by cases n; rfl
theorem nd1 (n:Nt) (hk:n.kind=1) (h1:-1073741824≤n.num) (h2:n.num≤1073741824):CW n:=by
 intro w0 b l w kb ko hb hE hnt h
 obtain ⟨sn,sk,hn⟩:=hnt.nod
 have k:=hn.keep hb
 have c0:=k.c0
 have c2:=k.c2
 have e:Hid (qH l (qP n)=zU l (itoaB n.num)):=qd (by rw [zW,hk]; simp [qP]; rfl)
 rw [hk] at c0
 have hl:=itoaB_len n.num h1 h2
 have HI:=qd (fun V (kv:Bl w V)=>itoaI_ok n.num V (by omega) (by omega) (hE.mono (hb.trans kv)).pw)
 have HA:=qd (fun V (kv:Bl w V)=>jz w0 b l (itoaB n.num) V (hb.trans kv) (Wk.ofBl h hb kv).wt (by omega))
 have HK:=qd (fun V (kv:Bl w V)=>Wk.ofBl h hb kv)
 have HI1:=qd (HI.out w (Bl.refl _))
 generalize qP n=P at *
 generalize itoaB n.num=IT at *
 clear h hn k hnt hE hk HI
 go_enter Tryz.func109,Tryz.ntmps109
 go_wp2_with (first
  | (go_at_call 131; refine HI1.out.mono ?_; rintro e w1 ⟨rfl,b1⟩)
  | (go_at_call 68; refine (HA.out _ b1).mono ?_; rintro e w2 ⟨rfl,k2⟩))
 go_end0
 exact ⟨rfl,by rw [e.out]; exact (HK.out _ b1).trans k2⟩
theorem nd2 (n:Nt) (hk:n.kind=2):CW n:=by
 intro w0 b l w kb ko hb hE hnt h
 obtain ⟨sn,sk,hn⟩:=hnt.nod
 have k:=hn.keep hb
 have c0:=k.c0
 have c1:=k.c1
 have e:Hid (qH l (qP n)=zU l (wr ⟨6,n.text,0⟩)):=qd (by rw [zW,hk]; simp [qP]; rfl)
 rw [hk] at c0
 have HA:=qd (word_ok w0 b l n.text 6 w hb hE h hn.t (Or.inr rfl) (can6 _))
 generalize qP n=P at *
 clear h hn k hnt hE hk
 go_enter Tryz.func109,Tryz.ntmps109
 go_wp2_with (go_at_call 132; refine HA.out.mono ?_; rintro e w2 ⟨rfl,k2⟩)
 go_end0
 exact ⟨rfl,by rw [e.out]; exact k2⟩
theorem nd3 (n:Nt) (hk:n.kind=3) (hs:symB n.text=true):CW n:=by
 intro w0 b l w kb ko hb hE hnt h
 obtain ⟨sn,sk,hn⟩:=hnt.nod
 have k:=hn.keep hb
 have c0:=k.c0
 have c1:=k.c1
 have e:Hid (qH l (qP n)=zU l (wr ⟨5,n.text,0⟩)):=qd (by rw [zW,hk]; simp [qP]; rfl)
 rw [hk] at c0
 have HA:=qd (word_ok w0 b l n.text 5 w hb hE h hn.t (Or.inl rfl) ((can5 _).2 hs))
 generalize qP n=P at *
 clear h hn k hnt hE hk hs
 go_enter Tryz.func109,Tryz.ntmps109
 go_wp2_with (go_at_call 132; refine HA.out.mono ?_; rintro e w2 ⟨rfl,k2⟩)
 go_end0
 exact ⟨rfl,by rw [e.out]; exact k2⟩
theorem nd56 (n:Nt) (hk:n.kind=5∨n.kind=6):CW n:=by
 intro w0 b l w kb ko hb hE hnt h
 obtain ⟨sn,sk,hn⟩:=hnt.nod
 have k:=hn.keep hb
 have c0:=k.c0
 have c1:=k.c1
 have e:Hid (qH l (qP n)=zU l n.text):=qd (by rcases hk with hk | hk <;> (rw [zW,hk]; simp [qP]; rfl))
 have ht:=hn.t
 have HA:=qd (jz w0 b l n.text w hb h (by omega))
 generalize qP n=P at *
 clear h hn k hnt hE
 rcases hk with hk | hk
 ·rw [hk] at c0
  clear hk
  go_enter Tryz.func109,Tryz.ntmps109
  go_wp2_with (go_at_call 68; refine HA.out.mono ?_; rintro e w2 ⟨rfl,k2⟩)
  go_end0
  exact ⟨rfl,by rw [e.out]; exact k2⟩
 ·rw [hk] at c0
  clear hk
  go_enter Tryz.func109,Tryz.ntmps109
  go_wp2_with (go_at_call 68; refine HA.out.mono ?_; rintro e w2 ⟨rfl,k2⟩)
  go_end0
  exact ⟨rfl,by rw [e.out]; exact k2⟩
theorem nd7 (n:Nt) (hk:n.kind=7):CW n:=by
 intro w0 b l w kb ko hb hE hnt h
 obtain ⟨sn,sk,hn⟩:=hnt.nod
 have k:=hn.keep hb
 have c0:=k.c0
 have e:Hid (qH l (qP n)=zU l [115,117,112,101,114]):=qd (by rw [zW,hk]; simp [qP]; rfl)
 have HA:=qd (jz w0 b l [115,117,112,101,114] w hb h (by decide))
 generalize qP n=P at *
 rw [hk] at c0
 clear h hn k hnt hE hk
 go_enter Tryz.func109,Tryz.ntmps109
 go_wp2_with (go_at_call 68; refine HA.out.mono ?_; rintro e w2 ⟨rfl,k2⟩)
 go_end0
 exact ⟨rfl,by rw [e.out]; exact k2⟩
end Go.Proofs.YtfhkhmgodkheaaaGreatDoor
