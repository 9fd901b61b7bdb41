import Derived.Test.YtflgicdbbogllaaGreatDoorPG03HWipe
import Derived.Deep.MidRow
set_option maxHeartbeats 1000000
set_option maxRecDepth 20000
set_option linter.unusedSimpArgs false
set_option linter.unusedVariables false
namespace Go.Proofs.YtflgicdbbogllaaGreatDoor
open Go.RowKit Tryz
open Value (int)
open IntKind (i64)
attribute [local go_sem ↓] wp_at_zero wp_at_succ
variable {w : World}
def kOx (H : HS) (oop : Nat) : HS :=
 {H with mem := splice H.mem (H.fD.getD oop (0, 0, 0)).1 (List.replicate (H.fD.getD oop (0, 0, 0)).2.1 0), fC := H.fC.set (H.fD.getD oop (0, 0, 0)).2.2 0, fD := H.fD.set oop (0, 0, 0) }
def vacH (H : HS) (oop : Nat) : HS := remH (kOx H oop) oop
structure kKh (H : HS) (oop : Nat) : Prop where
 o1 : 1 ≤ oop
 o2 : oop < H.fD.length
 o3 : oop ≤ 65537
 s1 : 1 ≤ (H.fD.getD oop (0, 0, 0)).2.1
 s2 : (H.fD.getD oop (0, 0, 0)).1 + (H.fD.getD oop (0, 0, 0)).2.1 ≤ H.mem.length
 s3 : (H.fD.getD oop (0, 0, 0)).2.2 < H.fC.length
 b1 : (oop - 1) / 64 < H.bits.length
 b2 : ∀ k, H.bits.getD k 0 ≤ full
 c1 : 1 ≤ H.count
 c2 : H.count ≤ 65536
 c3 : H.low ≤ 65536
 m1 : H.mem.length ≤ 1048576
 r1 : H.fC.length ≤ 1048576
 t1 : H.fD.length ≤ 65538
theorem kEn (oop : Nat) (a : Nat) (l : Lay) (H : HS) (w : World) (h : Rep w a l H) (hv : kKh H oop) :
  Calls prog 112 #[.pointer (some ⟨a, 0, none⟩), int i64 oop] w fun e w' => e = .returned (.tuple #[]) ∧ Rep w' a l (vacH H oop) ∧ Nx a l l w w' := by
 obtain ⟨v1, v2, v3, v4, v5, v6, v7, v8, v9, v10, v11, v12, v13, v14⟩ := hv;have hal := h.lt a (by simp [foot]);obtain ⟨gs, hgs, hcs, hfs, hgsa, hgsl⟩ := h.seatAt oop v2;obtain ⟨q0, q1, q2⟩ := hcs oop v2;have c5 := h.c5;rw [hgs] at c5;simp only [I] at q0 q1 q2;obtain ⟨⟨p, L, t⟩, hs⟩ : ∃ s, s = H.fD.getD oop (0, 0, 0) := ⟨_, rfl⟩
 have HV : Hid (vacH H oop = remH { H with mem := splice H.mem p (List.replicate L 0), fC := H.fC.set t 0, fD := H.fD.set oop (0, 0, 0) } oop) := by
  unfold vacH kOx Hid;rw [← hs]
 rw [← hs] at v4 v5 v6 q0 q1 q2;dsimp only at v4 v5 v6 q0 q1 q2;have HR := kAA h;have o1 := ng oop;have o2 : (oop : Int) < H.fD.length := by omega
 clear h hcs hfs hs;generalize vacH H oop = HX at *;go_enter func112, ntmps112
 go_wp2
 go_cut [] (fun W => Hid (Rep W a l { H with mem := splice H.mem p (List.replicate L 0) } ∧ Nx a l l w W ∧ W.heap[w.heap.size]? = some (.cells #[int i64 p, int i64 L, int i64 t] 148 (0, 0))))
 case first =>
  obtain ⟨g, hg, _, _, hga, hgl⟩ := HR.out.memBlock (by omega);obtain ⟨C, hC, hCl, hCs, hcm⟩ := HR.out.memCells hg;have hml := HR.out.ml;have c4 := HR.out.c4;rw [hg] at c4;obtain ⟨o3, ho3⟩ := jex (Obj.cells #[int i64 p, int i64 L, int i64 t] 148);have C4 := (jAE w o3 ⟨a, 4, none⟩ (by show a < _; omega)).trans c4;have hn3 := heap_alloc_new w o3;rw [ho3] at hn3;have T0 := kAC hn3 0;have T1 := kAC hn3 1;rw [← ho3] at T0 T1;simp only [jAX, jAe, jAW] at T0 T1
  have hC3 : Hid ((w.alloc o3).heap[g]? = some (.cells C 41 (0, 0)) ∧ Rep (w.alloc o3) a l H ∧ Nx a l l w (w.alloc o3) ∧ (w.alloc o3).heap[w.heap.size]? = some (.cells #[int i64 p, int i64 L, int i64 t] 148 (0, 0)) ∧ w.heap.size ≠ g ∧ w.heap.size < (w.alloc o3).heap.size) :=
   ⟨(jAN _ _ _ hgl).trans hC, HR.out.alloc _, Nx.frw (Fr.alloc _ _ _), by rw [ho3]; exact heap_alloc_new _ _, by omega, by simp⟩
  rw [← ho3];clear ho3 hn3 hC hCl c4 q0 q1 q2 c5;generalize w.alloc o3 = w3 at *;have k1 := ng p;have k2 : (p : Int) + (L : Int) ≤ l.cm := by omega
  have k4 : (p : Int) ≤ p + (L : Int) := by omega
  have k5 : IntKind.i64.wrap ((p : Int) + (L : Int)) = (p : Int) + (L : Int) := by rw [kBp]; unfold wrap64; omega
  have e1 : ((p : Int) + (L : Int)).toNat = p + L := by omega
  have e2 : (if l.cm = p then some (⟨g, 0, none⟩ : Addr) else some ⟨g, p, none⟩) = some ⟨g, p, none⟩ := by rw [jn (by omega)]
  have hcp : ¬ l.cm = p := by omega
  generalize hmm : H.mem.length = m at *;have HMM := kAA hmm;clear hmm
  go_region_held3 (fun w' => w'.cell? ⟨a, 4, none⟩ = some (.slice (some ⟨g, 0, none⟩) m l.cm) ∧ w'.cell? ⟨w.heap.size, 0, none⟩ = some (int i64 p) ∧ w'.cell? ⟨w.heap.size, 1, none⟩ = some (int i64 L)) (go_keep)
   ((refine kJR rfl (.tmp 23) rfl g p L (l.cm - p) (by simp [Act.eval]) (by omega) C (by exact hC3.out.1) (by omega) ?_; intro w4 hh1 hh2 hh3; have y4 := hh2.cell (p := ⟨a, 4, none⟩) (by exact (by have := hC3.out.2.1.lt a (by simp [foot]); exact this)) (by simp; omega); have z0 := hh2.cell (p := ⟨w.heap.size, 0, none⟩) (by exact hC3.out.2.2.2.2.2) (by simp; exact hC3.out.2.2.2.2.1); have z1 := hh2.cell (p := ⟨w.heap.size, 1, none⟩) (by exact hC3.out.2.2.2.2.2) (by simp; exact hC3.out.2.2.2.2.1)))
  all_goals go_wp2
  all_goals
   go_meet
   case rel =>
    have hfr : Fr [g] w3 w4 := Fr.trans (S' := [g]) (Fr.drew [g] w3) hh2 (fun b hb => .inl hb);rw [kHC] at hh1;have K := hC3.out.2.1.spliced hg hC3.out.1 (by rw [HMM.out]; simpa using v5) hh1 hfr;refine kAA ⟨K.1, hC3.out.2.2.1.trans K.2, ?_⟩;rw [hfr.block _ hC3.out.2.2.2.2.2 (by simp; exact hC3.out.2.2.2.2.1)];exact hC3.out.2.2.2.1
 case rest =>
  obtain ⟨w2, hw2⟩ := jex (wc);subst hw2;clear q0 q1 q2 c5 HR;obtain ⟨hr, hx, hsb⟩ := hcut.out;clear hcut;obtain ⟨go, hgo, hco, hfo, hgoa, hgol⟩ := hr.orderAt t v6;have c6 := hr.c6;rw [hgo] at c6;have o3 := hco t v6;have f3 := hfo t;have T2 := kAC hsb 2;simp only [jAX, jAe, jAW] at T2;dsimp only at c6 o3
  have HE : Hid (∀ W, Eqw (w2.setCell ⟨go, t, none⟩ (int i64 0)) W → Rep W a l { H with mem := splice H.mem p (List.replicate L 0), fC := H.fC.set t 0 } ∧ Nx a l l w W) := by
   intro W he;have K := hr.setOrder hgo t 0 W he;exact ⟨K.1, hx.trans K.2⟩
  have a1 := ng t;have a2 : (t : Int) < H.fC.length := by omega
  generalize H.fC.getD t 0 = ov at *;clear hr hx hsb hco hfo hgo
  go_wp2
  go_cut [] (fun W => Hid (Rep W a l { H with mem := splice H.mem p (List.replicate L 0), fC := H.fC.set t 0 } ∧ Nx a l l w W))
  case first =>
   go_region
   all_goals go_wp2
   all_goals
    go_meet
    case rel =>
     refine kAA (HE.out _ ?_);exact kAS _
  case rest =>
   obtain ⟨w3, hw3⟩ := jex (wc);subst hw3;clear c6 o3 f3 T2 HE;obtain ⟨hr, hx⟩ := hcut.out;clear hcut;obtain ⟨g2, hg2, hc2, hf2, _, _⟩ := hr.seatAt oop v2;obtain ⟨q0, q1, q2⟩ := hc2 oop v2;have c5 := hr.c5;rw [hg2] at c5;have p0 := hf2 (oop * 3);have p1 := hf2 (oop * 3 + 1);have p2 := hf2 (oop * 3 + 2);simp only [I] at q0 q1 q2;dsimp only at c5 q0 q1 q2;generalize (H.fD.getD oop (0, 0, 0)).1 = y0 at *;generalize (H.fD.getD oop (0, 0, 0)).2.1 = y1 at *;generalize (H.fD.getD oop (0, 0, 0)).2.2 = y2 at *
   have HE : Hid (∀ W, Eqw (((w3.setCell ⟨g2, oop * 3, none⟩ (int i64 0)).setCell ⟨g2, oop * 3 + 1, none⟩ (int i64 0)).setCell ⟨g2, oop * 3 + 2, none⟩ (int i64 0)) W → Calls prog 142 #[.pointer (some ⟨a, 7, none⟩), int i64 oop] W fun e w' => e = .returned (.tuple #[]) ∧ Rep w' a l HX ∧ Nx a l l w w') := by
    intro W he;have K := hr.setSeat hg2 oop v2 (0, 0, 0) W he;rw [HV.out];refine (kJo oop a l _ W K.1 (by omega) (by omega) v7 v8 v9 (by dsimp only; omega) (by dsimp only; omega)).mono ?_;rintro e w' ⟨rfl, k1, k2⟩;exact ⟨rfl, k1, (hx.trans K.2).trans k2⟩
   clear hr hx hg2 hc2 hf2
   go_wp2_with fail
   refine Calls.mono (HE.out _ ?_) ?_
   ·exact ⟨rfl, rfl, rfl, rfl⟩
   ·rintro e w5 ⟨rfl, hr5, hx5⟩;have HR5 := kAA hr5;have HX5 := kAA hx5;clear hr5 hx5 HE
    go_wp2
    go_end0
    exact ⟨rfl, HR5.out, HX5.out⟩
theorem kLV {ops : Array Oper} {o : Oper} {a : Act} {w : World} {K : Act → World → Prop} {Q : Exit → Act → World → Prop} {E : Prop} (hgd : o.guard = none) (d s : Operand) 
  (ho : o.op = .call { callee := .builtin .copy, args := #[d, s], argTypes := #[35, 35] }) (g off p dLen dCap L sCap : Nat) (hd : a.eval d = .slice (some ⟨g, off, none⟩) dLen dCap) (hs : a.eval s = .slice (some ⟨g, p, none⟩) L sCap)
  (C : Array Value) (hg : w.heap[g]? = some (.cells C 41 (0, 0))) (hL : L ≤ dLen) (hp : p + L ≤ C.size) (ho2 : off + L ≤ C.size) (h1 : ∀ v ∈ C.toList, v.oneCell' = true)
  (h : ∀ w', w'.heap[g]? = some (.cells (splice C.toList off ((C.toList.drop p).take L)).toArray 41 (0, 0)) → Fr [g] w w' → w'.heap.size = w.heap.size → K (a.put o.dst (goInt L)) w') :
  if Region.wanted o (yielded ops a.tmps) = true then Oper.wp prog o a w K Q else E := by
 have hw : Region.wanted o (yielded ops a.tmps) = true := by simp [Region.wanted, hgd]
 rw [jp hw];have hcl : ((C.toList.drop p).take L).length = L := by simp; omega
 have hsz : (prog.info? 41).map (·.size) = some 1 := by
  obtain ⟨i0, hi, hz0, hz1, hz2⟩ := info_parts kCx;rw [hi]; simp [hz1]
 have hrun := run_copy_row (P := prog) w 35 35 o.type 41 g off dLen dCap ⟨g, p, none⟩ L sCap C 41 ((C.toList.drop p).take L) underlying35 hsz hg (by rw [hcl]; exact (jBK hL).symm)
  (fun j v hv => by
   rw [Addr.add_mid, kAC hg];rw [jAx] at hv
   split at hv
   ·simpa using hv
   ·cases hv) (by rw [hcl]; exact ho2) (fun v hv => h1 v (List.mem_of_mem_drop (jBj hv)))
 unfold Oper.wp
 simp [execOp, ho, resolve, invoke, builtin, hd, hs, hrun, Result.andThen]
 have hh := h _ (setRow_heap w g C (splice C.toList off ((C.toList.drop p).take L)).toArray 41 _ hg) (Fr.setRow w g _ (by simp)) (by simp);simp only [splice, hcl] at hh;have e1 : min L (C.size - p) = L := by omega
 rw [e1];exact hh
structure Sl where
 H : HS
 turns : Nat
 en : Nat
def kAW (x : Sl) (k : Nat) : Sl :=
 if x.H.fC.getD k 0 = 0 then x else
  {H := { x.H with mem := splice x.H.mem x.en ((x.H.mem.drop (x.H.fD.getD (x.H.fC.getD k 0) (0, 0, 0)).1).take (x.H.fD.getD (x.H.fC.getD k 0) (0, 0, 0)).2.1), fD := x.H.fD.set (x.H.fC.getD k 0) (x.en, (x.H.fD.getD (x.H.fC.getD k 0) (0, 0, 0)).2.1, x.turns), fC := x.H.fC.set x.turns (x.H.fC.getD k 0) }
   turns := x.turns + 1
   en := x.en + (x.H.fD.getD (x.H.fC.getD k 0) (0, 0, 0)).2.1 }
def kAM (H : HS) : Nat → Sl
 | 0 => ⟨H, 0, 0⟩
 | k + 1 => kAW (kAM H k) k
structure kOd (x : Sl) (oop : Nat) : Prop where
 o : oop < x.H.fD.length
 s1 : 1 ≤ (x.H.fD.getD oop (0, 0, 0)).2.1
 s2 : (x.H.fD.getD oop (0, 0, 0)).1 + (x.H.fD.getD oop (0, 0, 0)).2.1 ≤ x.H.mem.length
 s3 : x.en + (x.H.fD.getD oop (0, 0, 0)).2.1 ≤ x.H.mem.length
structure kEt (H : HS) : Prop where
 step : ∀ k, k < H.fC.length → (kAM H k).H.fC.getD k 0 ≠ 0 → kOd (kAM H k) ((kAM H k).H.fC.getD k 0)
 m1 : H.mem.length ≤ 1048576
 r1 : H.fC.length ≤ 1048576
 t1 : H.fD.length ≤ 65538
theorem kCc (H : HS) (hk : kEt H) : ∀ k, k ≤ H.fC.length → (kAM H k).H.mem.length = H.mem.length ∧ (kAM H k).H.fC.length = H.fC.length ∧ (kAM H k).H.fD.length = H.fD.length ∧ (kAM H k).turns ≤ k ∧ (kAM H k).en ≤ H.mem.length := by
 intro k
 induction k with
 | zero => intro _; exact ⟨rfl, rfl, rfl, jAD _, jAH _⟩
 | succ k ih =>
  intro hle;obtain ⟨h1, h2, h3, h4, h5⟩ := ih (by omega);have hs := hk.step k (by omega);show (kAW (kAM H k) k).H.mem.length = _ ∧ (kAW (kAM H k) k).H.fC.length = _ ∧ (kAW (kAM H k) k).H.fD.length = _ ∧ (kAW (kAM H k) k).turns ≤ _ ∧ (kAW (kAM H k) k).en ≤ _;unfold kAW
  split
  ·exact ⟨h1, h2, h3, by omega, h5⟩
  ·rename_i hne
   have hq := hs hne;have := hq.s2;have := hq.s3;refine ⟨?_, by simpa using h2, by simpa using h3, by dsimp only; omega, by dsimp only; omega⟩;dsimp only;rw [length_splice _ _ _ (by rw [jAk, jBl]; omega)];exact h1
theorem kDx {e : TypeId} {ao : Option Addr} {n c k : Nat} {xs : List Value} (h : w.ownsRow 0 e 1 (.slice ao n c) n xs) (hk : k ≤ n) : w.ownsRow 0 e 1 (.slice ao k c) k (xs.take k) := by
 have hl := h.1;refine ⟨by simp; omega, ?_⟩;rcases h.2 with ⟨h2, h3⟩ | ⟨g, cap, cur, h2, h3, h4, h5, h6, h7, h8⟩
 ·injection h2 with q1 q2 q3
  subst q1;subst q3;exact .inl ⟨by rw [show k = 0 from by omega], by omega⟩
 ·injection h2 with q1 q2 q3
  subst q1;subst q3;refine .inr ⟨g, c, cur, rfl, h3, h4, by omega, h6, h7, ?_⟩;rw [← h8, List.take_take]
  congr 1
  omega
theorem Rep.cut {a : Nat} {l : Lay} {H : HS} {tn en : Nat} (h : Rep w a l H) (ht : tn ≤ H.fC.length) (hen : en ≤ H.mem.length) (hz : H.mem = H.mem.take en ++ List.replicate (H.mem.length - en) 0) (W : World) 
  (he : Eqw ((w.setCell ⟨a, 6, none⟩ (.slice l.po tn l.co)).setCell ⟨a, 4, none⟩ (.slice l.pm en l.cm)) W) : Rep W a l { H with mem := H.mem.take en, fC := H.fC.take tn } ∧ Nx a l l w W := by
 have ho := kDx h.fC ht;rw [← jBS] at ho;have hol : (H.fC.take tn).length = tn := by simp; omega
 have K1 := h.putOrder (po := l.po) (co := l.co) (os := H.fC.take tn) (fun _ _ => rfl) (by rw [hol]; exact ho);rw [hol] at K1;have hml := h.ml;have hmt : (H.mem.take en).length = en := by simp; omega
 have e : H.mem.take en ++ List.replicate (l.cm - (H.mem.take en).length) (0 : Int) = H.mem ++ List.replicate (l.cm - H.mem.length) 0 := by
  rw [hmt]
  conv => rhs; rw [hz]
  rw [jAu, jBN]
  congr 2
  simp
  omega
 have K2 := K1.putMem (pm := l.pm) (cm := l.cm) (ms := H.mem.take en) (by rw [hmt]; omega) (fun _ _ => rfl) (by rw [e]; exact K1.mem);rw [hmt] at K2;exact ⟨K2.eqw he, (Nx.frw ((Fr.setCell (S := foot a l) _ _ _ (by simp [foot])).trans (Fr.setCell (S := foot a l) _ _ _ (by simp [foot])) (fun b hb => .inl hb))).eqw he⟩
def kBS (H : HS) : HS := { (kAM H H.fC.length).H with mem := (kAM H H.fC.length).H.mem.take (kAM H H.fC.length).en, fC := (kAM H H.fC.length).H.fC.take (kAM H H.fC.length).turns }
end Go.Proofs.YtflgicdbbogllaaGreatDoor
