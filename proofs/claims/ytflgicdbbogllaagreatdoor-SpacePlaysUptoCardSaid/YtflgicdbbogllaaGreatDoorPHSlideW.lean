import Derived.Test.YtflgicdbbogllaaGreatDoorPG04HSlide
set_option maxHeartbeats 2000000
set_option maxRecDepth 20000
set_option linter.unusedSimpArgs false
set_option linter.unusedVariables false
namespace Go.Proofs.YtflgicdbbogllaaGreatDoor
open Go.RowKit Tryz
open Value (int)
open IntKind (i64)
attribute [local go_sem ↓] wp_at_zero wp_at_succ
theorem kFj {w : World} {a : Nat} {l : Lay} {H : HS} {C : Array Value} (hCl : C.toList = (H.mem ++ List.replicate (l.cm - H.mem.length) 0).map (int i64)) : ∀ v ∈ C.toList, v.oneCell' = true := by
 rw [hCl]; exact ints_oneCell _ _
theorem kFr (M : List Int) (k p L : Nat) (h : p + L ≤ M.length) : (((M ++ List.replicate k 0).map (int i64)).drop p).take L = ((M.drop p).take L).map (int i64) := by
 rw [jAP, List.drop_append_of_le_length (by simp; omega), jBC (by simp; omega), jBS, List.map_drop]
theorem kIz (w : World) (ty : TypeId) (ao : Option Addr) (c : Nat) : (Builtin.clear_ #[35] ty #[.slice ao 0 c]).run prog w = .ok (.tuple #[]) w := by
 cases ao <;> simp [Builtin.clear_, run_underlying underlying35]
theorem kGA {ops : Array Oper} {rest : List Oper} {o : Oper} {a : Act} {w : World} {Q : Exit → Act → World → Prop} (hgd : o.guard = none) (d : Operand)
  (ho : o.op = .call { callee := .builtin .clear, args := #[d], argTypes := #[35] }) (ao : Option Addr) (c : Nat) (hd : a.eval d = .slice ao 0 c) (h : wpList prog ops Q rest (a.put o.dst (.tuple #[])) w) : wpList prog ops Q (o :: rest) a w := by
 refine wpList_plain hgd fun K hK => ?_
 have hrun := kIz w o.type ao c;unfold Oper.wp
 simp [execOp, ho, resolve, invoke, builtin, hd, hrun, Result.andThen]
 exact hK _ _ h
theorem kNL (a : Nat) (l : Lay) (H : HS) (w : World) (h : Rep w a l H) (hk : kEt H) :
  Calls prog 141 #[.pointer (some ⟨a, 0, none⟩)] w fun e w' => e = .returned (.tuple #[]) ∧ Rep w' a l (kBS H) ∧ Nx a l l w w' := by
 have hal := h.lt a (by simp [foot]);have c6 := h.c6;have hr1 := hk.r1;go_enter func141, ntmps141
 go_wp2
 go_loopw [2, 3, 12] (fun t e c wr => ∃ k : Nat, k ≤ H.fC.length ∧ c = int i64 k ∧ t = int i64 ((kAM H k).turns : Int) ∧ e = int i64 ((kAM H k).en : Int) ∧ Hid (Rep wr a l (kAM H k).H ∧ Nx a l l w wr)) (fun _ _ c _ => H.fC.length - (intOf c).toNat)
 case atStart => exact ⟨0, jAH _, rfl, rfl, rfl, h, Nx.refl _ _ _⟩
 case round =>
  obtain ⟨k, hkn, rfl, rfl, rfl, hq⟩ := hrel;obtain ⟨hr, hx⟩ := hq.out;clear hq h c6;obtain ⟨l1, l2, l3, l4, l5⟩ := kCc H hk k hkn;have hst := hk.step k;have hm1 := hk.m1;have ht1 := hk.t1
  by_cases hlt : k < H.fC.length
  ·have hst := hst hlt;have hnext : Hid (kAM H (k + 1) = kAW (kAM H k) k) := rfl;obtain ⟨x, hxx⟩ := jex (kAM H k);rw [← hxx] at hr l1 l2 l3 l4 l5 hst hnext;rw [← hxx];clear hxx;obtain ⟨Hk, tn, en⟩ := x;dsimp only at *;obtain ⟨go, hgo, hco, hfo, hgoa, hgol⟩ := hr.orderAt k (by omega);have o1 := hco k (by omega);have k1 := ng k;have k2 : (k : Int) < H.fC.length := by omega
   have HK := kAA hk;have b1 : Hk.mem.length ≤ 1048576 := by omega
   have b2 : Hk.fC.length ≤ 1048576 := by omega
   have b3 : Hk.fD.length ≤ 65538 := by omega
   have b4 : en ≤ Hk.mem.length := by omega
   have b5 : tn < Hk.fC.length := by omega
   have LL := kAA (And.intro l1 (And.intro l2 l3));clear l1 l2 l3 l5
   by_cases h0 : Hk.fC.getD k 0 = 0
   ·rw [h0] at o1
    have HN : Hid (kAM H (k + 1) = ⟨Hk, tn, en⟩) := by
     rw [show kAM H (k + 1) = kAW ⟨Hk, tn, en⟩ k from hnext.out];unfold kAW Hid;rw [jp h0]
    have HR := kAA hr;have HX := kAA hx;rw [hgo];clear hr hx hco hfo hst hk hnext h0 hgo
    go_wp2
    go_roundw
    case rel => exact ⟨k + 1, by omega, by go_num, by rw [HN.out], by rw [HN.out], by rw [HN.out]; exact ⟨HR.out, HX.out⟩⟩
    case measure => simp [intOf]; omega
   ·obtain ⟨z1, z2, z3, z4⟩ := hst h0
    have HN : Hid (kAM H (k + 1) = ⟨{ Hk with mem := splice Hk.mem en ((Hk.mem.drop (Hk.fD.getD (Hk.fC.getD k 0) (0, 0, 0)).1).take (Hk.fD.getD (Hk.fC.getD k 0) (0, 0, 0)).2.1), fD := Hk.fD.set (Hk.fC.getD k 0) (en, (Hk.fD.getD (Hk.fC.getD k 0) (0, 0, 0)).2.1, tn), fC := Hk.fC.set tn (Hk.fC.getD k 0) }, tn + 1, en + (Hk.fD.getD (Hk.fC.getD k 0) (0, 0, 0)).2.1⟩) := by
     rw [show kAM H (k + 1) = kAW ⟨Hk, tn, en⟩ k from hnext.out];unfold kAW Hid;rw [jn h0]
    have hob : ((Hk.fC.getD k 0 : Int) == 0) = false := by simpa using h0
    dsimp only at z1 z2 z3 z4;clear hnext hst h0 hk;generalize Hk.fC.getD k 0 = o at *;obtain ⟨gs, hgs, hcs, hfs, hgsa, hgsl⟩ := hr.seatAt o z1;obtain ⟨q0, q1, q2⟩ := hcs o z1;have c5 := hr.c5;rw [hgs] at c5;simp only [I] at q0 q1 q2;obtain ⟨⟨p, L, t⟩, hs⟩ : ∃ s, s = Hk.fD.getD o (0, 0, 0) := ⟨_, rfl⟩
    rw [← hs] at z2 z3 z4 HN q0 q1 q2;dsimp only at z2 z3 z4 HN q0 q1 q2;clear hs hcs hfs;have m0 := ng o;have m1 : (o : Int) < Hk.fD.length := by omega
    have HR := kAA hr;have HX := kAA hx;have hga2 := hr.lt a (by simp [foot]);rw [hgo];clear hr hx hco hfo
    go_wp2
    go_cut [] (fun W => Hid (Rep W a l { Hk with mem := splice Hk.mem en ((Hk.mem.drop p).take L) } ∧ Nx a l l w W ∧ W.heap[wr.heap.size]? = some (.cells #[int i64 p, int i64 L, int i64 t] 148 (0, 0))))
    case first =>
     obtain ⟨g, hg, _, _, hga, hgl⟩ := HR.out.memBlock (by omega);obtain ⟨C, hC, hCl, hCs, hcm⟩ := HR.out.memCells hg;have hml := HR.out.ml;have c4 := HR.out.c4;rw [hg] at c4;obtain ⟨o3, ho3⟩ := jex (Obj.cells #[int i64 p, int i64 L, int i64 t] 148);have C4 := (jAE wr o3 ⟨a, 4, none⟩ (by show a < _; omega)).trans c4;have hn3 := heap_alloc_new wr o3;rw [ho3] at hn3;have T0 := kAC hn3 0;have T1 := kAC hn3 1;rw [← ho3] at T0 T1;simp only [jAX, jAe, jAW] at T0 T1
     have hC3 : Hid ((wr.alloc o3).heap[g]? = some (.cells C 41 (0, 0)) ∧ Rep (wr.alloc o3) a l Hk ∧ Nx a l l w (wr.alloc o3) ∧ (wr.alloc o3).heap[wr.heap.size]? = some (.cells #[int i64 p, int i64 L, int i64 t] 148 (0, 0)) ∧ wr.heap.size ≠ g ∧ wr.heap.size < (wr.alloc o3).heap.size) :=
      ⟨(jAN _ _ _ hgl).trans hC, HR.out.alloc _, HX.out.trans (Nx.frw (Fr.alloc _ _ _)), by rw [ho3]; exact heap_alloc_new _ _, by omega, by simp⟩
     have h1c := kFj (w := wr) (a := a) hCl;have H1C := kAA h1c;have HCL := kAA hCl;rw [← ho3];clear ho3 hn3 hC hCl c4 q0 q1 q2 c5 h1c o1;generalize wr.alloc o3 = w3 at *;have j1 := ng p;have j2 : (p : Int) + (L : Int) ≤ l.cm := by omega
     have j4 : (p : Int) ≤ p + (L : Int) := by omega
     have j5 : IntKind.i64.wrap ((p : Int) + (L : Int)) = (p : Int) + (L : Int) := by rw [kBp]; unfold wrap64; omega
     have e1 : ((p : Int) + (L : Int)).toNat = p + L := by omega
     have hcp : ¬ l.cm = p := by omega
     have hce : ¬ l.cm = en := by omega
     have j6 := ng en;have j7 : (en : Int) ≤ Hk.mem.length := by omega
     generalize hmm : Hk.mem.length = m at *;have HMM := kAA hmm;clear hmm
     go_region_held3 (fun w' => w'.cell? ⟨a, 4, none⟩ = some (.slice (some ⟨g, 0, none⟩) m l.cm) ∧ w'.cell? ⟨wr.heap.size, 0, none⟩ = some (int i64 p) ∧ w'.cell? ⟨wr.heap.size, 1, none⟩ = some (int i64 L)) (go_keep)
      ((refine kLV rfl (.tmp 30) (.tmp 42) rfl g en p (m - en) (l.cm - en) L (l.cm - p) (by simp [Act.eval]) (by simp [Act.eval]) C (by exact hC3.out.1) (by omega) (by omega) (by omega) H1C.out ?_; intro w4 hh1 hh2 hh3; have y4 := hh2.cell (p := ⟨a, 4, none⟩) (by exact (by have := hC3.out.2.1.lt a (by simp [foot]); exact this)) (by simp; omega); have z0 := hh2.cell (p := ⟨wr.heap.size, 0, none⟩) (by exact hC3.out.2.2.2.2.2) (by simp; exact hC3.out.2.2.2.2.1); have z1 := hh2.cell (p := ⟨wr.heap.size, 1, none⟩) (by exact hC3.out.2.2.2.2.2) (by simp; exact hC3.out.2.2.2.2.1)))
     all_goals go_wp2
     all_goals
      go_meet
      case rel =>
       have hfr : Fr [g] w3 w4 := Fr.trans (S' := [g]) (Fr.drew [g] w3) hh2 (fun b hb => .inl hb);rw [HCL.out, kFr _ _ _ _ (by rw [HMM.out]; omega), ← HCL.out] at hh1;have K := hC3.out.2.1.spliced hg hC3.out.1 (by rw [jAk, jBl, HMM.out]; omega) hh1 hfr;refine kAA ⟨K.1, hC3.out.2.2.1.trans K.2, ?_⟩;rw [hfr.block _ hC3.out.2.2.2.2.2 (by simp; exact hC3.out.2.2.2.2.1)];exact hC3.out.2.2.2.1
    case rest =>
     obtain ⟨w2, hw2⟩ := jex (wc);subst hw2;clear q0 q1 q2 c5 o1 HR HX;obtain ⟨hr, hx, hsb⟩ := hcut.out;clear hcut;obtain ⟨g2, hg2, hc2, hf2, _, hg2l⟩ := hr.seatAt o z1;obtain ⟨q0, q1, q2⟩ := hc2 o z1;have c5 := hr.c5;rw [hg2] at c5;have p0 := hf2 (o * 3);have p1 := hf2 (o * 3 + 1);have p2 := hf2 (o * 3 + 2);have T1 := kAC hsb 1;simp only [I, jAX, jAe, jAW] at q0 q1 q2 T1;dsimp only at c5 q0 q1 q2;generalize (Hk.fD.getD o (0, 0, 0)).1 = y0 at *;generalize (Hk.fD.getD o (0, 0, 0)).2.1 = y1 at *;generalize (Hk.fD.getD o (0, 0, 0)).2.2 = y2 at *
     have hgn : g2 ≠ wr.heap.size := by
      rw [hgs] at hg2
      injection hg2 with e
      injection e with e
      omega
     have HE : Hid (∀ W, Eqw (((w2.setCell ⟨g2, o * 3, none⟩ (int i64 en)).setCell ⟨g2, o * 3 + 1, none⟩ (int i64 L)).setCell ⟨g2, o * 3 + 2, none⟩ (int i64 tn)) W → Rep W a l { Hk with mem := splice Hk.mem en ((Hk.mem.drop p).take L), fD := Hk.fD.set o (en, L, tn) } ∧ Nx a l l w W ∧ W.heap[wr.heap.size]? = some (.cells #[int i64 p, int i64 L, int i64 t] 148 (0, 0))) := by
      intro W he;have K := hr.setSeat hg2 o z1 (en, L, tn) W he;refine ⟨K.1, hx.trans K.2, ?_⟩;rw [he.2.2.2, kAK (Ne.symm hgn), kAK (Ne.symm hgn), kAK (Ne.symm hgn)];exact hsb
     clear hr hx hsb hc2 hf2
     go_wp2
     go_cut [] (fun W => Hid (Rep W a l { Hk with mem := splice Hk.mem en ((Hk.mem.drop p).take L), fD := Hk.fD.set o (en, L, tn) } ∧ Nx a l l w W ∧ W.heap[wr.heap.size]? = some (.cells #[int i64 p, int i64 L, int i64 t] 148 (0, 0))))
     case first =>
      go_region
      all_goals go_wp2
      all_goals
       go_meet
       case rel =>
        refine kAA (HE.out _ ?_);exact kAS _
     case rest =>
      obtain ⟨w5, hw5⟩ := jex (wc);subst hw5;clear q0 q1 q2 p0 p1 p2 c5 T1 HE;obtain ⟨hr, hx, hsb⟩ := hcut.out;clear hcut;obtain ⟨g3, hg3, hc3, hf3, _, hg3l⟩ := hr.orderAt tn b5;have o1 := hc3 tn b5;have f1 := hf3 tn;have c6 := hr.c6;rw [hg3] at c6;have T1 := kAC hsb 1;simp only [jAX, jAe, jAW] at T1;dsimp only at c6 o1
      have hgn3 : g3 ≠ wr.heap.size := by
       intro e;obtain ⟨cur, hcur⟩ := kBX hr.fC g3 (by rw [hg3]; simp [blk]);rw [e, hsb] at hcur
       simp at hcur
      have HE : Hid (∀ W, Eqw (w5.setCell ⟨g3, tn, none⟩ (int i64 o)) W → Rep W a l { Hk with mem := splice Hk.mem en ((Hk.mem.drop p).take L), fD := Hk.fD.set o (en, L, tn), fC := Hk.fC.set tn o } ∧ Nx a l l w W) := by
       intro W he;have K := hr.setOrder hg3 tn o W he;exact ⟨K.1, hx.trans K.2⟩
      generalize Hk.fC.getD tn 0 = ov at *;have n1 := ng tn;have n2 : (tn : Int) < Hk.fC.length := by omega
      clear hr hx hsb hc3 hf3 hg3
      go_wp2
      go_quiet (fail)
      go_wp2
      go_roundw
      case rel => exact ⟨k + 1, by omega, by go_num, by rw [HN.out]; go_num, by rw [HN.out]; go_num, by rw [HN.out]; exact HE.out _ ⟨rfl, rfl, rfl, rfl⟩⟩
      case measure => simp [intOf]; omega
  ·have hke : k = H.fC.length := by omega
   subst hke;have HSH : Hid (kBS H = { (kAM H H.fC.length).H with mem := (kAM H H.fC.length).H.mem.take (kAM H H.fC.length).en, fC := (kAM H H.fC.length).H.fC.take (kAM H H.fC.length).turns }) := rfl;obtain ⟨x, hxx⟩ := jex (kAM H H.fC.length);rw [← hxx] at hr l1 l2 l3 l4 l5 HSH;rw [← hxx];clear hxx hst hk;obtain ⟨Hk, tn, en⟩ := x;dsimp only at *;have b1 : Hk.mem.length ≤ 1048576 := by omega
   have b4 : en ≤ Hk.mem.length := by omega
   have b5 : tn ≤ Hk.fC.length := by omega
   have HR := kAA hr;have HX1 := kAA hx;have c4 := hr.c4;have hml := hr.ml;have hal2 := hr.lt a (by simp [foot]);have L2 := kAA l2;clear hx l1 l3 l5 hkn
   go_upto_region 11 with (fail)
   go_cut [] (fun W => Hid (∃ M, M.length = Hk.mem.length ∧ M.take en = Hk.mem.take en ∧ M = M.take en ++ List.replicate (M.length - en) 0 ∧ Rep W a l { Hk with mem := M } ∧ Nx a l l w W))
   case first =>
    by_cases hem : en < Hk.mem.length
    ·obtain ⟨g, hg, _, _, hga, hgl⟩ := hr.memBlock (by omega);obtain ⟨C, hC, hCl, hCs, hcm⟩ := hr.memCells hg;rw [hg] at c4;have HC := kAA hC;have j6 := ng en;have j7 : (en : Int) ≤ Hk.mem.length := by omega
     have hce : ¬ l.cm = en := by omega
     clear hr hCl hC l2;generalize hmm : Hk.mem.length = m at *;have HMM := kAA hmm;clear hmm
     go_wp2_with (first | (refine kGW rfl (.tmp 74) rfl g en (m - en) (l.cm - en) (by simp [Act.eval]) (by omega) C (by exact HC.out) (by omega) ?_; intro w4 hh1 hh2 hh3) | go_in)
     go_meet
     case rel =>
      rw [kHC] at hh1;have K := HR.out.spliced (vs := List.replicate (m - en) 0) hg HC.out (by rw [HMM.out, jAY]; omega) hh1 hh2;refine kAA ⟨_, (length_splice Hk.mem en (List.replicate (m - en) 0) (by rw [HMM.out, jAY]; omega)).trans HMM.out, ?_, ?_, K.1, HX1.out.trans K.2⟩
      ·unfold splice;rw [jBC (by simp; rw [HMM.out]; omega), List.take_take, Nat.min_self]
      ·have hl := HMM.out;unfold splice;simp only [jAY];rw [show en + (m - en) = Hk.mem.length from by omega, List.drop_length, jAz, jBC (by simp; omega), List.take_take, Nat.min_self]
       congr 2
       simp
       omega
    ·have hem' : en = Hk.mem.length := by omega
     have HZ : Hid (∃ M, M.length = Hk.mem.length ∧ M.take en = Hk.mem.take en ∧ M = M.take en ++ List.replicate (M.length - en) 0 ∧ Rep wr a l { Hk with mem := M } ∧ Nx a l l w wr) :=
      ⟨Hk.mem, rfl, rfl, by rw [hem', Nat.sub_self, jAV]; simp, hr, HX1.out⟩
     have j6 := ng en;have j7 : (en : Int) ≤ Hk.mem.length := by omega
     have j8 : Hk.mem.length - en = 0 := by omega
     clear hr l2 hem hem';generalize hmm : Hk.mem.length = m at *;clear hmm
     go_wp2_with (first | (refine kGA rfl (.tmp 74) rfl (if l.cm = en then l.pm else l.pm.map fun b => b.add en) (l.cm - en) (by simp [Act.eval]) ?_) | go_in)
     all_goals
      go_meet
      case rel => exact HZ
   case rest =>
    obtain ⟨w2, hw2⟩ := jex (wc);subst hw2;clear c4 hr;obtain ⟨M, m1, m2, m3, hr, hx⟩ := hcut.out;clear hcut
    have HE : Hid (∀ W, Eqw ((w2.setCell ⟨a, 6, none⟩ (.slice l.po tn l.co)).setCell ⟨a, 4, none⟩ (.slice l.pm en l.cm)) W → Rep W a l (kBS H) ∧ Nx a l l w W) := by
     intro W he;have K := hr.cut b5 (by rw [m1]; exact b4) m3 W he;dsimp only at K;rw [m2] at K;rw [HSH.out];exact ⟨K.1, hx.trans K.2⟩
    have c4 := hr.c4;have c6 := hr.c6;have f4 := hr.frozen 4;have f6 := hr.frozen 6;dsimp only at c4 c6;rw [m1] at c4;have hcm := hr.ml;dsimp only at hcm
    have hco : tn ≤ l.co ∧ (l.po = none → l.co = 0) ∧ (∀ ad, l.po = some ad → ∃ g, ad = ⟨g, 0, none⟩) := by
     have := hr.fC;rcases this.2 with ⟨q, q0⟩ | ⟨g, cap, cur, q1, q2, q3, q4, q5, q6, q7⟩
     ·injection q with q1 q2 q3
      rw [q1, q3];dsimp only at q0;exact ⟨by omega, (fun _ => rfl), (fun ad h => by cases h)⟩
     ·injection q1 with q1 q1b q1c
      rw [q1, q1c];dsimp only at q4;exact ⟨by omega, (fun h => by cases h), (fun ad h => ⟨g, by injection h with h; exact h.symm⟩)⟩
    have hpm : (l.pm = none → l.cm = 0) ∧ (∀ ad, l.pm = some ad → ∃ g, ad = ⟨g, 0, none⟩) := by
     have := hr.mem;rcases this.2 with ⟨q, q0⟩ | ⟨g, cap, cur, q1, q2, q3, q4, q5, q6, q7⟩
     ·injection q with q1 q2 q3
      rw [q1, q3];exact ⟨(fun _ => rfl), (fun ad h => by cases h)⟩
     ·injection q1 with q1 q1b q1c
      rw [q1];exact ⟨(fun h => by cases h), (fun ad h => ⟨g, by injection h with h; exact h.symm⟩)⟩
    obtain ⟨hco1, hco2, hco3⟩ := hco;have u1 := ng tn;have u2 : (tn : Int) ≤ l.co := by omega
    have u3 := ng en;have u4 : (en : Int) ≤ l.cm := by omega
    clear hr hx m2 m3 m1 l2 HSH HR HX1;obtain ⟨pm, cm, ps, cs, po, co, pb, cb⟩ := l;dsimp only at *;rcases po with _ | ado
    ·have e0 : tn = 0 ∧ co = 0 := by have := hco2 rfl; omega
     obtain ⟨e1, e2⟩ := e0;subst e1 e2;rcases pm with _ | adm
     ·have e3 : cm = 0 := hpm.1 rfl;have e4 : en = 0 := by omega
      subst e3 e4;clear hco2 hco3 hpm
      go_wp2
      go_region
      all_goals go_wp2
      all_goals
       go_end0
       refine ⟨rfl, HE.out _ ?_⟩;exact kAS _
     ·obtain ⟨gm, rfl⟩ := hpm.2 adm rfl;clear hco2 hco3 hpm
      go_wp2
      go_region
      all_goals go_wp2
      all_goals
       go_end0
       refine ⟨rfl, HE.out _ ?_⟩;exact kAS _
    ·obtain ⟨go, rfl⟩ := hco3 ado rfl;rcases pm with _ | adm
     ·have e3 : cm = 0 := hpm.1 rfl;have e4 : en = 0 := by omega
      subst e3 e4;clear hco2 hco3 hpm
      go_wp2
      go_region
      all_goals go_wp2
      all_goals
       go_end0
       refine ⟨rfl, HE.out _ ?_⟩;exact kAS _
     ·obtain ⟨gm, rfl⟩ := hpm.2 adm rfl;clear hco2 hco3 hpm
      go_wp2
      go_region
      all_goals go_wp2
      all_goals
       go_end0
       refine ⟨rfl, HE.out _ ?_⟩;exact kAS _
end Go.Proofs.YtflgicdbbogllaaGreatDoor
