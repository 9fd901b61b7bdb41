import Derived.Test.YtflgicdbbogllaaGreatDoorPG01HGrow
import Derived.Deep.DeepCutAuto
set_option maxHeartbeats 2000000
set_option maxRecDepth 20000
set_option linter.unusedSimpArgs false
set_option linter.unusedVariables false
namespace Go.Proofs.YtflgicdbbogllaaGreatDoor
open Go.RowKit Tryz
open Value (int)
open IntKind (i64)
attribute [local go_sem ↓] wp_at_zero wp_at_succ
theorem kAA {p : Prop} (h : p) : Hid p := h
def lenN (n f : Nat) : Nat := if f = 1 then 2 + (n + 3) / 4 else 2 + n
theorem kAt (n f : Nat) : kBd n f = (lenN n f : Int) := by
 unfold kBd lenN
 by_cases h : f = 1
 ·subst h; simp
 ·rw [jn (by omega), jn h]; omega
def kAQ (class_ : Int) (n f : Nat) : List Int := [class_, ((2 * n + f : Nat) : Int)] ++ (if f = 0 then List.replicate n 4 else List.replicate ((n + 3) / 4) 0)
theorem kPY (M : List Int) (L : Nat) (x y : Int) (h : 2 ≤ L) : ((M ++ List.replicate L 0).set M.length x).set (M.length + 1) y = M ++ [x, y] ++ List.replicate (L - 2) 0 := by
 obtain ⟨k, rfl⟩ : ∃ k, L = k + 2 := ⟨L - 2, by omega⟩
 rw [jAy _ _ (by omega), jAy _ _ (by omega)]
 simp [jBc]
def kBA (S : List (Nat × Nat × Nat)) (n : Nat) : List (Nat × Nat × Nat) := S ++ List.replicate (n - S.length) (0, 0, 0)
def layH (H : HS) (oop : Nat) (class_ : Int) (n f : Nat) : HS :=
 {H with mem := H.mem ++ kAQ class_ n f, fD := (kBA H.fD (oop + 1)).set oop (H.mem.length, lenN n f, H.fC.length), fC := H.fC ++ [oop], bits := kBB H.bits oop, count := H.count + 1 }
theorem kNJ : (prog.info? 148).map (fun i => (i.zero, i.size, i.bytes)) = some (some (.agg #[int i64 0, int i64 0, int i64 0]), 3, 24) := by kernel_rfl
theorem kGs : (prog.info? 3).map (fun i => (i.zero, i.size, i.bytes)) = some (some (int i64 0), 1, 8) := by kernel_rfl
theorem kKC (oop n f : Nat) (cl : Int) (a : Nat) (l : Lay) (H : HS) (w : World) (h : Rep w a l H) (hs : kDX H) (ho0 : (1 : Int) ≤ oop) (ho1 : (oop : Int) ≤ 65537) (hn : (n : Int) ≤ 8192) (hf : (f : Int) ≤ 1)
  (hroom : H.mem.length + lenN n f ≤ H.fH) (hseats : (H.fD.length : Int) ≤ 65538) (hord : (H.fC.length : Int) ≤ 1048576) (hb : ∀ k, H.bits.getD k 0 ≤ full) (hbl : (H.bits.length : Int) ≤ 1100) :
  Calls prog 97 #[.pointer (some ⟨a, 0, none⟩), int i64 oop, int i64 cl, int i64 n, int i64 f] w fun e w' => e = .returned (.agg #[I H.mem.length, I (lenN n f), I H.fC.length]) ∧ ∃ l', Rep w' a l' (layH H oop cl n f) ∧ Nx a l l' w w' := by
 have c4 := h.c4;have c6 := h.c6;have hal := h.lt a (by simp [foot]);have hlen := kBo n f;rw [kAt] at hlen;have HL := kAA hlen;have n4 := World.new_ne w ⟨a, 4, none⟩ c4;have n6 := World.new_ne w ⟨a, 6, none⟩ c6;clear hlen;have HREP : Hid (Rep w a l H) := h;clear h;go_enter func97, ntmps97
 go_wp2
 go_cut [11] (fun p W => p = .pointer (some ⟨w.heap.size + 1, 0, none⟩) ∧ Hid (Eqw ((w.alloc (.cells #[int i64 0, int i64 0, int i64 0] 148)).alloc (.cells #[I H.mem.length, I (lenN n f), I H.fC.length] 148)) W))
 case first =>
  go_region_held3 (fun w' => w'.cell? ⟨a, 4, none⟩ = some (.slice l.pm H.mem.length l.cm) ∧ w'.cell? ⟨a, 6, none⟩ = some (.slice l.po H.fC.length l.co)) (go_keep) ((go_at_call 95; refine (HL.out _ (by omega) (by omega)).mono ?_; rintro e w' ⟨rfl, rfl⟩))
  all_goals go_wp2
  all_goals
   go_meet
   case rel => exact ⟨rfl, rfl, rfl, rfl, rfl⟩
 case rest =>
  obtain ⟨rfl, hq⟩ := hcut;obtain ⟨w0, hw0⟩ := jex (wc);subst hw0;have hL2 : 2 ≤ lenN n f := by unfold lenN; split <;> omega
  have hq' := hq.out;clear hq n4 n6 c4 c6 HL
  obtain ⟨hr0, hx0, hz, t0, r0⟩ : Rep w0 a l H ∧ Nx a l l w w0 ∧ w0.heap.size = w.heap.size + 2 ∧ w0.heap[w.heap.size + 1]? = some (.cells #[I H.mem.length, I (lenN n f), I H.fC.length] 148 (0, 0)) ∧ w0.heap[w.heap.size]? = some (.cells #[int i64 0, int i64 0, int i64 0] 148 (0, 0)) := by
   have h1 := (HREP.out.alloc (.cells #[int i64 0, int i64 0, int i64 0] 148)).alloc (.cells #[I H.mem.length, I (lenN n f), I H.fC.length] 148);refine ⟨h1.eqw hq', Nx.eqw (Nx.frw ((Fr.alloc _ _ _).trans (Fr.alloc _ _ _) (fun b hb => .inl hb))) hq', by rw [hq'.2.2.2]; simp, ?_, ?_⟩
   ·rw [hq'.2.2.2];have := heap_alloc_new (w.alloc (.cells #[int i64 0, int i64 0, int i64 0] 148)) (.cells #[I H.mem.length, I (lenN n f), I H.fC.length] 148)
    simpa using this
   ·rw [hq'.2.2.2, jAN _ _ _ (by simp)];exact heap_alloc_new w _
  have hfoot : ∀ b ∈ foot a l, b < w.heap.size := HREP.out.lt
  have hb1 : w.heap.size + 1 ∉ foot a l := fun hm => by have := hfoot _ hm; omega
  have hb0 : w.heap.size ∉ foot a l := fun hm => by have := hfoot _ hm; omega
  clear hq' HREP;obtain ⟨S1, hS1⟩ : ∃ S1 : World → Prop, S1 = fun W => W.heap[w.heap.size + 1]? = some (.cells #[I H.mem.length, I (lenN n f), I H.fC.length] 148 (0, 0)) ∧ W.heap[w.heap.size]? = some (.cells #[int i64 0, int i64 0, int i64 0] 148 (0, 0)) := ⟨_, rfl⟩
  have hkeep : ∀ {W : World} {l1 : Lay}, Nx a l l1 w0 W → W.heap[w.heap.size + 1]? = some (.cells #[I H.mem.length, I (lenN n f), I H.fC.length] 148 (0, 0)) := fun hx => (hx.1.block _ (by omega) hb1).trans t0
  have hkeep0 : ∀ {W : World} {l1 : Lay}, Nx a l l1 w0 W → W.heap[w.heap.size]? = some (.cells #[int i64 0, int i64 0, int i64 0] 148 (0, 0)) := fun hx => (hx.1.block _ (by omega) hb0).trans r0
  have HS : Hid (Nx a l l w w0 ∧ (∀ {W : World} {l1 : Lay}, Nx a l l1 w0 W → W.heap[w.heap.size + 1]? = some (.cells #[I H.mem.length, I (lenN n f), I H.fC.length] 148 (0, 0))) ∧ (∀ {W : World} {l1 : Lay}, Nx a l l1 w0 W → W.heap[w.heap.size]? = some (.cells #[int i64 0, int i64 0, int i64 0] 148 (0, 0)))) := ⟨hx0, hkeep, hkeep0⟩;have s1 := kAC t0 1;simp only [I, jAX, jAe, jAW] at s1;have hst := kHt (lenN n f) a l H w0 hr0 hs (by omega) (by omega);have HST := kAA hst;clear hst hkeep hkeep0 hx0 r0 hS1 S1;clear t0;have HR0 := kAA hr0;clear hr0;generalize hLL : lenN n f = L at *;have HLL := kAA hLL;clear hLL
  go_wp2_with fail
  refine HST.out.mono ?_;rintro e w1 ⟨rfl, l1, hr1, hx1⟩;clear HST HR0 s1;have HZ0 := kAA hz;clear hz;obtain ⟨g, hg, hcg, hfg, hga, hgl⟩ := hr1.memBlock (by simp; omega);have k4 := hr1.c4;have s0 := kAC (HS.out.2.1 hx1) 0;simp only [I, jAX, jAW] at s0;dsimp only at k4 hcg;rw [hg] at k4;have hlen1 : (H.mem ++ List.replicate L (0 : Int)).length = H.mem.length + L := by simp
  rw [hlen1] at k4;have q0 := hcg H.mem.length (by rw [hlen1]; omega);have f0 := hfg H.mem.length;have HR1 : Hid (Rep w1 a l1 { H with mem := H.mem ++ List.replicate L 0 } ∧ Nx a l l1 w0 w1 ∧ l1.pm = some ⟨g, 0, none⟩) := ⟨hr1, hx1, hg⟩;have i1 := ng H.mem.length;have i2 : (H.mem.length : Int) < ((H.mem.length + L : Nat) : Int) := by omega
  have i4 : (H.mem.length : Int) + (L : Int) ≤ 1048576 := by have := hs.fH; omega
  generalize (H.mem ++ List.replicate L (0 : Int)).getD H.mem.length 0 = old at q0;clear hr1 hx1 hg hcg hfg hlen1
  go_wp2
  go_cut [] (fun W => Hid (Rep W a l1 { H with mem := (H.mem ++ List.replicate L 0).set H.mem.length cl } ∧ Nx a l l1 w0 W ∧ l1.pm = some ⟨g, 0, none⟩))
  case first =>
   go_region
   all_goals go_wp2
   all_goals
    go_meet
    case rel =>
     obtain ⟨z1, z2, z3⟩ := HR1.out;have K := z1.setMem z3 H.mem.length (by simp; omega) cl _ ⟨rfl, rfl, rfl, rfl⟩;exact ⟨K.1.eqw ⟨rfl, rfl, rfl, rfl⟩, z2.trans (K.2.eqw ⟨rfl, rfl, rfl, rfl⟩), z3⟩
  case rest =>
   obtain ⟨w2, hw2⟩ := jex (wc);subst hw2;clear HR1 k4 s0 q0 f0 hgl w1;obtain ⟨hr2, hx2, hg⟩ := hcut.out;clear hcut;obtain ⟨g', hg', hcg, hfg, _, hgl⟩ := hr2.memBlock (by simp; omega);have eg : g' = g := by rw [hg] at hg'; injection hg' with e; injection e with e; exact e.symm
   subst eg;have k4 := hr2.c4;have s0 := kAC (HS.out.2.1 hx2) 0;simp only [I, jAX, jAW] at s0;dsimp only at k4 hcg;rw [hg] at k4;have hlen2 : ((H.mem ++ List.replicate L (0 : Int)).set H.mem.length cl).length = H.mem.length + L := by simp
   rw [hlen2] at k4;have q0 := hcg (H.mem.length + 1) (by rw [hlen2]; omega);have f0 := hfg (H.mem.length + 1);have HR2 : Hid (Rep w2 a l1 { H with mem := (H.mem ++ List.replicate L 0).set H.mem.length cl } ∧ Nx a l l1 w0 w2 ∧ l1.pm = some ⟨g', 0, none⟩) := ⟨hr2, hx2, hg⟩;have i5 : IntKind.i64.wrap ((H.mem.length : Int) + 1) = (H.mem.length : Int) + 1 := by rw [kBp]; unfold wrap64; omega
   have i3 : (H.mem.length : Int) + 1 < ((H.mem.length + L : Nat) : Int) := by omega
   generalize ((H.mem ++ List.replicate L (0 : Int)).set H.mem.length cl).getD (H.mem.length + 1) 0 = old2 at q0;clear hr2 hx2 hg hcg hfg hlen2 hgl
   go_wp2
   go_cut [] (fun W => Hid (Rep W a l1 { H with mem := H.mem ++ [cl, ((2 * n + f : Nat) : Int)] ++ List.replicate (L - 2) 0 } ∧ Nx a l l1 w0 W ∧ l1.pm = some ⟨g', 0, none⟩))
   case first =>
    go_region_with (go_at_call 135; refine (kLw _ _ _ hn hf).mono ?_; rintro e w' ⟨rfl, rfl⟩)
    all_goals go_wp2
    all_goals
     go_meet
     case rel =>
      obtain ⟨z1, z2, z3⟩ := HR2.out;have K := z1.setMem z3 (H.mem.length + 1) (by simp; omega) ((2 * n + f : Nat) : Int) _ ⟨rfl, rfl, rfl, rfl⟩;rw [← kPY H.mem L cl _ (by omega)];exact ⟨K.1.eqw ⟨rfl, rfl, rfl, rfl⟩, z2.trans (K.2.eqw ⟨rfl, rfl, rfl, rfl⟩), z3⟩
   case rest =>
    obtain ⟨w3, hw3⟩ := jex (wc);subst hw3;clear HR2 k4 s0 q0 f0 w2
    go_upto_if 50 with (fail)
    go_cut [] (fun W => Hid (Rep W a l1 { H with mem := H.mem ++ kAQ cl n f } ∧ Nx a l l1 w0 W))
    case first =>
     obtain ⟨z1, z2, z3⟩ := hcut.out
     by_cases hf0 : f = 0
     ·have hfb : ((f : Int) == 0) = true := by simp [hf0]
      have k4 := z1.c4;have s0 := kAC (HS.out.2.1 z2) 0;simp only [I, jAX, jAW] at s0;dsimp only at k4;rw [z3] at k4;have hLn : Hid (L = n + 2) := by have := HLL.out; unfold lenN at this; simp [hf0] at this; unfold Hid; omega
      have hlen3 : (H.mem ++ [cl, ((2 * n + f : Nat) : Int)] ++ List.replicate (L - 2) (0 : Int)).length = H.mem.length + L := by simp; omega
      rw [hlen3] at k4;have i6 : IntKind.i64.wrap ((H.mem.length : Int) + 2) = (H.mem.length : Int) + 2 := by rw [kBp]; unfold wrap64; omega
      have i7 : 0 ≤ (H.mem.length : Int) + 2 := by omega
      have i8 : (H.mem.length : Int) + 2 ≤ ((H.mem.length + L : Nat) : Int) := by omega
      have hml := z1.ml;dsimp only at hml;rw [hlen3] at hml;have i9 : ((H.mem.length + L : Nat) : Int) ≤ (l1.cm : Int) := by omega
      have j1 : (2 : Int) ≤ (L : Int) := by omega
      have j2 : (H.mem.length : Int) + 2 ≤ (H.mem.length : Int) + (L : Int) := by omega
      have j3 : (H.mem.length : Int) + (L : Int) ≤ l1.cm := by omega
      have e1 : ((H.mem.length : Int) + 2).toNat = H.mem.length + 2 := by omega
      have e2 : H.mem.length + L - (H.mem.length + 2) = n := by have := hLn.out; omega
      obtain ⟨g2, hg2, _, _, _, C, hC, hCs⟩ := kIK z1.mem 0 (by omega);have eg2 : g2 = g' := by rw [z3] at hg2; injection hg2 with e; injection e with e; exact e.symm
      subst eg2
      have HW : Hid ((n ≠ 0 → (if l1.cm = H.mem.length + 2 then some (⟨g2, 0, none⟩ : Addr) else some ⟨g2, H.mem.length + 2, none⟩) = some ⟨g2, H.mem.length + 2, none⟩) ∧ w3.heap[g2]? = some (.cells C 41 (0, 0)) ∧ H.mem.length + 2 + n ≤ C.size) := by
       refine ⟨fun h0 => ?_, hC, ?_⟩
       ·rw [jn (by have := hLn.out; omega)]
       ·have := hLn.out; omega
      have HZ : Hid (∀ W, W.heap[g2]? = some (.cells (kDd C (H.mem.length + 2) (int i64 4) n) 41 (0, 0)) → Fr [g2] w3 W → Rep W a l1 { H with mem := H.mem ++ kAQ cl n f } ∧ Nx a l l1 w0 W) := by
       intro W hW1 hW2;have hz2 := hLn.out;have K := Rep.fillMem (X := H.mem ++ [cl, ((2 * n + f : Nat) : Int)]) (Y := List.replicate (L - 2) 0) (v := 4) z1 z3 rfl C hC (by simpa [hz2] using hW1) hW2
       have e3 : H.mem ++ [cl, ((2 * n + f : Nat) : Int)] ++ List.replicate (List.replicate (L - 2) (0 : Int)).length 4 = H.mem ++ kAQ cl n f := by
        unfold kAQ;rw [jp hf0, jAY, hz2]
        simp
       rw [e3] at K;exact ⟨K.1, z2.trans K.2⟩
      clear z1 z2 z3 hlen3 hml hf0 hg2 hC hCs hcut;generalize hcmx : l1.cm = cm at *;clear hcmx
      by_cases hcm : cm = H.mem.length + 2
      ·have hw1 := HW.out.1;rw [jp hcm] at hw1;have HW1 := kAA hw1;have hcb : (if cm = H.mem.length + 2 then some (⟨g2, 0, none⟩ : Addr) else some ⟨g2, H.mem.length + 2, none⟩) = some ⟨g2, 0, none⟩ := jp hcm;clear hw1;subst hcm
       go_wp2
       go_region_with (go_at_call 136; refine (kIl g2 (H.mem.length + 2) n _ _ 4 _ C (by omega) HW1.out (by exact HW.out.2.1) HW.out.2.2).mono ?_; rintro e w' ⟨rfl, hh1, hh2, hh3⟩)
       all_goals go_wp2
       all_goals
        go_meet
        case rel => exact HZ.out _ (by assumption) (Fr.trans (S' := [g2]) (Fr.drew [g2] w3) (by assumption) (fun b hb => .inl hb))
      ·go_wp2
       go_region_with (go_at_call 136; refine (kIl g2 (H.mem.length + 2) n _ _ 4 _ C (by omega) (fun _ => rfl) (by exact HW.out.2.1) HW.out.2.2).mono ?_; rintro e w' ⟨rfl, hh1, hh2, hh3⟩)
       all_goals go_wp2
       all_goals
        go_meet
        case rel => exact HZ.out _ (by assumption) (Fr.trans (S' := [g2]) (Fr.drew [g2] w3) (by assumption) (fun b hb => .inl hb))
     ·have hfb : ((f : Int) == 0) = false := by simp; omega
      have HZ : Hid (Rep w3 a l1 { H with mem := H.mem ++ kAQ cl n f } ∧ Nx a l l1 w0 w3) := by
       refine ⟨?_, z2⟩;have hz2 : L = 2 + (n + 3) / 4 := by have := HLL.out; unfold lenN at this; rw [jp (by omega)] at this; omega
       have e3 : H.mem ++ [cl, ((2 * n + f : Nat) : Int)] ++ List.replicate (L - 2) (0 : Int) = H.mem ++ kAQ cl n f := by
        unfold kAQ;rw [jn hf0, jAu]
        congr 3
        omega
       rw [e3] at z1;exact z1
      clear z1 z2 z3 hcut hf0
      go_wp2
      go_meet
      case rel => exact HZ
    case rest =>
     obtain ⟨w4, hw4⟩ := jex (wc);subst hw4;obtain ⟨i0, hi, hz0, hz1, hz2⟩ := info_parts kNJ
     go_wp2
     go_loopg [] (oop + 1 - H.fD.length) (fun gk wr => Hid (∃ m l2, gk = oop + 1 - (H.fD.length + m) ∧ (m = 0 ∨ H.fD.length + m ≤ oop + 1) ∧ Rep wr a l2 { H with mem := H.mem ++ kAQ cl n f, fD := H.fD ++ List.replicate m (0, 0, 0) } ∧ Nx a l l2 w0 wr))
     case atStart =>
      obtain ⟨z1, z2⟩ := hcut.out;exact ⟨0, l1, rfl, .inl rfl, by simpa using z1, z2⟩
     case round =>
      obtain ⟨m, l2, rfl, hm, hr, hx⟩ := hrel.out;clear hrel;obtain ⟨B, hB⟩ := jex (H.fD ++ List.replicate m ((0, 0, 0) : Nat × Nat × Nat));have hBl : B.length = H.fD.length + m := by rw [hB]; simp
      rw [← hB] at hr;have c5 := hr.c5;have f5 := hr.frozen 5;dsimp only at c5;have hne : a < wr.heap.size := hr.lt a (by simp [foot])
      by_cases hle : B.length ≤ oop
      ·have hle' : (B.length : Int) ≤ oop := by omega
       have HG := kAA (fun w1 g cap => @kJn wr (wr.alloc (.cells #[int i64 0, int i64 0, int i64 0] 148)) w1 a l2 { H with mem := H.mem ++ kAQ cl n f, fD := B } g cap (wr.heap.size + 1) hr (Fr.alloc _ _ _) (by omega));have hown := hr.fD;dsimp only at hown HG;have HM : Hid (B = H.fD ++ List.replicate m ((0, 0, 0) : Nat × Nat × Nat) ∧ Nx a l l2 w0 wr) := ⟨hB, hx⟩;have hmx : Hid (oop + 1 - (H.fD.length + (m + 1)) < oop + 1 - (H.fD.length + m)) := by unfold Hid; omega
       have hmy : Hid (H.fD.length + (m + 1) ≤ oop + 1) := by unfold Hid; omega
       have hra : some a ≠ Value.ownBlock (.slice l2.ps B.length l2.cs) := fun e => (hr.apart a).2.1 ((kBE _ _ _ _).1 e.symm) |>.1 rfl
       clear hr hx hB hBl hm
       go_wp2_with (first | (at_builtin; refine wpList_append_lies _ rfl (.tmp 71) (.tmp 73) 87 rfl 0 148 i0 (.agg #[int i64 0, int i64 0, int i64 0]) 3 24 underlying87 hi hz0 hz1 hz2 rfl (by decide) _ _ _ rfl (hown.alloc _) ⟨wr.heap.size, 0, none⟩ 1 1 [int i64 0, int i64 0, int i64 0] rfl rfl ?c1 ?c2 (by omega) ?c3 ?c4 (by simp) (wr.heap.size + 1) (by simp) ?_) | go_in)
       case c1 => exact World.news_of_block (heap_alloc_new wr _)
       case c2 => intro u hu; simp at hu; subst hu; rfl
       case c3 => unfold maxLen; omega
       case c4 => omega
       intro g3 cap w5 hown' hgrow hat hlt;have d5 := (hgrow.cell_far ⟨a, 5, none⟩ (by simp; omega) hra).trans ((jAE (o := .cells #[int i64 0, int i64 0, int i64 0] 148) (w := wr) (a := ⟨a, 5, none⟩) hne).trans c5);have e5 := (hgrow.frozen_far ⟨a, 5, none⟩ (by simp; omega) hra).trans ((jBB (o := .cells #[int i64 0, int i64 0, int i64 0] 148) (w := wr) (a := ⟨a, 5, none⟩) (by show a ≠ _; omega)).trans f5);have HK := kAA (HG.out w5 g3 cap hown' hgrow hat);clear HG hgrow hown' hown hat
       go_wp2
       go_roundg (oop + 1 - (H.fD.length + (m + 1)))
       case measure => exact hmx.out
       case rel =>
        obtain ⟨q1, q3⟩ := HM.out;have K := HK.out _ ⟨rfl, rfl, rfl, rfl⟩;refine ⟨m + 1, _, rfl, .inr hmy.out, ?_, q3.trans K.2⟩;rw [jBY, ← jAu, ← q1];exact K.1
      ·have hpad : Hid (B = kBA H.fD (oop + 1)) := by
        have e : oop + 1 - H.fD.length = m := by omega
        unfold kBA Hid;rw [hB, e]
       obtain ⟨gs, hgs, hcs, hfs, hgsa, hgsl⟩ := hr.seatAt oop (by dsimp only; omega);obtain ⟨q0, q1, q2⟩ := hcs oop (by dsimp only; omega);have p0 := hfs (oop * 3);have p1 := hfs (oop * 3 + 1);have p2 := hfs (oop * 3 + 2);have hsb := HS.out.2.1 hx;have s0 := kAC hsb 0;have s1 := kAC hsb 1;have s2 := kAC hsb 2;simp only [I, jAX, jAe, jAW] at s0 s1 s2 q0 q1 q2
       try dsimp only at q0 q1 q2
       rw [hgs] at c5
       have hgsb : gs ≠ w.heap.size + 1 := by
        intro e;have hin : gs ∈ foot a l2 := by simp [foot, Lay.blocks, blk, hgs]
        rcases hx.2 gs hin with h1 | h1
        ·exact hb1 (by rw [← e]; exact h1)
        ·have := hx.1.size; have hz := HZ0.out; omega
       have HR9 : Hid (Rep wr a l2 { H with mem := H.mem ++ kAQ cl n f, fD := B } ∧ Nx a l l2 w0 wr ∧ l2.ps = some ⟨gs, 0, none⟩ ∧ oop < B.length) := ⟨hr, hx, hgs, by omega⟩;have o1 := ng oop;have o2 : (oop : Int) < B.length := by omega
       have o3 : decide ((B.length : Int) ≤ oop) = false := by simp; omega
       clear hr hx hgs hcs hfs hsb hm hB hBl hle;generalize (B.getD oop (0, 0, 0)).1 = y0 at *;generalize (B.getD oop (0, 0, 0)).2.1 = y1 at *;generalize (B.getD oop (0, 0, 0)).2.2 = y2 at *;have HBl := kAA (rfl : B.length = B.length);generalize hbn : B.length = bn at c5 o2 o3;clear hbn
       go_wp2
       go_cut [] (fun W => Hid (Rep W a l2 { H with mem := H.mem ++ kAQ cl n f, fD := B.set oop (H.mem.length, L, H.fC.length) } ∧ Nx a l l2 w0 W))
       case first =>
        go_region
        all_goals go_wp2
        all_goals
         go_meet
         case rel =>
          obtain ⟨z1, z2, z3, z4⟩ := HR9.out;have K := z1.setSeat z3 oop z4 (H.mem.length, L, H.fC.length) _ ⟨rfl, rfl, rfl, rfl⟩;exact ⟨K.1.eqw ⟨rfl, rfl, rfl, rfl⟩, z2.trans (K.2.eqw ⟨rfl, rfl, rfl, rfl⟩)⟩
       case rest =>
        obtain ⟨w6, hw6⟩ := jex (wc);subst hw6;clear HR9 q0 q1 q2 p0 p1 p2 s0 s1 s2 c5 f5;obtain ⟨hr, hx⟩ := hcut.out;clear hcut;have c6 := hr.c6;have f6 := hr.frozen 6;dsimp only at c6;have hne6 : a < w6.heap.size := hr.lt a (by simp [foot]);have hra : some a ≠ Value.ownBlock (.slice l2.po H.fC.length l2.co) := fun e => (hr.apart a).2.2.1 ((kBE _ _ _ _).1 e.symm) |>.1 rfl
        have HG := kAA (fun w1 g cap => @kJQ w6 (w6.alloc (.cells #[int i64 oop] 3)) w1 a l2 { H with mem := H.mem ++ kAQ cl n f, fD := B.set oop (H.mem.length, L, H.fC.length) } g cap oop (w6.heap.size + 1) hr (Fr.alloc _ _ _) (by omega));have hown := hr.fC;dsimp only at hown HG;have HX := kAA hx;clear hr hx;obtain ⟨j0, ji, jz0, jz1, jz2⟩ := info_parts kGs
        go_wp2_with (first | (at_builtin; refine wpList_append_lies _ rfl (.tmp 88) (.tmp 90) 88 rfl 0 3 j0 (int i64 0) 1 8 underlying88 ji jz0 jz1 jz2 rfl (by decide) _ _ _ rfl (hown.alloc _) ⟨w6.heap.size, 0, none⟩ 1 1 [int i64 oop] rfl rfl ?d1 ?d2 (by omega) ?d3 ?d4 (by simp) (w6.heap.size + 1) (by simp) ?_) | (go_at_call 137; fail) | go_in)
        case d1 => exact World.news_of_block (heap_alloc_new w6 _)
        case d2 => intro u hu; simp at hu; subst hu; rfl
        case d3 => unfold maxLen; omega
        case d4 => omega
        intro g6 cap6 w7 hown' hgrow hat hlt;have d6 := (hgrow.cell_far ⟨a, 6, none⟩ (by simp; omega) hra).trans ((jAE (o := .cells #[int i64 oop] 3) (w := w6) (a := ⟨a, 6, none⟩) hne6).trans c6);have e6 := (hgrow.frozen_far ⟨a, 6, none⟩ (by simp; omega) hra).trans ((jBB (o := .cells #[int i64 oop] 3) (w := w6) (a := ⟨a, 6, none⟩) (by show a ≠ _; omega)).trans f6);have HK := kAA (HG.out w7 g6 cap6 hown' hgrow hat);clear HG hgrow hown' hown hat c6 f6
        go_wp2_with fail
        have K6 := HK.out _ ⟨rfl, rfl, rfl, rfl⟩;refine Calls.mono (kPL oop a _ _ _ K6.1 ho0 ho1 hb hbl (by have := hs.count; have := hs.fM; dsimp only; omega)) ?_;rintro e w8 ⟨rfl, l4, hr8, hx8⟩;have hx9 := (HX.out.trans K6.2).trans hx8;clear K6 HK d6 e6 HX hra hx8;have hsb := HS.out.2.1 hx9;have hrb := HS.out.2.2 hx9;have s0 := kAC hsb 0;have s1 := kAC hsb 1;have s2 := kAC hsb 2;have t0 := kAC hrb 0;have t1 := kAC hrb 1;have t2 := kAC hrb 2;have y0 := kAD hrb 0;have y1 := kAD hrb 1;have y2 := kAD hrb 2;simp only [I, jAX, jAe, jAW] at s0 s1 s2 t0 t1 t2
        have HF : Hid (∀ W, Eqw (((w8.setCell ⟨w.heap.size, 0, none⟩ (I H.mem.length)).setCell ⟨w.heap.size, 1, none⟩ (I L)).setCell ⟨w.heap.size, 2, none⟩ (I H.fC.length)) W → ∃ l', Rep W a l' (layH H oop cl n f) ∧ Nx a l l' w W) := by
         intro W he
         have hrn : w.heap.size ∉ foot a l4 := by
          intro hin;rcases hx9.2 _ hin with h1 | h1
          ·exact hb0 h1
          ·have := HZ0.out; omega
         have hset : ∀ k, k ≠ w.heap.size → W.heap[k]? = w8.heap[k]? := fun k hk => by rw [he.2.2.2, kAK hk, kAK hk, kAK hk]
         refine ⟨l4, ?_, ?_, ?_⟩
         ·have e9 : layH H oop cl n f = { H with mem := H.mem ++ kAQ cl n f, fD := B.set oop (H.mem.length, L, H.fC.length), fC := H.fC ++ [oop], bits := kBB H.bits oop, count := H.count + 1 } := by
           unfold layH;rw [← hpad.out, HLL.out]
          rw [e9];exact hr8.congr fun g hg => hset g (fun e => hrn (by rw [← e]; exact hg))
         ·have hx10 := HS.out.1.trans hx9;refine ⟨he.1.trans hx10.1.os, he.2.1.trans hx10.1.tape, he.2.2.1.trans hx10.1.output, by rw [he.2.2.2]; simpa using hx10.1.size, fun k hk hn => ?_⟩;rw [hset k (by omega)];exact hx10.1.block k hk hn
         ·exact (HS.out.1.trans hx9).2
        clear hr8 hx9 hsb hrb;have x0 : (w8.setCell ⟨w.heap.size, 0, none⟩ (int i64 H.mem.length)).cell? ⟨w.heap.size, 0, none⟩ = some (int i64 H.mem.length) := World.cell?_setCell_same _ _ _ t0;have x1 : ((w8.setCell ⟨w.heap.size, 0, none⟩ (int i64 H.mem.length)).setCell ⟨w.heap.size, 1, none⟩ (int i64 L)).cell? ⟨w.heap.size, 1, none⟩ = some (int i64 L) := World.cell?_setCell_same _ _ _ ((World.cell?_setCell_other _ _ _ _ (by simp)).trans t1);have x2 : (((w8.setCell ⟨w.heap.size, 0, none⟩ (int i64 H.mem.length)).setCell ⟨w.heap.size, 1, none⟩ (int i64 L)).setCell ⟨w.heap.size, 2, none⟩ (int i64 H.fC.length)).cell? ⟨w.heap.size, 2, none⟩ = some (int i64 H.fC.length) := World.cell?_setCell_same _ _ _ ((World.cell?_setCell_other _ _ _ _ (by simp)).trans ((World.cell?_setCell_other _ _ _ _ (by simp)).trans t2))
        go_wp2
        refine bodyPost_ret (v := .agg #[I H.mem.length, I L, I H.fC.length]) (by simp [results, results97, go_sem, I, x0, x1, x2]) rfl ⟨by rw [HLL.out], HF.out _ ⟨rfl, rfl, rfl, rfl⟩⟩
end Go.Proofs.YtflgicdbbogllaaGreatDoor
