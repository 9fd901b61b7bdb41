import Derived.Test.YtklfnjlenbgmoaaDoorPG02HGrow
import Derived.Deep.DeepCutAuto
import Derived.Deep.RegionHeld3
import Derived.Deep.DrawnRows
set_option linter.unusedVariables false
namespace Go.Proofs.YtklfnjlenbgmoaaDoor
open Go.RowKit
attribute [local go_sem ↓] Go.wp_at_zero Go.wp_at_succ
theorem mkHid {p : Prop} (h : p) : Hid p := h
def lenN (n f : Nat) : Nat := if f = 1 then 2 + (n + 3) / 4 else 2 + n
theorem lenOf_nat (n f : Nat) : lenOf n f = (lenN n f : Int) := by
 unfold lenOf lenN
 by_cases h : f = 1
 ·subst h; simp
 ·rw [if_neg (by omega), if_neg h]; omega
def objCells (class_ : Int) (n f : Nat) : List Int := [class_, ((2 * n + f : Nat) : Int)] ++ (if f = 0 then List.replicate n 4 else List.replicate ((n + 3) / 4) 0)
theorem set_two (M : List Int) (L : Nat) (x y : Int) (h : 2 ≤ L) : ((M ++ List.replicate L 0).set M.length x).set (M.length + 1) y = M ++ [x, y] ++ List.replicate (L - 2) 0 := by
 obtain ⟨k, rfl⟩ : ∃ k, L = k + 2 := ⟨L - 2, by omega⟩
 rw [List.set_append_right _ _ (by omega), List.set_append_right _ _ (by omega)]
 simp [List.replicate_succ]
def padSeats (S : List (Nat × Nat × Nat)) (n : Nat) : List (Nat × Nat × Nat) := S ++ List.replicate (n - S.length) (0, 0, 0)
def layH (H : HS) (oop : Nat) (class_ : Int) (n f : Nat) : HS :=
 {H with mem := H.mem ++ objCells class_ n f, seats := (padSeats H.seats (oop + 1)).set oop (H.mem.length, lenN n f, H.order.length), order := H.order ++ [oop], bits := addBits H.bits oop, count := H.count + 1 }
theorem info103' : (Tryd.prog.info? 103).map (fun i => (i.zero, i.size, i.bytes)) = some (some (.agg #[.int .i64 0, .int .i64 0, .int .i64 0]), 3, 24) := by kernel_rfl
theorem info3 : (Tryd.prog.info? 3).map (fun i => (i.zero, i.size, i.bytes)) = some (some (.int .i64 0), 1, 8) := by kernel_rfl
set_option maxRecDepth 20000 in
set_option maxHeartbeats 2000000 in
theorem lay_any (oop n f : Nat) (cl : Int) (a : Nat) (l : Lay) (H : HS) (w : World) (h : Rep w a l H) (hs : Small H) (ho0 : (1 : Int) ≤ oop) (ho1 : (oop : Int) ≤ 65537) (hn : (n : Int) ≤ 8192) (hf : (f : Int) ≤ 1)
  (hroom : H.mem.length + lenN n f ≤ H.words) (hseats : (H.seats.length : Int) ≤ 65538) (hord : (H.order.length : Int) ≤ 1048576) (hb : ∀ k, H.bits.getD k 0 ≤ full) (hbl : (H.bits.length : Int) ≤ 1100) :
  Calls Tryd.prog 52 #[.pointer (some ⟨a, 0, none⟩), .int .i64 oop, .int .i64 cl, .int .i64 n, .int .i64 f] w fun e w' => e = .returned (.agg #[I H.mem.length, I (lenN n f), I H.order.length]) ∧ ∃ l', Rep w' a l' (layH H oop cl n f) ∧ Nx a l l' w w' := by
 have c4 := h.c4
 have c6 := h.c6
 have hal := h.lt a (by simp [foot])
 have hlen := length_any n f
 rw [lenOf_nat] at hlen
 have HL := mkHid hlen
 have n4 := World.new_ne w ⟨a, 4, none⟩ c4
 have n6 := World.new_ne w ⟨a, 6, none⟩ c6
 clear hlen
 have HREP : Hid (Rep w a l H) := h
 clear h
 go_enter Tryd.func52, Tryd.ntmps52
 go_wp2
 go_cut [11] (fun p W => p = .pointer (some ⟨w.heap.size + 1, 0, none⟩) ∧ Hid (Eqw ((w.alloc (.cells #[.int .i64 0, .int .i64 0, .int .i64 0] 103)).alloc (.cells #[I H.mem.length, I (lenN n f), I H.order.length] 103)) W))
 case first =>
  go_region_held3 (fun w' => w'.cell? ⟨a, 4, none⟩ = some (.slice l.pm H.mem.length l.cm) ∧ w'.cell? ⟨a, 6, none⟩ = some (.slice l.po H.order.length l.co)) (go_keep) ((go_at_call 50; refine (HL.out _ (by omega) (by omega)).mono ?_; rintro e w' ⟨rfl, rfl⟩))
  all_goals go_wp2
  all_goals
   go_meet
   case rel => exact ⟨rfl, rfl, rfl, rfl, rfl⟩
 case rest =>
  obtain ⟨rfl, hq⟩ := hcut
  obtain ⟨w0, hw0⟩ : ∃ w0, w0 = wc := ⟨_, rfl⟩
  subst hw0
  have hL2 : 2 ≤ lenN n f := by unfold lenN; split <;> omega
  have hq' := hq.out
  clear hq n4 n6 c4 c6 HL
  obtain ⟨hr0, hx0, hz, t0, r0⟩ : Rep w0 a l H ∧ Nx a l l w w0 ∧ w0.heap.size = w.heap.size + 2 ∧ w0.heap[w.heap.size + 1]? = some (.cells #[I H.mem.length, I (lenN n f), I H.order.length] 103 (0, 0)) ∧ w0.heap[w.heap.size]? = some (.cells #[.int .i64 0, .int .i64 0, .int .i64 0] 103 (0, 0)) := by
   have h1 := (HREP.out.alloc (.cells #[.int .i64 0, .int .i64 0, .int .i64 0] 103)).alloc (.cells #[I H.mem.length, I (lenN n f), I H.order.length] 103)
   refine ⟨h1.eqw hq', Nx.eqw (Nx.frw ((Fr.alloc _ _ _).trans (Fr.alloc _ _ _) (fun b hb => .inl hb))) hq', by rw [hq'.2.2.2]; simp, ?_, ?_⟩
   ·rw [hq'.2.2.2]
    have := heap_alloc_new (w.alloc (.cells #[.int .i64 0, .int .i64 0, .int .i64 0] 103)) (.cells #[I H.mem.length, I (lenN n f), I H.order.length] 103)
    simpa using this
   ·rw [hq'.2.2.2, Below.heap_alloc _ _ _ (by simp)]
    exact heap_alloc_new w _
  have hfoot : ∀ b ∈ foot a l, b < w.heap.size := HREP.out.lt
  have hb1 : w.heap.size + 1 ∉ foot a l := fun hm => by have := hfoot _ hm; omega
  have hb0 : w.heap.size ∉ foot a l := fun hm => by have := hfoot _ hm; omega
  clear hq' HREP
  obtain ⟨S1, hS1⟩ : ∃ S1 : World → Prop, S1 = fun W => W.heap[w.heap.size + 1]? = some (.cells #[I H.mem.length, I (lenN n f), I H.order.length] 103 (0, 0)) ∧ W.heap[w.heap.size]? = some (.cells #[.int .i64 0, .int .i64 0, .int .i64 0] 103 (0, 0)) := ⟨_, rfl⟩
  have hkeep : ∀ {W : World} {l1 : Lay}, Nx a l l1 w0 W → W.heap[w.heap.size + 1]? = some (.cells #[I H.mem.length, I (lenN n f), I H.order.length] 103 (0, 0)) := fun hx => (hx.1.block _ (by omega) hb1).trans t0
  have hkeep0 : ∀ {W : World} {l1 : Lay}, Nx a l l1 w0 W → W.heap[w.heap.size]? = some (.cells #[.int .i64 0, .int .i64 0, .int .i64 0] 103 (0, 0)) := fun hx => (hx.1.block _ (by omega) hb0).trans r0
  have HS : Hid (Nx a l l w w0 ∧ (∀ {W : World} {l1 : Lay}, Nx a l l1 w0 W → W.heap[w.heap.size + 1]? = some (.cells #[I H.mem.length, I (lenN n f), I H.order.length] 103 (0, 0))) ∧ (∀ {W : World} {l1 : Lay}, Nx a l l1 w0 W → W.heap[w.heap.size]? = some (.cells #[.int .i64 0, .int .i64 0, .int .i64 0] 103 (0, 0)))) := ⟨hx0, hkeep, hkeep0⟩
  have s1 := cell_in t0 1
  simp only [I, List.getElem?_toArray, List.getElem?_cons_succ, List.getElem?_cons_zero] at s1
  have hst := stretch_any (lenN n f) a l H w0 hr0 hs (by omega) (by omega)
  have HST := mkHid hst
  clear hst hkeep hkeep0 hx0 r0 hS1 S1
  clear t0
  have HR0 := mkHid hr0
  clear hr0
  generalize hLL : lenN n f = L at *
  have HLL := mkHid hLL
  clear hLL
  go_wp2_with fail
  refine HST.out.mono ?_
  rintro e w1 ⟨rfl, l1, hr1, hx1⟩
  clear HST HR0 s1
  have HZ0 := mkHid hz
  clear hz
  obtain ⟨g, hg, hcg, hfg, hga, hgl⟩ := hr1.memBlock (by simp; omega)
  have k4 := hr1.c4
  have s0 := cell_in (HS.out.2.1 hx1) 0
  simp only [I, List.getElem?_toArray, List.getElem?_cons_zero] at s0
  dsimp only at k4 hcg
  rw [hg] at k4
  have hlen1 : (H.mem ++ List.replicate L (0 : Int)).length = H.mem.length + L := by simp
  rw [hlen1] at k4
  have q0 := hcg H.mem.length (by rw [hlen1]; omega)
  have f0 := hfg H.mem.length
  have HR1 : Hid (Rep w1 a l1 { H with mem := H.mem ++ List.replicate L 0 } ∧ Nx a l l1 w0 w1 ∧ l1.pm = some ⟨g, 0, none⟩) := ⟨hr1, hx1, hg⟩
  have i1 : (0 : Int) ≤ (H.mem.length : Int) := by omega
  have i2 : (H.mem.length : Int) < ((H.mem.length + L : Nat) : Int) := by omega
  have i4 : (H.mem.length : Int) + (L : Int) ≤ 1048576 := by have := hs.words; omega
  generalize (H.mem ++ List.replicate L (0 : Int)).getD H.mem.length 0 = old at q0
  clear hr1 hx1 hg hcg hfg hlen1
  go_wp2
  go_cut [] (fun W => Hid (Rep W a l1 { H with mem := (H.mem ++ List.replicate L 0).set H.mem.length cl } ∧ Nx a l l1 w0 W ∧ l1.pm = some ⟨g, 0, none⟩))
  case first =>
   go_region
   all_goals go_wp2
   all_goals
    go_meet
    case rel =>
     obtain ⟨z1, z2, z3⟩ := HR1.out
     have K := z1.setMem z3 H.mem.length (by simp; omega) cl _ ⟨rfl, rfl, rfl, rfl⟩
     exact ⟨K.1.eqw ⟨rfl, rfl, rfl, rfl⟩, z2.trans (K.2.eqw ⟨rfl, rfl, rfl, rfl⟩), z3⟩
  case rest =>
   obtain ⟨w2, hw2⟩ : ∃ w2, w2 = wc := ⟨_, rfl⟩
   subst hw2
   clear HR1 k4 s0 q0 f0 hgl w1
   obtain ⟨hr2, hx2, hg⟩ := hcut.out
   clear hcut
   obtain ⟨g', hg', hcg, hfg, _, hgl⟩ := hr2.memBlock (by simp; omega)
   have eg : g' = g := by rw [hg] at hg'; injection hg' with e; injection e with e; exact e.symm
   subst eg
   have k4 := hr2.c4
   have s0 := cell_in (HS.out.2.1 hx2) 0
   simp only [I, List.getElem?_toArray, List.getElem?_cons_zero] at s0
   dsimp only at k4 hcg
   rw [hg] at k4
   have hlen2 : ((H.mem ++ List.replicate L (0 : Int)).set H.mem.length cl).length = H.mem.length + L := by simp
   rw [hlen2] at k4
   have q0 := hcg (H.mem.length + 1) (by rw [hlen2]; omega)
   have f0 := hfg (H.mem.length + 1)
   have HR2 : Hid (Rep w2 a l1 { H with mem := (H.mem ++ List.replicate L 0).set H.mem.length cl } ∧ Nx a l l1 w0 w2 ∧ l1.pm = some ⟨g', 0, none⟩) := ⟨hr2, hx2, hg⟩
   have i5 : IntKind.i64.wrap ((H.mem.length : Int) + 1) = (H.mem.length : Int) + 1 := by rw [iwrap]; unfold wrap64; omega
   have i3 : (H.mem.length : Int) + 1 < ((H.mem.length + L : Nat) : Int) := by omega
   generalize ((H.mem ++ List.replicate L (0 : Int)).set H.mem.length cl).getD (H.mem.length + 1) 0 = old2 at q0
   clear hr2 hx2 hg hcg hfg hlen2 hgl
   go_wp2
   go_cut [] (fun W => Hid (Rep W a l1 { H with mem := H.mem ++ [cl, ((2 * n + f : Nat) : Int)] ++ List.replicate (L - 2) 0 } ∧ Nx a l l1 w0 W ∧ l1.pm = some ⟨g', 0, none⟩))
   case first =>
    go_region_with (go_at_call 102; refine (shape_any _ _ _ hn hf).mono ?_; rintro e w' ⟨rfl, rfl⟩)
    all_goals go_wp2
    all_goals
     go_meet
     case rel =>
      obtain ⟨z1, z2, z3⟩ := HR2.out
      have K := z1.setMem z3 (H.mem.length + 1) (by simp; omega) ((2 * n + f : Nat) : Int) _ ⟨rfl, rfl, rfl, rfl⟩
      rw [← set_two H.mem L cl _ (by omega)]
      exact ⟨K.1.eqw ⟨rfl, rfl, rfl, rfl⟩, z2.trans (K.2.eqw ⟨rfl, rfl, rfl, rfl⟩), z3⟩
   case rest =>
    obtain ⟨w3, hw3⟩ : ∃ w3, w3 = wc := ⟨_, rfl⟩
    subst hw3
    clear HR2 k4 s0 q0 f0 w2
    go_upto_if 50 with (fail)
    go_cut [] (fun W => Hid (Rep W a l1 { H with mem := H.mem ++ objCells cl n f } ∧ Nx a l l1 w0 W))
    case first =>
     obtain ⟨z1, z2, z3⟩ := hcut.out
     by_cases hf0 : f = 0
     ·have hfb : ((f : Int) == 0) = true := by simp [hf0]
      have k4 := z1.c4
      have s0 := cell_in (HS.out.2.1 z2) 0
      simp only [I, List.getElem?_toArray, List.getElem?_cons_zero] at s0
      dsimp only at k4
      rw [z3] at k4
      have hLn : Hid (L = n + 2) := by have := HLL.out; unfold lenN at this; simp [hf0] at this; unfold Hid; omega
      have hlen3 : (H.mem ++ [cl, ((2 * n + f : Nat) : Int)] ++ List.replicate (L - 2) (0 : Int)).length = H.mem.length + L := by simp; omega
      rw [hlen3] at k4
      have i6 : IntKind.i64.wrap ((H.mem.length : Int) + 2) = (H.mem.length : Int) + 2 := by rw [iwrap]; unfold wrap64; omega
      have i7 : (0 : Int) ≤ (H.mem.length : Int) + 2 := by omega
      have i8 : (H.mem.length : Int) + 2 ≤ ((H.mem.length + L : Nat) : Int) := by omega
      have hml := z1.ml
      dsimp only at hml
      rw [hlen3] at hml
      have i9 : ((H.mem.length + L : Nat) : Int) ≤ (l1.cm : Int) := by omega
      have j1 : (2 : Int) ≤ (L : Int) := by omega
      have j2 : (H.mem.length : Int) + 2 ≤ (H.mem.length : Int) + (L : Int) := by omega
      have j3 : (H.mem.length : Int) + (L : Int) ≤ (l1.cm : Int) := by omega
      have e1 : ((H.mem.length : Int) + 2).toNat = H.mem.length + 2 := by omega
      have e2 : H.mem.length + L - (H.mem.length + 2) = n := by have := hLn.out; omega
      obtain ⟨g2, hg2, _, _, _, C, hC, hCs⟩ := own_at z1.mem 0 (by omega)
      have eg2 : g2 = g' := by rw [z3] at hg2; injection hg2 with e; injection e with e; exact e.symm
      subst eg2
      have HW : Hid ((n ≠ 0 → (if l1.cm = H.mem.length + 2 then some (⟨g2, 0, none⟩ : Addr) else some ⟨g2, H.mem.length + 2, none⟩) = some ⟨g2, H.mem.length + 2, none⟩) ∧ w3.heap[g2]? = some (.cells C 33 (0, 0)) ∧ H.mem.length + 2 + n ≤ C.size) := by
       refine ⟨fun h0 => ?_, hC, ?_⟩
       ·rw [if_neg (by have := hLn.out; omega)]
       ·have := hLn.out; omega
      have HZ : Hid (∀ W, W.heap[g2]? = some (.cells (fillC C (H.mem.length + 2) (.int .i64 4) n) 33 (0, 0)) → Fr [g2] w3 W → Rep W a l1 { H with mem := H.mem ++ objCells cl n f } ∧ Nx a l l1 w0 W) := by
       intro W hW1 hW2
       have hz2 := hLn.out
       have K := Rep.fillMem (X := H.mem ++ [cl, ((2 * n + f : Nat) : Int)]) (Y := List.replicate (L - 2) 0) (v := 4) z1 z3 rfl C hC (by simpa [hz2] using hW1) hW2
       have e3 : H.mem ++ [cl, ((2 * n + f : Nat) : Int)] ++ List.replicate (List.replicate (L - 2) (0 : Int)).length 4 = H.mem ++ objCells cl n f := by
        unfold objCells
        rw [if_pos hf0, List.length_replicate, hz2]
        simp
       rw [e3] at K
       exact ⟨K.1, z2.trans K.2⟩
      clear z1 z2 z3 hlen3 hml hf0 hg2 hC hCs hcut
      generalize hcmx : l1.cm = cm at *
      clear hcmx
      by_cases hcm : cm = H.mem.length + 2
      ·have hw1 := HW.out.1
       rw [if_pos hcm] at hw1
       have HW1 := mkHid hw1
       have hcb : (if cm = H.mem.length + 2 then some (⟨g2, 0, none⟩ : Addr) else some ⟨g2, H.mem.length + 2, none⟩) = some ⟨g2, 0, none⟩ := if_pos hcm
       clear hw1
       subst hcm
       go_wp2
       go_region_with (go_at_call 103; refine (fill_any g2 (H.mem.length + 2) n _ _ 4 _ C (by omega) HW1.out (by exact HW.out.2.1) HW.out.2.2).mono ?_; rintro e w' ⟨rfl, hh1, hh2, hh3⟩)
       all_goals go_wp2
       all_goals
        go_meet
        case rel => exact HZ.out _ (by assumption) (Fr.trans (S' := [g2]) (Fr.drew [g2] w3) (by assumption) (fun b hb => .inl hb))
      ·go_wp2
       go_region_with (go_at_call 103; refine (fill_any g2 (H.mem.length + 2) n _ _ 4 _ C (by omega) (fun _ => rfl) (by exact HW.out.2.1) HW.out.2.2).mono ?_; rintro e w' ⟨rfl, hh1, hh2, hh3⟩)
       all_goals go_wp2
       all_goals
        go_meet
        case rel => exact HZ.out _ (by assumption) (Fr.trans (S' := [g2]) (Fr.drew [g2] w3) (by assumption) (fun b hb => .inl hb))
     ·have hfb : ((f : Int) == 0) = false := by simp; omega
      have HZ : Hid (Rep w3 a l1 { H with mem := H.mem ++ objCells cl n f } ∧ Nx a l l1 w0 w3) := by
       refine ⟨?_, z2⟩
       have hz2 : L = 2 + (n + 3) / 4 := by have := HLL.out; unfold lenN at this; rw [if_pos (by omega)] at this; omega
       have e3 : H.mem ++ [cl, ((2 * n + f : Nat) : Int)] ++ List.replicate (L - 2) (0 : Int) = H.mem ++ objCells cl n f := by
        unfold objCells
        rw [if_neg hf0, List.append_assoc]
        congr 3
        omega
       rw [e3] at z1
       exact z1
      clear z1 z2 z3 hcut hf0
      go_wp2
      go_meet
      case rel => exact HZ
    case rest =>
     obtain ⟨w4, hw4⟩ : ∃ w4, w4 = wc := ⟨_, rfl⟩
     subst hw4
     obtain ⟨i0, hi, hz0, hz1, hz2⟩ := info_parts info103'
     go_wp2
     go_loopg [] (oop + 1 - H.seats.length) (fun gk wr => Hid (∃ m l2, gk = oop + 1 - (H.seats.length + m) ∧ (m = 0 ∨ H.seats.length + m ≤ oop + 1) ∧ Rep wr a l2 { H with mem := H.mem ++ objCells cl n f, seats := H.seats ++ List.replicate m (0, 0, 0) } ∧ Nx a l l2 w0 wr))
     case atStart =>
      obtain ⟨z1, z2⟩ := hcut.out
      exact ⟨0, l1, rfl, .inl rfl, by simpa using z1, z2⟩
     case round =>
      obtain ⟨m, l2, rfl, hm, hr, hx⟩ := hrel.out
      clear hrel
      obtain ⟨B, hB⟩ : ∃ B, B = H.seats ++ List.replicate m ((0, 0, 0) : Nat × Nat × Nat) := ⟨_, rfl⟩
      have hBl : B.length = H.seats.length + m := by rw [hB]; simp
      rw [← hB] at hr
      have c5 := hr.c5
      have f5 := hr.frozen 5
      dsimp only at c5
      have hne : a < wr.heap.size := hr.lt a (by simp [foot])
      by_cases hle : B.length ≤ oop
      ·have hle' : (B.length : Int) ≤ (oop : Int) := by omega
       have HG := mkHid (fun w1 g cap => @grow_seats wr (wr.alloc (.cells #[.int .i64 0, .int .i64 0, .int .i64 0] 103)) w1 a l2 { H with mem := H.mem ++ objCells cl n f, seats := B } g cap (wr.heap.size + 1) hr (Fr.alloc _ _ _) (by omega))
       have hown := hr.seats
       dsimp only at hown HG
       have HM : Hid (B = H.seats ++ List.replicate m ((0, 0, 0) : Nat × Nat × Nat) ∧ Nx a l l2 w0 wr) := ⟨hB, hx⟩
       have hmx : Hid (oop + 1 - (H.seats.length + (m + 1)) < oop + 1 - (H.seats.length + m)) := by unfold Hid; omega
       have hmy : Hid (H.seats.length + (m + 1) ≤ oop + 1) := by unfold Hid; omega
       have hra : some a ≠ Value.ownBlock (.slice l2.ps B.length l2.cs) := fun e => (hr.apart a).2.1 ((blk_own _ _ _ _).1 e.symm) |>.1 rfl
       clear hr hx hB hBl hm
       go_wp2_with (first
        | (at_builtin; refine wpList_append_lies _ rfl (.tmp 71) (.tmp 73) 90 rfl 0 103 i0 (.agg #[.int .i64 0, .int .i64 0, .int .i64 0]) 3 24 Tryd.underlying90 hi hz0 hz1 hz2 rfl (by decide) _ _ _ rfl (hown.alloc _) ⟨wr.heap.size, 0, none⟩ 1 1 [.int .i64 0, .int .i64 0, .int .i64 0] rfl rfl ?c1 ?c2 (by omega) ?c3 ?c4 (by simp) (wr.heap.size + 1) (by simp) ?_)
        | go_in)
       case c1 => exact World.news_of_block (heap_alloc_new wr _)
       case c2 => intro u hu; simp at hu; subst hu; rfl
       case c3 => unfold maxLen; omega
       case c4 => omega
       intro g3 cap w5 hown' hgrow hat hlt
       have d5 := (hgrow.cell_far ⟨a, 5, none⟩ (by simp; omega) hra).trans ((World.cell?_alloc_lt (o := .cells #[.int .i64 0, .int .i64 0, .int .i64 0] 103) (w := wr) (a := ⟨a, 5, none⟩) hne).trans c5)
       have e5 := (hgrow.frozen_far ⟨a, 5, none⟩ (by simp; omega) hra).trans ((World.frozen?_alloc_old (o := .cells #[.int .i64 0, .int .i64 0, .int .i64 0] 103) (w := wr) (a := ⟨a, 5, none⟩) (by show a ≠ _; omega)).trans f5)
       have HK := mkHid (HG.out w5 g3 cap hown' hgrow hat)
       clear HG hgrow hown' hown hat
       go_wp2
       go_roundg (oop + 1 - (H.seats.length + (m + 1)))
       case measure => exact hmx.out
       case rel =>
        obtain ⟨q1, q3⟩ := HM.out
        have K := HK.out _ ⟨rfl, rfl, rfl, rfl⟩
        refine ⟨m + 1, _, rfl, .inr hmy.out, ?_, q3.trans K.2⟩
        rw [List.replicate_succ', ← List.append_assoc, ← q1]
        exact K.1
      ·have hpad : Hid (B = padSeats H.seats (oop + 1)) := by
        have e : oop + 1 - H.seats.length = m := by omega
        unfold padSeats Hid
        rw [hB, e]
       obtain ⟨gs, hgs, hcs, hfs, hgsa, hgsl⟩ := hr.seatAt oop (by dsimp only; omega)
       obtain ⟨q0, q1, q2⟩ := hcs oop (by dsimp only; omega)
       have p0 := hfs (oop * 3)
       have p1 := hfs (oop * 3 + 1)
       have p2 := hfs (oop * 3 + 2)
       have hsb := HS.out.2.1 hx
       have s0 := cell_in hsb 0
       have s1 := cell_in hsb 1
       have s2 := cell_in hsb 2
       simp only [I, List.getElem?_toArray, List.getElem?_cons_succ, List.getElem?_cons_zero] at s0 s1 s2 q0 q1 q2
       try dsimp only at q0 q1 q2
       rw [hgs] at c5
       have hgsb : gs ≠ w.heap.size + 1 := by
        intro e
        have hin : gs ∈ foot a l2 := by simp [foot, Lay.blocks, blk, hgs]
        rcases hx.2 gs hin with h1 | h1
        ·exact hb1 (by rw [← e]; exact h1)
        ·have := hx.1.size; have hz := HZ0.out; omega
       have HR9 : Hid (Rep wr a l2 { H with mem := H.mem ++ objCells cl n f, seats := B } ∧ Nx a l l2 w0 wr ∧ l2.ps = some ⟨gs, 0, none⟩ ∧ oop < B.length) := ⟨hr, hx, hgs, by omega⟩
       have o1 : (0 : Int) ≤ (oop : Int) := by omega
       have o2 : (oop : Int) < (B.length : Int) := by omega
       have o3 : decide ((B.length : Int) ≤ (oop : Int)) = false := by simp; omega
       clear hr hx hgs hcs hfs hsb hm hB hBl hle
       generalize (B.getD oop (0, 0, 0)).1 = y0 at *
       generalize (B.getD oop (0, 0, 0)).2.1 = y1 at *
       generalize (B.getD oop (0, 0, 0)).2.2 = y2 at *
       have HBl := mkHid (rfl : B.length = B.length)
       generalize hbn : B.length = bn at c5 o2 o3
       clear hbn
       go_wp2
       go_cut [] (fun W => Hid (Rep W a l2 { H with mem := H.mem ++ objCells cl n f, seats := B.set oop (H.mem.length, L, H.order.length) } ∧ Nx a l l2 w0 W))
       case first =>
        go_region
        all_goals go_wp2
        all_goals
         go_meet
         case rel =>
          obtain ⟨z1, z2, z3, z4⟩ := HR9.out
          have K := z1.setSeat z3 oop z4 (H.mem.length, L, H.order.length) _ ⟨rfl, rfl, rfl, rfl⟩
          exact ⟨K.1.eqw ⟨rfl, rfl, rfl, rfl⟩, z2.trans (K.2.eqw ⟨rfl, rfl, rfl, rfl⟩)⟩
       case rest =>
        obtain ⟨w6, hw6⟩ : ∃ w6, w6 = wc := ⟨_, rfl⟩
        subst hw6
        clear HR9 q0 q1 q2 p0 p1 p2 s0 s1 s2 c5 f5
        obtain ⟨hr, hx⟩ := hcut.out
        clear hcut
        have c6 := hr.c6
        have f6 := hr.frozen 6
        dsimp only at c6
        have hne6 : a < w6.heap.size := hr.lt a (by simp [foot])
        have hra : some a ≠ Value.ownBlock (.slice l2.po H.order.length l2.co) := fun e => (hr.apart a).2.2.1 ((blk_own _ _ _ _).1 e.symm) |>.1 rfl
        have HG := mkHid (fun w1 g cap => @grow_order w6 (w6.alloc (.cells #[.int .i64 (oop : Int)] 3)) w1 a l2 { H with mem := H.mem ++ objCells cl n f, seats := B.set oop (H.mem.length, L, H.order.length) } g cap oop (w6.heap.size + 1) hr (Fr.alloc _ _ _) (by omega))
        have hown := hr.order
        dsimp only at hown HG
        have HX := mkHid hx
        clear hr hx
        obtain ⟨j0, ji, jz0, jz1, jz2⟩ := info_parts info3
        go_wp2_with (first
         | (at_builtin; refine wpList_append_lies _ rfl (.tmp 88) (.tmp 90) 22 rfl 0 3 j0 (.int .i64 0) 1 8 Tryd.underlying22 ji jz0 jz1 jz2 rfl (by decide) _ _ _ rfl (hown.alloc _) ⟨w6.heap.size, 0, none⟩ 1 1 [.int .i64 (oop : Int)] rfl rfl ?d1 ?d2 (by omega) ?d3 ?d4 (by simp) (w6.heap.size + 1) (by simp) ?_)
         | (go_at_call 104; fail)
         | go_in)
        case d1 => exact World.news_of_block (heap_alloc_new w6 _)
        case d2 => intro u hu; simp at hu; subst hu; rfl
        case d3 => unfold maxLen; omega
        case d4 => omega
        intro g6 cap6 w7 hown' hgrow hat hlt
        have d6 := (hgrow.cell_far ⟨a, 6, none⟩ (by simp; omega) hra).trans ((World.cell?_alloc_lt (o := .cells #[.int .i64 (oop : Int)] 3) (w := w6) (a := ⟨a, 6, none⟩) hne6).trans c6)
        have e6 := (hgrow.frozen_far ⟨a, 6, none⟩ (by simp; omega) hra).trans ((World.frozen?_alloc_old (o := .cells #[.int .i64 (oop : Int)] 3) (w := w6) (a := ⟨a, 6, none⟩) (by show a ≠ _; omega)).trans f6)
        have HK := mkHid (HG.out w7 g6 cap6 hown' hgrow hat)
        clear HG hgrow hown' hown hat c6 f6
        go_wp2_with fail
        have K6 := HK.out _ ⟨rfl, rfl, rfl, rfl⟩
        refine Calls.mono (add_any oop a _ _ _ K6.1 ho0 ho1 hb hbl (by have := hs.count; have := hs.oops; dsimp only; omega)) ?_
        rintro e w8 ⟨rfl, l4, hr8, hx8⟩
        have hx9 := (HX.out.trans K6.2).trans hx8
        clear K6 HK d6 e6 HX hra hx8
        have hsb := HS.out.2.1 hx9
        have hrb := HS.out.2.2 hx9
        have s0 := cell_in hsb 0
        have s1 := cell_in hsb 1
        have s2 := cell_in hsb 2
        have t0 := cell_in hrb 0
        have t1 := cell_in hrb 1
        have t2 := cell_in hrb 2
        have y0 := frozen_in hrb 0
        have y1 := frozen_in hrb 1
        have y2 := frozen_in hrb 2
        simp only [I, List.getElem?_toArray, List.getElem?_cons_succ, List.getElem?_cons_zero] at s0 s1 s2 t0 t1 t2
        have HF : Hid (∀ W, Eqw (((w8.setCell ⟨w.heap.size, 0, none⟩ (I H.mem.length)).setCell ⟨w.heap.size, 1, none⟩ (I L)).setCell ⟨w.heap.size, 2, none⟩ (I H.order.length)) W → ∃ l', Rep W a l' (layH H oop cl n f) ∧ Nx a l l' w W) := by
         intro W he
         have hrn : w.heap.size ∉ foot a l4 := by
          intro hin
          rcases hx9.2 _ hin with h1 | h1
          ·exact hb0 h1
          ·have := HZ0.out; omega
         have hset : ∀ k, k ≠ w.heap.size → W.heap[k]? = w8.heap[k]? := fun k hk => by rw [he.2.2.2, set_else hk, set_else hk, set_else hk]
         refine ⟨l4, ?_, ?_, ?_⟩
         ·have e9 : layH H oop cl n f = { H with mem := H.mem ++ objCells cl n f, seats := B.set oop (H.mem.length, L, H.order.length), order := H.order ++ [oop], bits := addBits H.bits oop, count := H.count + 1 } := by
           unfold layH
           rw [← hpad.out, HLL.out]
          rw [e9]
          exact hr8.congr fun g hg => hset g (fun e => hrn (by rw [← e]; exact hg))
         ·have hx10 := HS.out.1.trans hx9
          refine ⟨he.1.trans hx10.1.os, he.2.1.trans hx10.1.tape, he.2.2.1.trans hx10.1.output, by rw [he.2.2.2]; simpa using hx10.1.size, fun k hk hn => ?_⟩
          rw [hset k (by omega)]
          exact hx10.1.block k hk hn
         ·exact (HS.out.1.trans hx9).2
        clear hr8 hx9 hsb hrb
        have x0 : (w8.setCell ⟨w.heap.size, 0, none⟩ (.int .i64 (H.mem.length : Int))).cell? ⟨w.heap.size, 0, none⟩ = some (.int .i64 (H.mem.length : Int)) := World.cell?_setCell_same _ _ _ t0
        have x1 : ((w8.setCell ⟨w.heap.size, 0, none⟩ (.int .i64 (H.mem.length : Int))).setCell ⟨w.heap.size, 1, none⟩ (.int .i64 (L : Int))).cell? ⟨w.heap.size, 1, none⟩ = some (.int .i64 (L : Int)) := World.cell?_setCell_same _ _ _ ((World.cell?_setCell_other _ _ _ _ (by simp)).trans t1)
        have x2 : (((w8.setCell ⟨w.heap.size, 0, none⟩ (.int .i64 (H.mem.length : Int))).setCell ⟨w.heap.size, 1, none⟩ (.int .i64 (L : Int))).setCell ⟨w.heap.size, 2, none⟩ (.int .i64 (H.order.length : Int))).cell? ⟨w.heap.size, 2, none⟩ = some (.int .i64 (H.order.length : Int)) := World.cell?_setCell_same _ _ _ ((World.cell?_setCell_other _ _ _ _ (by simp)).trans ((World.cell?_setCell_other _ _ _ _ (by simp)).trans t2))
        go_wp2
        refine bodyPost_ret (v := .agg #[I H.mem.length, I L, I H.order.length]) (by simp [results, Tryd.results52, go_sem, I, x0, x1, x2]) rfl ⟨by rw [HLL.out], HF.out _ ⟨rfl, rfl, rfl, rfl⟩⟩
end Go.Proofs.YtklfnjlenbgmoaaDoor
