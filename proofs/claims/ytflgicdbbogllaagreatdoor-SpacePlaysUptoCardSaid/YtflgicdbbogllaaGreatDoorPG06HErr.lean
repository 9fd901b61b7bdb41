import Derived.Test.YtflgicdbbogllaaGreatDoorPHSlideW
set_option maxHeartbeats 2000000
set_option maxRecDepth 20000
set_option linter.unusedSimpArgs false
set_option linter.unusedVariables false
namespace Go.Proofs.YtflgicdbbogllaaGreatDoor
open Go.RowKit Tryz
open Value (int)
open IntKind (i64)
attribute [local go_sem ↓] wp_at_zero wp_at_succ
theorem info4 : (prog.info? 4).map (fun i => (i.zero, i.size, i.bytes)) = some (some (.bool false), 1, 1) := by kernel_rfl
def kCT (n : Nat) (ks : List Nat) : List Value := (List.range n).map fun i => .bool (decide (i ∈ ks))
theorem kDY (n : Nat) (ks : List Nat) : (kCT n ks).length = n := by simp [kCT]
theorem kCd (n : Nat) (ks : List Nat) (i : Nat) (h : i < n) : (kCT n ks)[i]? = some (.bool (decide (i ∈ ks))) := by simp [kCT, h]
theorem kFR (n : Nat) (ks : List Nat) (i : Nat) : (kCT n ks).set i (.bool true) = kCT n (ks ++ [i]) := by
 apply jBe
 intro j;rw [jAh]
 by_cases hj : j < n
 ·by_cases hij : i = j
  ·subst hij
   simp [kCT, hj]
  ·rw [jn hij, kCd _ _ _ hj, kCd _ _ _ hj];have : ¬ j = i := fun e => hij e.symm
   simp [this]
 ·have h1 : (kCT n ks).length ≤ j := by rw [kDY]; omega
  have h2 : (kCT n (ks ++ [i])).length ≤ j := by rw [kDY]; omega
  rw [jAM h2]
  by_cases hij : i = j
  ·subst hij;rw [jp rfl, jn (by omega)]
  ·rw [jn hij, jAM h1]
theorem kDv (n : Nat) (h2 : n ≤ 1048576) (W : World) :
  (Instr.makeSlice 164 (int i64 n) (int i64 n)).run prog W = .ok (.slice (some ⟨W.heap.size, 0, none⟩) n n) (W.alloc (.cells (kCT n []).toArray 4)) := by
 obtain ⟨i0, hi, hz0, hz1, hz2⟩ := info_parts info4;have h := run_make (P := prog) W 164 4 i0 (.bool false) underlying164 hi hz0 .i64 .i64 n n (by omega) (by omega) (by rw [hz2]; omega) (by omega)
 have e : madeCells (Value.bool false).cells n = (kCT n []).toArray := by
  apply Array.toList_inj.1;show (madeCells #[.bool false] n).toList = _;rw [toList_madeCells_one];apply jBe
  intro j
  by_cases hj : j < n
  ·rw [jAo, jp hj]
   simp [kCT, hj]
  ·rw [jAo, jn hj, jAM (by rw [kDY]; omega)]
 rw [h, hz1, jBk, jAj, e]
def kAj (H : HS) (ks : List Nat) : Nat → HS
 | 0 => H
 | k + 1 => if (kAj H ks k).fC.getD k 0 ≠ 0 ∧ (kAj H ks k).fC.getD k 0 ∉ ks then vacH (kAj H ks k) ((kAj H ks k).fC.getD k 0) else kAj H ks k
structure kLR (H : HS) (ks : List Nat) : Prop where
 all : ∀ j ∈ ks, 1 ≤ j ∧ j < H.fD.length ∧ (H.fD.getD j (0, 0, 0)).2.1 ≠ 0
 vac : ∀ k, k < H.fC.length → (kAj H ks k).fC.getD k 0 ≠ 0 → (kAj H ks k).fC.getD k 0 < H.fD.length ∧ ((kAj H ks k).fC.getD k 0 ∉ ks → kKh (kAj H ks k) ((kAj H ks k).fC.getD k 0))
 sl : kEt (kAj H ks H.fC.length)
 m1 : H.mem.length ≤ 1048576
 r1 : H.fC.length ≤ 1048576
 t1 : H.fD.length ≤ 65538
 c1 : H.count ≤ 65536
 a1 : H.age ≤ 1000000000
theorem kLI (H : HS) (ks : List Nat) (hk : kLR H ks) : ∀ k, k ≤ H.fC.length → (kAj H ks k).mem.length = H.mem.length ∧ (kAj H ks k).fC.length = H.fC.length ∧ (kAj H ks k).fD.length = H.fD.length ∧ (kAj H ks k).count ≤ H.count ∧ (kAj H ks k).age = H.age := by
 intro k
 induction k with
 | zero => intro _; exact ⟨rfl, rfl, rfl, jAD _, rfl⟩
 | succ k ih =>
  intro hle;obtain ⟨h1, h2, h3, h4, h5⟩ := ih (by omega);have hv := hk.vac k (by omega);unfold kAj
  split
  ·rename_i hc
   have hq := (hv hc.1).2 hc.2;have := hq.s2;unfold vacH remH kOx;refine ⟨?_, by simpa using h2, by simpa using h3, by dsimp only; omega, h5⟩;dsimp only;rw [length_splice _ _ _ (by rw [jAY]; omega)];exact h1
  ·exact ⟨h1, h2, h3, h4, h5⟩
theorem kHF (H : HS) : ∀ k, (kAM H k).H.count = H.count ∧ (kAM H k).H.age = H.age := by
 intro k
 induction k with
 | zero => exact ⟨rfl, rfl⟩
 | succ k ih =>
  show (kAW (kAM H k) k).H.count = _ ∧ (kAW (kAM H k) k).H.age = _;unfold kAW
  split
  ·exact ih
  ·exact ih
theorem kJN (H : HS) (hk : kEt H) : (kBS H).mem.length ≤ H.mem.length ∧ (kBS H).count = H.count ∧ (kBS H).age = H.age := by
 have h1 := kCc H hk H.fC.length (jAD _);have h2 := kHF H H.fC.length;refine ⟨?_, h2.1, h2.2⟩;show ((kAM H H.fC.length).H.mem.take _).length ≤ _;rw [jAk];omega
def kFf (H : HS) (ks : List Nat) : HS := { kBS (kAj H ks H.fC.length) with age := H.age + 1 }
theorem kNX (ks : List Nat) (ao : Option Addr) (c : Nat) (a : Nat) (l : Lay) (H : HS) (w : World) (h : Rep w a l H) (hk : kLR H ks) (hin : ∀ j, j < ks.length → ∃ b, ao = some ⟨b, 0, none⟩ ∧ b < w.heap.size ∧ b ∉ foot a l ∧ w.cell? ⟨b, j, none⟩ = some (int i64 (ks.getD j 0 : Nat))) (hkl : (ks.length : Int) ≤ 9223372036854775807) :
  Calls prog 111 #[.pointer (some ⟨a, 0, none⟩), .slice ao ks.length c] w fun e w' => e = .returned (.tuple #[int i64 ((H.count : Int) - (kFf H ks).count), int i64 ((H.mem.length : Int) - (kFf H ks).mem.length), int i64 0]) ∧ Rep w' a l (kFf H ks) ∧ Nx a l l w w' := by
 have hal := h.lt a (by simp [foot]);have c0 := h.c0;have c5 := h.c5;have hmk := kDv H.fD.length (by have := hk.t1; omega);have HK := kAA hk;have HR := kAA h;have HIN := kAA hin;have ht1 := hk.t1;clear hk h hin;go_enter func111, ntmps111
 go_wp2_with (go_at_call 88; refine (kAh _ _ c0).mono ?_; rintro e w1 ⟨rfl, hw1⟩; rw [hw1]; clear hw1 w1)
 go_loopw [27] (fun q wr => ∃ k : Nat, k ≤ ks.length ∧ q = int i64 k ∧ Hid (Rep wr a l H ∧ Nx a l l w wr ∧ wr.heap[w.heap.size]? = some (.cells (kCT H.fD.length (ks.take k)).toArray 4 (0, 0)))) (fun q _ => ks.length - (intOf q).toNat)
 case atStart => exact ⟨0, jAH _, rfl, HR.out.alloc _, Nx.frw (Fr.alloc _ _ _), heap_alloc_new _ _⟩
 case round =>
  obtain ⟨k, hkn, rfl, hq⟩ := hrel;obtain ⟨hr, hx, hkb⟩ := hq.out;clear hq
  by_cases hlt : k < ks.length
  ·obtain ⟨j, hj⟩ := jex (ks.getD k 0);obtain ⟨b, rfl, hb, hbn, hin⟩ := HIN.out k hlt;have hin := (hx.1.cell (p := ⟨b, k, none⟩) hb hbn).trans hin;rw [← hj] at hin;have hmem : j ∈ ks := by rw [hj]; simp [hlt]
   obtain ⟨j1, j2, j3⟩ := HK.out.all j hmem;have HSO := kAA (kAb j a l H wr hr (by omega) (by omega) j3)
   have HT : Hid (ks.take (k + 1) = ks.take k ++ [j]) := by
    unfold Hid;rw [hj, jAO hlt]
    simp [hlt]
   obtain ⟨⟨p, L, t⟩, hs⟩ : ∃ s, s = H.fD.getD j (0, 0, 0) := ⟨_, rfl⟩
   rw [← hs] at HSO;dsimp only [sv, I] at HSO;have k1 := ng k;have k2 : (k : Int) < ks.length := by omega
   have k3 := ng j;have k4 : (j : Int) < H.fD.length := by omega
   have hkl2 := kAB hkb;have HRr := kAA hr;have HXr := kAA hx;have HKB := kAA hkb;clear hr hx hkb hs j3 hmem hj
   go_wp2_with fail
   refine HSO.out.mono ?_;rintro e w1 ⟨rfl, hf1⟩;have z1 := hf1.size;have hkb1 := (hf1.block _ hkl2 (by simp)).trans HKB.out;have hkb2 := (jAN w1 (.cells #[int i64 p, int i64 L, int i64 t] 148) w.heap.size (by omega)).trans hkb1;have cl := kAC hkb2 j;have fl := kAD hkb2 j;rw [jAX, kCd _ _ _ (by omega)] at cl
   have HE : Hid (∀ W, Eqw ((w1.alloc (.cells #[int i64 p, int i64 L, int i64 t] 148)).setCell ⟨w.heap.size, j, none⟩ (.bool true)) W → Rep W a l H ∧ Nx a l l w W ∧ W.heap[w.heap.size]? = some (.cells (kCT H.fD.length (ks.take (k + 1))).toArray 4 (0, 0))) := by
    intro W he;have F1 : Fr [] wr (w1.alloc (.cells #[int i64 p, int i64 L, int i64 t] 148)) := hf1.trans (Fr.alloc [] _ _) (by simp);have hr1 := HRr.out.keep F1 (by simp);have hnf : w.heap.size ∉ foot a l := fun hm => by have := HR.out.lt _ hm; omega
    refine ⟨(hr1.congr fun g hg => kAK (fun e => hnf (by rw [← e]; exact hg))).eqw he, Nx.eqw ⟨?_, fun b hb => .inl hb⟩ he, ?_⟩
    ·refine (HXr.out.1.trans (F1.mono (S' := foot a l) (by simp)) (fun b hb => .inl hb)).trans (Fr.setCell (S := [w.heap.size]) _ _ _ (by simp)) (fun b hb => by simp at hb; subst hb; right; exact jAD _)
    ·rw [he.2.2.2, kAI hkb2 j (.bool true), HT.out, ← kFR]
     simp
   have HF1 := kAA hf1;generalize decide (j ∈ ks.take k) = old at *;clear hf1 hkb1 hkb2 HSO
   go_wp2
   go_roundw
   case rel => exact ⟨k + 1, by omega, by go_num, HE.out _ ⟨rfl, rfl, rfl, rfl⟩⟩
   case measure => simp [intOf]; omega
  ·have hke : k = ks.length := by omega
   subst hke;rw [jAV] at hkb;have c4 := hr.c4;have c6 := hr.c6;have c9 := hr.c9;have hc1 := HK.out.c1;have hr1 := HK.out.r1;have HRr := kAA hr;have HXr := kAA hx;have HKB := kAA hkb;clear hr hx hkb hkn
   go_wp2
   go_quiet (fail)
   go_wp2
   go_loopw [59] (fun q W => ∃ k : Nat, k ≤ H.fC.length ∧ q = int i64 k ∧ Hid (Rep W a l (kAj H ks k) ∧ Nx a l l w W ∧ W.heap[w.heap.size]? = some (.cells (kCT H.fD.length ks).toArray 4 (0, 0)))) (fun q _ => H.fC.length - (intOf q).toNat)
   case atStart => exact ⟨0, jAH _, rfl, HRr.out.congr fun _ _ => rfl, HXr.out.eqw ⟨rfl, rfl, rfl, rfl⟩, HKB.out⟩
   case round =>
    clear c4 c6 c9;obtain ⟨k, hkn, rfl, hq⟩ := hrel;obtain ⟨hr, hx, hkb⟩ := hq.out;clear hq;obtain ⟨l1, l2, l3, l4, l5⟩ := kLI H ks HK.out k hkn
    by_cases hlt : k < H.fC.length
    ·have hv := HK.out.vac k hlt;have hnext : Hid (kAj H ks (k + 1) = if (kAj H ks k).fC.getD k 0 ≠ 0 ∧ (kAj H ks k).fC.getD k 0 ∉ ks then vacH (kAj H ks k) ((kAj H ks k).fC.getD k 0) else kAj H ks k) := rfl;obtain ⟨Hk, hHk⟩ := jex (kAj H ks k);rw [← hHk] at hr l1 l2 l3 l4 l5 hv hnext;clear hHk;obtain ⟨go, hgo, hco, hfo, hgoa, hgol⟩ := hr.orderAt k (by omega);have o1 := hco k (by omega);have k1 := ng k;have k2 : (k : Int) < H.fC.length := by omega
     generalize Hk.fC.getD k 0 = o at *;have HR2 := kAA hr;have HX2 := kAA hx;rw [hgo];clear hco hfo l1 l2 l4 l5
     by_cases h0 : o = 0
     ·subst h0
      have HN : Hid (kAj H ks (k + 1) = Hk) := by
       rw [hnext.out];unfold Hid;rw [jn (by simp)]
      clear hnext hv hr hx l3;have HKB2 := kAA hkb;clear hkb
      go_wp2
      go_roundw
      case rel => exact ⟨k + 1, by omega, by go_num, by rw [HN.out]; exact ⟨HR2.out, HX2.out, HKB2.out⟩⟩
      case measure => simp [intOf]; omega
     ·have hob : ((o : Int) != 0) = true := by rw [bne_iff_ne]; omega
      obtain ⟨v1, v2⟩ := hv h0;have cl := kAC hkb o;rw [jAX, kCd _ _ _ v1] at cl;have k3 := ng o;have k4 : (o : Int) < H.fD.length := by omega
      by_cases hin : o ∈ ks
      ·rw [decide_eq_true hin] at cl
       have HN : Hid (kAj H ks (k + 1) = Hk) := by
        rw [hnext.out];unfold Hid;rw [jn (fun h => h.2 hin)]
       have HKB2 := kAA hkb;clear hnext v2 hr hx l3 hkb hin
       go_wp2
       go_roundw
       case rel => exact ⟨k + 1, by omega, by go_num, by rw [HN.out]; exact ⟨HR2.out, HX2.out, HKB2.out⟩⟩
       case measure => simp [intOf]; omega
      ·rw [decide_eq_false hin] at cl
       have HN : Hid (kAj H ks (k + 1) = vacH Hk o) := by
        rw [hnext.out];unfold Hid;rw [jp ⟨h0, hin⟩]
       have HV := kAA (kEn o a l Hk wr hr (v2 hin));have HKB2 := kAA hkb;have hkl2 := kAB hkb;have hnf : Hid (w.heap.size ∉ foot a l) := fun hm => by have := HR.out.lt _ hm; omega
       clear hnext v2 hr hx l3 hkb hin h0
       go_wp2_with fail
       refine HV.out.mono ?_;rintro e w2 ⟨rfl, hr2, hx2⟩
       have HF : Hid (Rep w2 a l (vacH Hk o) ∧ Nx a l l w w2 ∧ w2.heap[w.heap.size]? = some (.cells (kCT H.fD.length ks).toArray 4 (0, 0))) :=
        ⟨hr2, HX2.out.trans hx2, (hx2.1.block _ hkl2 hnf.out).trans HKB2.out⟩
       clear hr2 hx2 HV
       go_wp2
       go_roundw
       case rel => exact ⟨k + 1, by omega, by go_num, by rw [HN.out]; exact HF.out⟩
       case measure => simp [intOf]; omega
    ·have hke : k = H.fC.length := by omega
     subst hke;have HKH : Hid (kFf H ks = { kBS (kAj H ks H.fC.length) with age := H.age + 1 }) := rfl;have HSL := kAA (kNL a l _ wr hr HK.out.sl);have hsl := kJN (kAj H ks H.fC.length) HK.out.sl;have ha1 := HK.out.a1;have hm1 := HK.out.m1;obtain ⟨Hk, hHk⟩ := jex (kAj H ks H.fC.length);rw [← hHk] at HKH HSL l1 l4 l5 hsl;obtain ⟨Hs, hHs⟩ := jex (kBS Hk);rw [← hHs] at HKH HSL hsl;have HX2 := kAA hx;clear hr hx hkb l2 l3 hHk
     go_wp2_with fail
     refine HSL.out.mono ?_;rintro e w2 ⟨rfl, hr2, hx2⟩;have d4 := hr2.c4;have d9 := hr2.c9;have d10 := hr2.c10;have e10 := hr2.frozen 10;have b1 : (Hs.mem.length : Int) ≤ 1048576 := by omega
     have b2 : (Hs.count : Int) ≤ 65536 := by omega
     have b3 : (Hs.age : Int) ≤ 1000000000 := by omega
     have HAG : Hid (Hs.age = H.age) := by unfold Hid; omega
     have HF : Hid (∀ W, Eqw (w2.setCell ⟨a, 10, none⟩ (int i64 ((Hs.age : Int) + 1))) W → Rep W a l (kFf H ks) ∧ Nx a l l w W) := by
      intro W he;rw [HKH.out, ← HAG.out];have K := hr2.set (H' := { Hs with age := Hs.age + 1 }) 10 (int i64 ((Hs.age : Int) + 1)) rfl rfl rfl rfl rfl;exact ⟨K.eqw he, ((HX2.out.trans hx2).trans (Nx.fr (Fr.setCell (S := [a]) _ _ _ (by simp)))).eqw he⟩
     clear hr2 hx2 HSL l1 l4 l5 hsl hHs
     go_wp2
     go_quiet (fail)
     go_wp2
     go_ret3
     refine ⟨?_, HF.out _ ⟨rfl, rfl, rfl, rfl⟩⟩;rw [HKH.out];rfl
theorem kAk {H : HS} {oop : Nat} (h : has H oop = true) : (1 : Int) ≤ oop ∧ (oop : Int) < H.fD.length ∧ (H.fD.getD oop (0, 0, 0)).2.1 ≠ 0 := by
 have := of_decide_eq_true h
 simpa using this
theorem kAc (oop : Int) (a : Nat) (l : Lay) (H : HS) (w : World) (h : Rep w a l H) (hh : has H oop = false) :
  Calls prog 102 #[.pointer (some ⟨a, 0, none⟩), int i64 oop] w fun e w' => e = .returned (.tuple #[.agg #[int i64 0, int i64 0, int i64 0], int i64 20]) ∧ Fr [] w w' := kLS oop a l H w h hh
theorem kIj (oop : Int) (a : Nat) (l : Lay) (H : HS) (w : World) (h : Rep w a l H) (hh : has H oop = false) :
  Calls prog 53 #[.pointer (some ⟨a, 0, none⟩), int i64 oop] w fun e w' => e = .returned (.tuple #[int i64 0, int i64 20]) ∧ Fr [] w w' := by
 have HSO := kAA (kAc oop a l H w h hh);clear h hh;go_enter func53, ntmps53
 go_wp2_with fail
 refine HSO.out.mono ?_;rintro e w1 ⟨rfl, hf1⟩;have HF := kAA (hf1.trans (Fr.alloc [] w1 (.cells #[int i64 0, int i64 0, int i64 0] 148)) (by simp));clear hf1 HSO
 go_wp2
 go_ret2
 exact ⟨rfl, HF.out⟩
theorem kQP (oop : Int) (a : Nat) (l : Lay) (H : HS) (w : World) (h : Rep w a l H) (hh : has H oop = false) :
  Calls prog 82 #[.pointer (some ⟨a, 0, none⟩), int i64 oop] w fun e w' => e = .returned (.tuple #[int i64 0, int i64 0, int i64 20]) ∧ Fr [] w w' := by
 have HSO := kAA (kAc oop a l H w h hh);clear h hh;go_enter func82, ntmps82
 go_wp2_with fail
 refine HSO.out.mono ?_;rintro e w1 ⟨rfl, hf1⟩;have HF := kAA (hf1.trans (Fr.alloc [] w1 (.cells #[int i64 0, int i64 0, int i64 0] 148)) (by simp));clear hf1 HSO
 go_wp2
 go_ret3
 exact ⟨rfl, HF.out⟩
theorem Put_no (oop i v : Int) (a : Nat) (l : Lay) (H : HS) (w : World) (h : Rep w a l H) (hh : has H oop = false) :
  Calls prog 51 #[.pointer (some ⟨a, 0, none⟩), int i64 oop, int i64 i, int i64 v] w fun e w' => e = .returned (int i64 20) ∧ Fr [] w w' := by
 have HSO := kAA (kAc oop a l H w h hh);clear h hh;go_enter func51, ntmps51
 go_wp2_with fail
 refine HSO.out.mono ?_;rintro e w1 ⟨rfl, hf1⟩;have HF := kAA (hf1.trans (Fr.alloc [] w1 (.cells #[int i64 0, int i64 0, int i64 0] 148)) (by simp));clear hf1 HSO
 go_wp2
 go_ret
 exact ⟨rfl, HF.out⟩
theorem At_no (oop i : Int) (a : Nat) (l : Lay) (H : HS) (w : World) (h : Rep w a l H) (hh : has H oop = false) :
  Calls prog 55 #[.pointer (some ⟨a, 0, none⟩), int i64 oop, int i64 i] w fun e w' => e = .returned (.tuple #[int i64 0, int i64 20]) ∧ Fr [] w w' := by
 have HSO := kAA (kAc oop a l H w h hh);clear h hh;go_enter func55, ntmps55
 go_wp2_with fail
 refine HSO.out.mono ?_;rintro e w1 ⟨rfl, hf1⟩;have HF := kAA (hf1.trans (Fr.alloc [] w1 (.cells #[int i64 0, int i64 0, int i64 0] 148)) (by simp));clear hf1 HSO
 go_wp2
 go_ret2
 exact ⟨rfl, HF.out⟩
theorem kPj (oop : Int) (a : Nat) (l : Lay) (H : HS) (w : World) (h : Rep w a l H) (hh : has H oop = false) :
  Calls prog 70 #[.pointer (some ⟨a, 0, none⟩), int i64 oop] w fun e w' => e = .returned (int i64 20) ∧ Fr [] w w' := by
 have HSO := kAA (kAc oop a l H w h hh);clear h hh;go_enter func70, ntmps70
 go_wp2_with fail
 refine HSO.out.mono ?_;rintro e w1 ⟨rfl, hf1⟩;have HF := kAA (hf1.trans (Fr.alloc [] w1 (.cells #[int i64 0, int i64 0, int i64 0] 148)) (by simp));clear hf1 HSO
 go_wp2
 go_ret
 exact ⟨rfl, HF.out⟩
theorem kHN (i j : Int) (a : Nat) (l : Lay) (H : HS) (w : World) (h : Rep w a l H) (hh : has H i = false) :
  Calls prog 72 #[.pointer (some ⟨a, 0, none⟩), int i64 i, int i64 j] w fun e w' => e = .returned (int i64 20) ∧ Fr [] w w' := by
 have HSO := kAA (kAc i a l H w h hh);clear h hh;go_enter func72, ntmps72
 go_wp2_with fail
 refine HSO.out.mono ?_;rintro e w1 ⟨rfl, hf1⟩;have HF := kAA (hf1.trans (Fr.alloc [] w1 (.cells #[int i64 0, int i64 0, int i64 0] 148)) (by simp));clear hf1 HSO
 go_wp2
 go_ret
 exact ⟨rfl, HF.out⟩
theorem kGM (i : Nat) (j : Int) (a : Nat) (l : Lay) (H : HS) (w : World) (h : Rep w a l H) (hi : has H i = true) (hh : has H j = false) :
  Calls prog 72 #[.pointer (some ⟨a, 0, none⟩), int i64 i, int i64 j] w fun e w' => e = .returned (int i64 20) ∧ Fr [] w w' := by
 obtain ⟨h1, h2, h3⟩ := kAk hi;have HSO1 := kAA (kAb i a l H w h h1 h2 h3);have HSO2 := kAA (fun W (hW : Rep W a l H) => kAc j a l H W hW hh);have HR := kAA h;obtain ⟨⟨p, L, t⟩, hs⟩ : ∃ s, s = H.fD.getD i (0, 0, 0) := ⟨_, rfl⟩
 rw [← hs] at HSO1;dsimp only [sv, I] at HSO1;clear h hh hi h1 h2 h3 hs;go_enter func72, ntmps72
 go_wp2_with fail
 refine HSO1.out.mono ?_;rintro e w1 ⟨rfl, hf1⟩;have F2 : Fr [] w (w1.alloc (.cells #[int i64 p, int i64 L, int i64 t] 148)) := hf1.trans (Fr.alloc [] _ _) (by simp);have HF2 := kAA F2;clear hf1 HSO1 F2
 go_wp2_with fail
 refine Calls.mono (HSO2.out _ (HR.out.keep HF2.out (by simp))) ?_;rintro e w2 ⟨rfl, hf2⟩;have HF := kAA ((HF2.out.trans hf2 (by simp)).trans (Fr.alloc [] w2 (.cells #[int i64 0, int i64 0, int i64 0] 148)) (by simp));clear hf2 HSO2 HF2
 go_wp2
 go_ret
 exact ⟨rfl, HF.out⟩
theorem kFc (oop : Nat) (a : Nat) (l : Lay) (H : HS) (w : World) (h : Rep w a l H) (hi : has H oop = true) (hm : (H.fD.getD oop (0, 0, 0)).1 < H.mem.length) (hb : (H.mem.length : Int) ≤ 1048576) :
  Calls prog 53 #[.pointer (some ⟨a, 0, none⟩), int i64 oop] w fun e w' => e = .returned (.tuple #[int i64 (H.mem.getD (H.fD.getD oop (0, 0, 0)).1 0), int i64 0]) ∧ Fr [] w w' := by
 obtain ⟨h1, h2, h3⟩ := kAk hi;have HSO := kAA (kAb oop a l H w h h1 h2 h3);obtain ⟨g, hg, hcg, hfg, hga, hgl⟩ := h.memBlock (by omega);have q := hcg _ hm;have c4 := h.c4;rw [hg] at c4;have hal := h.lt a (by simp [foot]);obtain ⟨⟨p, L, t⟩, hs⟩ : ∃ s, s = H.fD.getD oop (0, 0, 0) := ⟨_, rfl⟩
 rw [← hs] at HSO hm q;rw [← hs];dsimp only [sv, I] at *;clear h hcg hfg hs h1 h2 h3 hi;generalize H.mem.getD p 0 = v at *;generalize H.mem.length = m at *;have k1 := ng p;have k2 : (p : Int) < m := by omega
 go_enter func53, ntmps53
 go_wp2_with fail
 refine HSO.out.mono ?_;rintro e w1 ⟨rfl, hf1⟩;have z1 := hf1.size;have d4 := (hf1.cell (p := ⟨a, 4, none⟩) hal (by simp)).trans c4;have dq := (hf1.cell (p := ⟨g, p, none⟩) hgl (by simp)).trans q;have D4 := (jAE w1 (.cells #[int i64 p, int i64 L, int i64 t] 148) ⟨a, 4, none⟩ (by show a < _; omega)).trans d4;have DQ := (jAE w1 (.cells #[int i64 p, int i64 L, int i64 t] 148) ⟨g, p, none⟩ (by show g < _; omega)).trans dq;have HF := kAA (hf1.trans (Fr.alloc [] w1 (.cells #[int i64 p, int i64 L, int i64 t] 148)) (by simp));clear hf1 HSO d4 dq
 go_wp2
 go_quiet (fail)
 go_wp2
 go_ret2
 exact ⟨rfl, HF.out.trans (Fr.drewN [] _ _) (by simp)⟩
theorem kLA (oop n f : Nat) (a : Nat) (l : Lay) (H : HS) (w : World) (h : Rep w a l H) (hi : has H oop = true) (hb : (H.mem.length : Int) ≤ 1048576) (h4 : (H.fD.getD oop (0, 0, 0)).1 + 1 < H.mem.length) (h5 : H.mem.getD ((H.fD.getD oop (0, 0, 0)).1 + 1) 0 = ((2 * n + f : Nat) : Int)) (hf : (f : Int) ≤ 1) :
  Calls prog 82 #[.pointer (some ⟨a, 0, none⟩), int i64 oop] w fun e w' => e = .returned (.tuple #[int i64 n, int i64 f, int i64 0]) ∧ Fr [] w w' := by
 obtain ⟨h1, h2, h3⟩ := kAk hi;have HSO := kAA (kAb oop a l H w h h1 h2 h3);obtain ⟨⟨p, L, t⟩, hs⟩ : ∃ s, s = H.fD.getD oop (0, 0, 0) := ⟨_, rfl⟩
 rw [← hs] at HSO h4 h5
 have HSH : Hid (∀ W, Rep W a l H → Calls prog 103 #[.pointer (some ⟨a, 0, none⟩), .agg #[int i64 p, int i64 L, int i64 t]] W fun e w' => e = .returned (.tuple #[int i64 n, int i64 f]) ∧ Fr [] W w') := by
  intro W hW;have := kCg (p, L, t) (2 * n + f) a l H W hW h4 h5 hb;rw [show (2 * n + f) / 2 = n from by omega, show (2 * n + f) % 2 = f from by omega] at this;exact this
 have HR := kAA h;clear h hs h1 h2 h3 hi h4 h5;dsimp only [sv, I] at HSO;go_enter func82, ntmps82
 go_wp2_with fail
 refine HSO.out.mono ?_;rintro e w1 ⟨rfl, hf1⟩;have F2 : Fr [] w (w1.alloc (.cells #[int i64 p, int i64 L, int i64 t] 148)) := hf1.trans (Fr.alloc [] _ _) (by simp);have HF2 := kAA F2;clear hf1 HSO F2
 go_wp2_with fail
 refine Calls.mono (HSH.out _ (HR.out.keep HF2.out (by simp))) ?_;rintro e w2 ⟨rfl, hf2⟩;have HF := kAA (HF2.out.trans hf2 (by simp));clear hf2 HSH HF2
 go_wp2
 go_ret3
 exact ⟨rfl, HF.out⟩
def putB (m r v : Nat) : Nat := m / 2 ^ (8 * r + 8) * 2 ^ (8 * r + 8) + v * 2 ^ (8 * r) + m % 2 ^ (8 * r)
def getB (m r : Nat) : Nat := m / 2 ^ (8 * r) % 256
theorem kNe (s i : Nat) : (255 * 2 ^ s).testBit i = (decide (s ≤ i) && decide (i - s < 8)) := by
 rw [Nat.testBit_mul_two_pow, show (255 : Nat) = 2 ^ 8 - 1 from rfl, Nat.testBit_two_pow_sub_one]
theorem kQB (m v s : Nat) (hm : m < 2 ^ 32) (hv : v < 2 ^ 8) (hs : s ≤ 24) : (m &&& (18446744073709551615 - 255 * 2 ^ s)) ||| (v * 2 ^ s) = m / 2 ^ (s + 8) * 2 ^ (s + 8) + v * 2 ^ s + m % 2 ^ s := by
 have hp : 2 ^ s ≤ 2 ^ 24 := jBi (by omega) hs;have hp0 : 0 < 2 ^ s := Nat.pow_pos (by omega);have hmod : m % 2 ^ s < 2 ^ s := Nat.mod_lt _ hp0
 have e1 : v * 2 ^ s + m % 2 ^ s = v <<< s ||| m % 2 ^ s := by
  rw [← Nat.shiftLeft_add_eq_or_of_lt hmod, Nat.shiftLeft_eq]
 have hlt : v * 2 ^ s + m % 2 ^ s < 2 ^ (s + 8) := by
  rw [Nat.pow_add];have : v * 2 ^ s ≤ 255 * 2 ^ s := Nat.mul_le_mul_right _ (by omega);omega
 have e2 : m / 2 ^ (s + 8) * 2 ^ (s + 8) + (v * 2 ^ s + m % 2 ^ s) = (m / 2 ^ (s + 8)) <<< (s + 8) ||| (v * 2 ^ s + m % 2 ^ s) := by
  rw [← Nat.shiftLeft_add_eq_or_of_lt hlt, Nat.shiftLeft_eq]
 rw [jBF, e2, e1];apply Nat.eq_of_testBit_eq
 intro i;have hv8 : ∀ k, 8 ≤ k → v.testBit k = false := fun k hk => Nat.testBit_lt_two_pow (jAb hv (jBi (by omega) hk))
 have hm32 : ∀ k, 32 ≤ k → m.testBit k = false := fun k hk => Nat.testBit_lt_two_pow (jAb hm (jBi (by omega) hk))
 have hmk : 255 * 2 ^ s < 2 ^ 64 := by omega
 rw [Nat.testBit_or, Nat.testBit_and, show 18446744073709551615 - 255 * 2 ^ s = 2 ^ 64 - (255 * 2 ^ s + 1) from by omega, Nat.testBit_two_pow_sub_succ hmk, kNe, Nat.testBit_mul_two_pow,
  Nat.testBit_or, Nat.testBit_or, Nat.testBit_shiftLeft, Nat.testBit_shiftLeft, Nat.testBit_div_two_pow, Nat.testBit_mod_two_pow]
 by_cases h1 : s + 8 ≤ i
 ·have a1 : s ≤ i := by omega
  have a2 : ¬ i - s < 8 := by omega
  have a3 : ¬ i < s := by omega
  rw [show i - (s + 8) + (s + 8) = i from by omega, hv8 (i - s) (by omega)]
  by_cases h64 : i < 64
  ·simp [a1, a2, a3, h1, h64]
  ·simp [hm32 i (by omega)]
 ·by_cases h2 : s ≤ i
  ·have a2 : i - s < 8 := by omega
   have a3 : ¬ i < s := by omega
   simp [h1, h2, a2, a3]
  ·have a3 : i < s := by omega
   have a4 : i < 64 := by omega
   simp [h1, h2, a3, a4]
theorem kFV (m v r : Nat) (hm : m < 4294967296) (hv : v < 256) (hr : r ≤ 3) (M P : Int) (hM : M = ((255 * 2 ^ (8 * r) : Nat) : Int)) (hP : P = ((v * 2 ^ (8 * r) : Nat) : Int)) :
  Go.bits .or .i64 (Go.bits .andNot .i64 (m : Int) M) P = ((putB m r v : Nat) : Int) := by
 have hp : 2 ^ (8 * r) ≤ 2 ^ 24 := jBi (by omega) (by omega);have hle : m &&& (18446744073709551615 - 255 * 2 ^ (8 * r)) ≤ m := Nat.and_le_left;have hvp : v * 2 ^ (8 * r) ≤ 255 * 2 ^ 24 := Nat.mul_le_mul (by omega) hp;rw [hM, hP, kIo m _ (by omega) (by omega), kOh _ _ (by omega) (by omega), kQB m v (8 * r) (by omega) (by omega) (by omega)];rfl
theorem setB0 (s : Nat × Nat × Nat) (i : Nat) (v : Nat) (old : Nat) (a : Nat) (l : Lay) (H : HS) (w : World) (h : Rep w a l H) (h1 : s.1 + 2 + i / 4 < H.mem.length) (hb : (H.mem.length : Int) ≤ 1048576) (hr : i % 4 = 0) (hold : H.mem.getD (s.1 + 2 + i / 4) 0 = (old : Int)) (hi : (i : Int) ≤ 1048576) (hv : (v : Int) ≤ 255) (ho : (old : Int) ≤ 4294967295) :
  Calls prog 105 #[.pointer (some ⟨a, 0, none⟩), sv s, int i64 1, int i64 i, int i64 v] w fun e w' => e = .returned (.tuple #[]) ∧ Rep w' a l { H with mem := H.mem.set (s.1 + 2 + i / 4) ((putB old 0 v : Nat) : Int) } ∧ Nx a l l w w' := by
 obtain ⟨g, hg, hcg, hfg, hga, hgl⟩ := h.memBlock (by omega);have q := hcg (s.1 + 2 + i / 4) h1;have fq := hfg (s.1 + 2 + i / 4);rw [hold] at q;have c4 := h.c4;rw [hg] at c4;have hal := h.lt a (by simp [foot]);obtain ⟨p0, L, t⟩ := s;dsimp only at *
 have hba : ∀ W : World, Calls prog 139 #[.agg #[int i64 p0, int i64 L, int i64 t], int i64 i] W fun e w' => e = .returned (.tuple #[int i64 ((p0 + 2 + i / 4 : Nat) : Int), int i64 0]) ∧ Fr [] W w' := by
  intro W;have := kBg (p0, L, t) i W (by dsimp only; omega) hi;rw [hr] at this;exact this
 have HB := kAA hba;have hor : Go.bits .or .i64 (Go.bits .andNot .i64 (old : Int) 255) (v : Int) = ((putB old 0 v : Nat) : Int) := kFV old v 0 (by omega) (by omega) (by omega) _ _ rfl (by simp)
 have HE : Hid (∀ W W', Fr [] w W → Eqw (W.setCell ⟨g, p0 + 2 + i / 4, none⟩ (int i64 ((putB old 0 v : Nat) : Int))) W' → Rep W' a l { H with mem := H.mem.set (p0 + 2 + i / 4) ((putB old 0 v : Nat) : Int) } ∧ Nx a l l w W') := by
  intro W W' hW he;have K := (h.keep hW (by simp)).setMem hg (p0 + 2 + i / 4) h1 _ W' he;exact ⟨K.1, (Nx.frw (hW.mono (by simp))).trans K.2⟩
 have k1 : ((p0 + 2 + i / 4 : Nat) : Int) < (H.mem.length : Int) := by omega
 have k2 : (0 : Int) ≤ ((p0 + 2 + i / 4 : Nat) : Int) := by omega
 clear h hcg hfg hba hold;unfold sv;dsimp only [I];generalize putB old 0 v = pv at *;generalize hp : p0 + 2 + i / 4 = p at *;clear hp;generalize hm : H.mem.length = m at *;clear hm;go_enter func105, ntmps105
 go_wp2_with fail
 refine (HB.out _).mono ?_;rintro e w1 ⟨rfl, hf1⟩;have d4 := (hf1.cell (p := ⟨a, 4, none⟩) (by simp; omega) (by simp)).trans ((jAE w _ ⟨a, 4, none⟩ hal).trans c4);have dq := (hf1.cell (p := ⟨g, p, none⟩) (by simp; omega) (by simp)).trans ((jAE w _ ⟨g, p, none⟩ hgl).trans q);have df := (hf1.frozen (p := ⟨g, p, none⟩) (by simp; omega) (by simp)).trans ((jBB w _ ⟨g, p, none⟩ (by show g ≠ _; omega)).trans fq);have HF1 := kAA ((Fr.alloc [] w _).trans hf1 (by simp));clear hf1 HB
 go_wp2
 go_region
 all_goals go_wp2
 all_goals
  go_end0
  exact ⟨rfl, HE.out _ _ HF1.out (kAS _)⟩
theorem setB1 (s : Nat × Nat × Nat) (i : Nat) (v : Nat) (old : Nat) (a : Nat) (l : Lay) (H : HS) (w : World) (h : Rep w a l H) (h1 : s.1 + 2 + i / 4 < H.mem.length) (hb : (H.mem.length : Int) ≤ 1048576) (hr : i % 4 = 1) (hold : H.mem.getD (s.1 + 2 + i / 4) 0 = (old : Int)) (hi : (i : Int) ≤ 1048576) (hv : (v : Int) ≤ 255) (ho : (old : Int) ≤ 4294967295) :
  Calls prog 105 #[.pointer (some ⟨a, 0, none⟩), sv s, int i64 1, int i64 i, int i64 v] w fun e w' => e = .returned (.tuple #[]) ∧ Rep w' a l { H with mem := H.mem.set (s.1 + 2 + i / 4) ((putB old 1 v : Nat) : Int) } ∧ Nx a l l w w' := by
 obtain ⟨g, hg, hcg, hfg, hga, hgl⟩ := h.memBlock (by omega);have q := hcg (s.1 + 2 + i / 4) h1;have fq := hfg (s.1 + 2 + i / 4);rw [hold] at q;have c4 := h.c4;rw [hg] at c4;have hal := h.lt a (by simp [foot]);obtain ⟨p0, L, t⟩ := s;dsimp only at *
 have hba : ∀ W : World, Calls prog 139 #[.agg #[int i64 p0, int i64 L, int i64 t], int i64 i] W fun e w' => e = .returned (.tuple #[int i64 ((p0 + 2 + i / 4 : Nat) : Int), int i64 8]) ∧ Fr [] W w' := by
  intro W;have := kBg (p0, L, t) i W (by dsimp only; omega) hi;rw [hr] at this;exact this
 have HB := kAA hba;have hor : Go.bits .or .i64 (Go.bits .andNot .i64 (old : Int) 65280) ((v : Int) * 256) = ((putB old 1 v : Nat) : Int) := kFV old v 1 (by omega) (by omega) (by omega) _ _ rfl (by simp)
 have HE : Hid (∀ W W', Fr [] w W → Eqw (W.setCell ⟨g, p0 + 2 + i / 4, none⟩ (int i64 ((putB old 1 v : Nat) : Int))) W' → Rep W' a l { H with mem := H.mem.set (p0 + 2 + i / 4) ((putB old 1 v : Nat) : Int) } ∧ Nx a l l w W') := by
  intro W W' hW he;have K := (h.keep hW (by simp)).setMem hg (p0 + 2 + i / 4) h1 _ W' he;exact ⟨K.1, (Nx.frw (hW.mono (by simp))).trans K.2⟩
 have k1 : ((p0 + 2 + i / 4 : Nat) : Int) < (H.mem.length : Int) := by omega
 have k2 : (0 : Int) ≤ ((p0 + 2 + i / 4 : Nat) : Int) := by omega
 clear h hcg hfg hba hold;unfold sv;dsimp only [I];generalize putB old 1 v = pv at *;generalize hp : p0 + 2 + i / 4 = p at *;clear hp;generalize hm : H.mem.length = m at *;clear hm;go_enter func105, ntmps105
 go_wp2_with fail
 refine (HB.out _).mono ?_;rintro e w1 ⟨rfl, hf1⟩;have d4 := (hf1.cell (p := ⟨a, 4, none⟩) (by simp; omega) (by simp)).trans ((jAE w _ ⟨a, 4, none⟩ hal).trans c4);have dq := (hf1.cell (p := ⟨g, p, none⟩) (by simp; omega) (by simp)).trans ((jAE w _ ⟨g, p, none⟩ hgl).trans q);have df := (hf1.frozen (p := ⟨g, p, none⟩) (by simp; omega) (by simp)).trans ((jBB w _ ⟨g, p, none⟩ (by show g ≠ _; omega)).trans fq);have HF1 := kAA ((Fr.alloc [] w _).trans hf1 (by simp));clear hf1 HB
 go_wp2
 go_region
 all_goals go_wp2
 all_goals
  go_end0
  exact ⟨rfl, HE.out _ _ HF1.out (kAS _)⟩
theorem setB2 (s : Nat × Nat × Nat) (i : Nat) (v : Nat) (old : Nat) (a : Nat) (l : Lay) (H : HS) (w : World) (h : Rep w a l H) (h1 : s.1 + 2 + i / 4 < H.mem.length) (hb : (H.mem.length : Int) ≤ 1048576) (hr : i % 4 = 2) (hold : H.mem.getD (s.1 + 2 + i / 4) 0 = (old : Int)) (hi : (i : Int) ≤ 1048576) (hv : (v : Int) ≤ 255) (ho : (old : Int) ≤ 4294967295) :
  Calls prog 105 #[.pointer (some ⟨a, 0, none⟩), sv s, int i64 1, int i64 i, int i64 v] w fun e w' => e = .returned (.tuple #[]) ∧ Rep w' a l { H with mem := H.mem.set (s.1 + 2 + i / 4) ((putB old 2 v : Nat) : Int) } ∧ Nx a l l w w' := by
 obtain ⟨g, hg, hcg, hfg, hga, hgl⟩ := h.memBlock (by omega);have q := hcg (s.1 + 2 + i / 4) h1;have fq := hfg (s.1 + 2 + i / 4);rw [hold] at q;have c4 := h.c4;rw [hg] at c4;have hal := h.lt a (by simp [foot]);obtain ⟨p0, L, t⟩ := s;dsimp only at *
 have hba : ∀ W : World, Calls prog 139 #[.agg #[int i64 p0, int i64 L, int i64 t], int i64 i] W fun e w' => e = .returned (.tuple #[int i64 ((p0 + 2 + i / 4 : Nat) : Int), int i64 16]) ∧ Fr [] W w' := by
  intro W;have := kBg (p0, L, t) i W (by dsimp only; omega) hi;rw [hr] at this;exact this
 have HB := kAA hba;have hor : Go.bits .or .i64 (Go.bits .andNot .i64 (old : Int) 16711680) ((v : Int) * 65536) = ((putB old 2 v : Nat) : Int) := kFV old v 2 (by omega) (by omega) (by omega) _ _ rfl (by simp)
 have HE : Hid (∀ W W', Fr [] w W → Eqw (W.setCell ⟨g, p0 + 2 + i / 4, none⟩ (int i64 ((putB old 2 v : Nat) : Int))) W' → Rep W' a l { H with mem := H.mem.set (p0 + 2 + i / 4) ((putB old 2 v : Nat) : Int) } ∧ Nx a l l w W') := by
  intro W W' hW he;have K := (h.keep hW (by simp)).setMem hg (p0 + 2 + i / 4) h1 _ W' he;exact ⟨K.1, (Nx.frw (hW.mono (by simp))).trans K.2⟩
 have k1 : ((p0 + 2 + i / 4 : Nat) : Int) < (H.mem.length : Int) := by omega
 have k2 : (0 : Int) ≤ ((p0 + 2 + i / 4 : Nat) : Int) := by omega
 clear h hcg hfg hba hold;unfold sv;dsimp only [I];generalize putB old 2 v = pv at *;generalize hp : p0 + 2 + i / 4 = p at *;clear hp;generalize hm : H.mem.length = m at *;clear hm;go_enter func105, ntmps105
 go_wp2_with fail
 refine (HB.out _).mono ?_;rintro e w1 ⟨rfl, hf1⟩;have d4 := (hf1.cell (p := ⟨a, 4, none⟩) (by simp; omega) (by simp)).trans ((jAE w _ ⟨a, 4, none⟩ hal).trans c4);have dq := (hf1.cell (p := ⟨g, p, none⟩) (by simp; omega) (by simp)).trans ((jAE w _ ⟨g, p, none⟩ hgl).trans q);have df := (hf1.frozen (p := ⟨g, p, none⟩) (by simp; omega) (by simp)).trans ((jBB w _ ⟨g, p, none⟩ (by show g ≠ _; omega)).trans fq);have HF1 := kAA ((Fr.alloc [] w _).trans hf1 (by simp));clear hf1 HB
 go_wp2
 go_region
 all_goals go_wp2
 all_goals
  go_end0
  exact ⟨rfl, HE.out _ _ HF1.out (kAS _)⟩
theorem setB3 (s : Nat × Nat × Nat) (i : Nat) (v : Nat) (old : Nat) (a : Nat) (l : Lay) (H : HS) (w : World) (h : Rep w a l H) (h1 : s.1 + 2 + i / 4 < H.mem.length) (hb : (H.mem.length : Int) ≤ 1048576) (hr : i % 4 = 3) (hold : H.mem.getD (s.1 + 2 + i / 4) 0 = (old : Int)) (hi : (i : Int) ≤ 1048576) (hv : (v : Int) ≤ 255) (ho : (old : Int) ≤ 4294967295) :
  Calls prog 105 #[.pointer (some ⟨a, 0, none⟩), sv s, int i64 1, int i64 i, int i64 v] w fun e w' => e = .returned (.tuple #[]) ∧ Rep w' a l { H with mem := H.mem.set (s.1 + 2 + i / 4) ((putB old 3 v : Nat) : Int) } ∧ Nx a l l w w' := by
 obtain ⟨g, hg, hcg, hfg, hga, hgl⟩ := h.memBlock (by omega);have q := hcg (s.1 + 2 + i / 4) h1;have fq := hfg (s.1 + 2 + i / 4);rw [hold] at q;have c4 := h.c4;rw [hg] at c4;have hal := h.lt a (by simp [foot]);obtain ⟨p0, L, t⟩ := s;dsimp only at *
 have hba : ∀ W : World, Calls prog 139 #[.agg #[int i64 p0, int i64 L, int i64 t], int i64 i] W fun e w' => e = .returned (.tuple #[int i64 ((p0 + 2 + i / 4 : Nat) : Int), int i64 24]) ∧ Fr [] W w' := by
  intro W;have := kBg (p0, L, t) i W (by dsimp only; omega) hi;rw [hr] at this;exact this
 have HB := kAA hba;have hor : Go.bits .or .i64 (Go.bits .andNot .i64 (old : Int) 4278190080) ((v : Int) * 16777216) = ((putB old 3 v : Nat) : Int) := kFV old v 3 (by omega) (by omega) (by omega) _ _ rfl (by simp)
 have HE : Hid (∀ W W', Fr [] w W → Eqw (W.setCell ⟨g, p0 + 2 + i / 4, none⟩ (int i64 ((putB old 3 v : Nat) : Int))) W' → Rep W' a l { H with mem := H.mem.set (p0 + 2 + i / 4) ((putB old 3 v : Nat) : Int) } ∧ Nx a l l w W') := by
  intro W W' hW he;have K := (h.keep hW (by simp)).setMem hg (p0 + 2 + i / 4) h1 _ W' he;exact ⟨K.1, (Nx.frw (hW.mono (by simp))).trans K.2⟩
 have k1 : ((p0 + 2 + i / 4 : Nat) : Int) < (H.mem.length : Int) := by omega
 have k2 : (0 : Int) ≤ ((p0 + 2 + i / 4 : Nat) : Int) := by omega
 clear h hcg hfg hba hold;unfold sv;dsimp only [I];generalize putB old 3 v = pv at *;generalize hp : p0 + 2 + i / 4 = p at *;clear hp;generalize hm : H.mem.length = m at *;clear hm;go_enter func105, ntmps105
 go_wp2_with fail
 refine (HB.out _).mono ?_;rintro e w1 ⟨rfl, hf1⟩;have d4 := (hf1.cell (p := ⟨a, 4, none⟩) (by simp; omega) (by simp)).trans ((jAE w _ ⟨a, 4, none⟩ hal).trans c4);have dq := (hf1.cell (p := ⟨g, p, none⟩) (by simp; omega) (by simp)).trans ((jAE w _ ⟨g, p, none⟩ hgl).trans q);have df := (hf1.frozen (p := ⟨g, p, none⟩) (by simp; omega) (by simp)).trans ((jBB w _ ⟨g, p, none⟩ (by show g ≠ _; omega)).trans fq);have HF1 := kAA ((Fr.alloc [] w _).trans hf1 (by simp));clear hf1 HB
 go_wp2
 go_region
 all_goals go_wp2
 all_goals
  go_end0
  exact ⟨rfl, HE.out _ _ HF1.out (kAS _)⟩
theorem getB0 (s : Nat × Nat × Nat) (i : Nat) (old : Nat) (a : Nat) (l : Lay) (H : HS) (w : World) (h : Rep w a l H) (h1 : s.1 + 2 + i / 4 < H.mem.length) (hb : (H.mem.length : Int) ≤ 1048576) (hr : i % 4 = 0) (hold : H.mem.getD (s.1 + 2 + i / 4) 0 = (old : Int)) (hi : (i : Int) ≤ 1048576) :
  Calls prog 108 #[.pointer (some ⟨a, 0, none⟩), sv s, int i64 1, int i64 i] w fun e w' => e = .returned (int i64 ((getB old 0 : Nat) : Int)) ∧ Fr [] w w' := by
 obtain ⟨g, hg, hcg, hfg, hga, hgl⟩ := h.memBlock (by omega);have q := hcg (s.1 + 2 + i / 4) h1;rw [hold] at q;have c4 := h.c4;rw [hg] at c4;have hal := h.lt a (by simp [foot]);obtain ⟨p0, L, t⟩ := s;dsimp only at *
 have hba : ∀ W : World, Calls prog 139 #[.agg #[int i64 p0, int i64 L, int i64 t], int i64 i] W fun e w' => e = .returned (.tuple #[int i64 ((p0 + 2 + i / 4 : Nat) : Int), int i64 0]) ∧ Fr [] W w' := by
  intro W;have := kBg (p0, L, t) i W (by dsimp only; omega) hi;rw [hr] at this;exact this
 have HB := kAA hba;have ha := kIO (old : Int);have k1 : ((p0 + 2 + i / 4 : Nat) : Int) < (H.mem.length : Int) := by omega
 have k2 : (0 : Int) ≤ ((p0 + 2 + i / 4 : Nat) : Int) := by omega
 clear h hcg hfg hba hold;unfold sv;dsimp only [I];generalize hp : p0 + 2 + i / 4 = p at *;clear hp;generalize hm : H.mem.length = m at *;clear hm;go_enter func108, ntmps108
 go_wp2_with fail
 refine (HB.out _).mono ?_;rintro e w1 ⟨rfl, hf1⟩;have d4 := (hf1.cell (p := ⟨a, 4, none⟩) (by simp; omega) (by simp)).trans ((jAE w _ ⟨a, 4, none⟩ hal).trans c4);have dq := (hf1.cell (p := ⟨g, p, none⟩) (by simp; omega) (by simp)).trans ((jAE w _ ⟨g, p, none⟩ hgl).trans q);have HF1 := kAA ((Fr.alloc [] w _).trans hf1 (by simp));clear hf1 HB
 go_wp2
 go_ret
 exact ⟨kBK (by unfold getB; omega), HF1.out⟩
theorem getB1 (s : Nat × Nat × Nat) (i : Nat) (old : Nat) (a : Nat) (l : Lay) (H : HS) (w : World) (h : Rep w a l H) (h1 : s.1 + 2 + i / 4 < H.mem.length) (hb : (H.mem.length : Int) ≤ 1048576) (hr : i % 4 = 1) (hold : H.mem.getD (s.1 + 2 + i / 4) 0 = (old : Int)) (hi : (i : Int) ≤ 1048576) :
  Calls prog 108 #[.pointer (some ⟨a, 0, none⟩), sv s, int i64 1, int i64 i] w fun e w' => e = .returned (int i64 ((getB old 1 : Nat) : Int)) ∧ Fr [] w w' := by
 obtain ⟨g, hg, hcg, hfg, hga, hgl⟩ := h.memBlock (by omega);have q := hcg (s.1 + 2 + i / 4) h1;rw [hold] at q;have c4 := h.c4;rw [hg] at c4;have hal := h.lt a (by simp [foot]);obtain ⟨p0, L, t⟩ := s;dsimp only at *
 have hba : ∀ W : World, Calls prog 139 #[.agg #[int i64 p0, int i64 L, int i64 t], int i64 i] W fun e w' => e = .returned (.tuple #[int i64 ((p0 + 2 + i / 4 : Nat) : Int), int i64 8]) ∧ Fr [] W w' := by
  intro W;have := kBg (p0, L, t) i W (by dsimp only; omega) hi;rw [hr] at this;exact this
 have HB := kAA hba;have ha := kIO ((old : Int) / 256);have k1 : ((p0 + 2 + i / 4 : Nat) : Int) < (H.mem.length : Int) := by omega
 have k2 : (0 : Int) ≤ ((p0 + 2 + i / 4 : Nat) : Int) := by omega
 clear h hcg hfg hba hold;unfold sv;dsimp only [I];generalize hp : p0 + 2 + i / 4 = p at *;clear hp;generalize hm : H.mem.length = m at *;clear hm;go_enter func108, ntmps108
 go_wp2_with fail
 refine (HB.out _).mono ?_;rintro e w1 ⟨rfl, hf1⟩;have d4 := (hf1.cell (p := ⟨a, 4, none⟩) (by simp; omega) (by simp)).trans ((jAE w _ ⟨a, 4, none⟩ hal).trans c4);have dq := (hf1.cell (p := ⟨g, p, none⟩) (by simp; omega) (by simp)).trans ((jAE w _ ⟨g, p, none⟩ hgl).trans q);have HF1 := kAA ((Fr.alloc [] w _).trans hf1 (by simp));clear hf1 HB
 go_wp2
 go_ret
 exact ⟨kBK (by unfold getB; omega), HF1.out⟩
theorem getB2 (s : Nat × Nat × Nat) (i : Nat) (old : Nat) (a : Nat) (l : Lay) (H : HS) (w : World) (h : Rep w a l H) (h1 : s.1 + 2 + i / 4 < H.mem.length) (hb : (H.mem.length : Int) ≤ 1048576) (hr : i % 4 = 2) (hold : H.mem.getD (s.1 + 2 + i / 4) 0 = (old : Int)) (hi : (i : Int) ≤ 1048576) :
  Calls prog 108 #[.pointer (some ⟨a, 0, none⟩), sv s, int i64 1, int i64 i] w fun e w' => e = .returned (int i64 ((getB old 2 : Nat) : Int)) ∧ Fr [] w w' := by
 obtain ⟨g, hg, hcg, hfg, hga, hgl⟩ := h.memBlock (by omega);have q := hcg (s.1 + 2 + i / 4) h1;rw [hold] at q;have c4 := h.c4;rw [hg] at c4;have hal := h.lt a (by simp [foot]);obtain ⟨p0, L, t⟩ := s;dsimp only at *
 have hba : ∀ W : World, Calls prog 139 #[.agg #[int i64 p0, int i64 L, int i64 t], int i64 i] W fun e w' => e = .returned (.tuple #[int i64 ((p0 + 2 + i / 4 : Nat) : Int), int i64 16]) ∧ Fr [] W w' := by
  intro W;have := kBg (p0, L, t) i W (by dsimp only; omega) hi;rw [hr] at this;exact this
 have HB := kAA hba;have ha := kIO ((old : Int) / 65536);have k1 : ((p0 + 2 + i / 4 : Nat) : Int) < (H.mem.length : Int) := by omega
 have k2 : (0 : Int) ≤ ((p0 + 2 + i / 4 : Nat) : Int) := by omega
 clear h hcg hfg hba hold;unfold sv;dsimp only [I];generalize hp : p0 + 2 + i / 4 = p at *;clear hp;generalize hm : H.mem.length = m at *;clear hm;go_enter func108, ntmps108
 go_wp2_with fail
 refine (HB.out _).mono ?_;rintro e w1 ⟨rfl, hf1⟩;have d4 := (hf1.cell (p := ⟨a, 4, none⟩) (by simp; omega) (by simp)).trans ((jAE w _ ⟨a, 4, none⟩ hal).trans c4);have dq := (hf1.cell (p := ⟨g, p, none⟩) (by simp; omega) (by simp)).trans ((jAE w _ ⟨g, p, none⟩ hgl).trans q);have HF1 := kAA ((Fr.alloc [] w _).trans hf1 (by simp));clear hf1 HB
 go_wp2
 go_ret
 exact ⟨kBK (by unfold getB; omega), HF1.out⟩
theorem getB3 (s : Nat × Nat × Nat) (i : Nat) (old : Nat) (a : Nat) (l : Lay) (H : HS) (w : World) (h : Rep w a l H) (h1 : s.1 + 2 + i / 4 < H.mem.length) (hb : (H.mem.length : Int) ≤ 1048576) (hr : i % 4 = 3) (hold : H.mem.getD (s.1 + 2 + i / 4) 0 = (old : Int)) (hi : (i : Int) ≤ 1048576) :
  Calls prog 108 #[.pointer (some ⟨a, 0, none⟩), sv s, int i64 1, int i64 i] w fun e w' => e = .returned (int i64 ((getB old 3 : Nat) : Int)) ∧ Fr [] w w' := by
 obtain ⟨g, hg, hcg, hfg, hga, hgl⟩ := h.memBlock (by omega);have q := hcg (s.1 + 2 + i / 4) h1;rw [hold] at q;have c4 := h.c4;rw [hg] at c4;have hal := h.lt a (by simp [foot]);obtain ⟨p0, L, t⟩ := s;dsimp only at *
 have hba : ∀ W : World, Calls prog 139 #[.agg #[int i64 p0, int i64 L, int i64 t], int i64 i] W fun e w' => e = .returned (.tuple #[int i64 ((p0 + 2 + i / 4 : Nat) : Int), int i64 24]) ∧ Fr [] W w' := by
  intro W;have := kBg (p0, L, t) i W (by dsimp only; omega) hi;rw [hr] at this;exact this
 have HB := kAA hba;have ha := kIO ((old : Int) / 16777216);have k1 : ((p0 + 2 + i / 4 : Nat) : Int) < (H.mem.length : Int) := by omega
 have k2 : (0 : Int) ≤ ((p0 + 2 + i / 4 : Nat) : Int) := by omega
 clear h hcg hfg hba hold;unfold sv;dsimp only [I];generalize hp : p0 + 2 + i / 4 = p at *;clear hp;generalize hm : H.mem.length = m at *;clear hm;go_enter func108, ntmps108
 go_wp2_with fail
 refine (HB.out _).mono ?_;rintro e w1 ⟨rfl, hf1⟩;have d4 := (hf1.cell (p := ⟨a, 4, none⟩) (by simp; omega) (by simp)).trans ((jAE w _ ⟨a, 4, none⟩ hal).trans c4);have dq := (hf1.cell (p := ⟨g, p, none⟩) (by simp; omega) (by simp)).trans ((jAE w _ ⟨g, p, none⟩ hgl).trans q);have HF1 := kAA ((Fr.alloc [] w _).trans hf1 (by simp));clear hf1 HB
 go_wp2
 go_ret
 exact ⟨kBK (by unfold getB; omega), HF1.out⟩
theorem kIa (s : Nat × Nat × Nat) (i : Nat) (v : Nat) (old : Nat) (a : Nat) (l : Lay) (H : HS) (w : World) (h : Rep w a l H) (h1 : s.1 + 2 + i / 4 < H.mem.length) (hb : (H.mem.length : Int) ≤ 1048576) (hold : H.mem.getD (s.1 + 2 + i / 4) 0 = (old : Int)) (hi : (i : Int) ≤ 1048576) (hv : (v : Int) ≤ 255) (ho : (old : Int) ≤ 4294967295) :
  Calls prog 105 #[.pointer (some ⟨a, 0, none⟩), sv s, int i64 1, int i64 i, int i64 v] w fun e w' => e = .returned (.tuple #[]) ∧ Rep w' a l { H with mem := H.mem.set (s.1 + 2 + i / 4) ((putB old (i % 4) v : Nat) : Int) } ∧ Nx a l l w w' := by
 rcases (show i % 4 = 0 ∨ i % 4 = 1 ∨ i % 4 = 2 ∨ i % 4 = 3 from by omega) with hr | hr | hr | hr
 ·rw [hr]; exact setB0 s i v old a l H w h h1 hb hr hold hi hv ho
 ·rw [hr]; exact setB1 s i v old a l H w h h1 hb hr hold hi hv ho
 ·rw [hr]; exact setB2 s i v old a l H w h h1 hb hr hold hi hv ho
 ·rw [hr]; exact setB3 s i v old a l H w h h1 hb hr hold hi hv ho
theorem kIS (s : Nat × Nat × Nat) (i : Nat) (old : Nat) (a : Nat) (l : Lay) (H : HS) (w : World) (h : Rep w a l H) (h1 : s.1 + 2 + i / 4 < H.mem.length) (hb : (H.mem.length : Int) ≤ 1048576) (hold : H.mem.getD (s.1 + 2 + i / 4) 0 = (old : Int)) (hi : (i : Int) ≤ 1048576) :
  Calls prog 108 #[.pointer (some ⟨a, 0, none⟩), sv s, int i64 1, int i64 i] w fun e w' => e = .returned (int i64 ((getB old (i % 4) : Nat) : Int)) ∧ Fr [] w w' := by
 rcases (show i % 4 = 0 ∨ i % 4 = 1 ∨ i % 4 = 2 ∨ i % 4 = 3 from by omega) with hr | hr | hr | hr
 ·rw [hr]; exact getB0 s i old a l H w h h1 hb hr hold hi
 ·rw [hr]; exact getB1 s i old a l H w h h1 hb hr hold hi
 ·rw [hr]; exact getB2 s i old a l H w h h1 hb hr hold hi
 ·rw [hr]; exact getB3 s i old a l H w h h1 hb hr hold hi
theorem kQF (k : Int) (a : Nat) (l : Lay) (H : HS) (w : World) (h : Rep w a l H) (hk : isM k = false) :
  Calls prog 67 #[.pointer (some ⟨a, 0, none⟩), int i64 k] w fun e w' => e = .returned (int i64 1) ∧ w' = w := by
 have hm := kDt k w;rw [hk] at hm;have c0 := h.c0;have HM := kAA hm;clear h hm hk;go_enter func67, ntmps67
 go_wp2_with (first | (go_at_call 88; refine (kAh _ _ c0).mono ?_; rintro e w' ⟨rfl, rfl⟩) | (go_at_call 114; refine HM.out.mono ?_; rintro e w' ⟨rfl, rfl⟩))
 go_ret
 exact ⟨rfl, rfl⟩
theorem kOA (oop n f : Nat) (i v : Int) (a : Nat) (l : Lay) (H : HS) (w : World) (h : Rep w a l H) (hh : has H oop = true) (hb : (H.mem.length : Int) ≤ 1048576)
  (h4 : (H.fD.getD oop (0, 0, 0)).1 + 1 < H.mem.length) (h5 : H.mem.getD ((H.fD.getD oop (0, 0, 0)).1 + 1) 0 = ((2 * n + f : Nat) : Int)) (hf : (f : Int) ≤ 1) (hi : i < 0 ∨ (n : Int) ≤ i) :
  Calls prog 51 #[.pointer (some ⟨a, 0, none⟩), int i64 oop, int i64 i, int i64 v] w fun e w' => e = .returned (int i64 21) ∧ Fr [] w w' := by
 obtain ⟨h1, h2, h3⟩ := kAk hh;have HSO := kAA (kAb oop a l H w h h1 h2 h3);obtain ⟨⟨p, L, t⟩, hs⟩ : ∃ s, s = H.fD.getD oop (0, 0, 0) := ⟨_, rfl⟩
 rw [← hs] at HSO h4 h5
 have HSH : Hid (∀ W, Rep W a l H → Calls prog 103 #[.pointer (some ⟨a, 0, none⟩), .agg #[int i64 p, int i64 L, int i64 t]] W fun e w' => e = .returned (.tuple #[int i64 n, int i64 f]) ∧ Fr [] W w') := by
  intro W hW;have := kCg (p, L, t) (2 * n + f) a l H W hW h4 h5 hb;rw [show (2 * n + f) / 2 = n from by omega, show (2 * n + f) % 2 = f from by omega] at this;exact this
 have HR := kAA h;clear h hs h3 h5 h4 h2 hh;dsimp only [sv, I] at HSO;rcases hi with hi | hi
 all_goals
  go_enter func51, ntmps51
  go_wp2_with fail
  refine HSO.out.mono ?_;rintro e w1 ⟨rfl, hf1⟩;have F2 : Fr [] w (w1.alloc (.cells #[int i64 p, int i64 L, int i64 t] 148)) := hf1.trans (Fr.alloc [] _ _) (by simp);have HF2 := kAA F2;clear hf1 F2
  go_wp2_with fail
  refine Calls.mono (HSH.out _ (HR.out.keep HF2.out (by simp))) ?_;rintro e w2 ⟨rfl, hf2⟩;have HF := kAA (HF2.out.trans hf2 (by simp));clear hf2
  go_wp2
  go_ret
  exact ⟨rfl, HF.out⟩
theorem kPC (oop n f : Nat) (i : Int) (a : Nat) (l : Lay) (H : HS) (w : World) (h : Rep w a l H) (hh : has H oop = true) (hb : (H.mem.length : Int) ≤ 1048576)
  (h4 : (H.fD.getD oop (0, 0, 0)).1 + 1 < H.mem.length) (h5 : H.mem.getD ((H.fD.getD oop (0, 0, 0)).1 + 1) 0 = ((2 * n + f : Nat) : Int)) (hf : (f : Int) ≤ 1) (hi : i < 0 ∨ (n : Int) ≤ i) :
  Calls prog 55 #[.pointer (some ⟨a, 0, none⟩), int i64 oop, int i64 i] w fun e w' => e = .returned (.tuple #[int i64 0, int i64 21]) ∧ Fr [] w w' := by
 obtain ⟨h1, h2, h3⟩ := kAk hh;have HSO := kAA (kAb oop a l H w h h1 h2 h3);obtain ⟨⟨p, L, t⟩, hs⟩ : ∃ s, s = H.fD.getD oop (0, 0, 0) := ⟨_, rfl⟩
 rw [← hs] at HSO h4 h5
 have HSH : Hid (∀ W, Rep W a l H → Calls prog 103 #[.pointer (some ⟨a, 0, none⟩), .agg #[int i64 p, int i64 L, int i64 t]] W fun e w' => e = .returned (.tuple #[int i64 n, int i64 f]) ∧ Fr [] W w') := by
  intro W hW;have := kCg (p, L, t) (2 * n + f) a l H W hW h4 h5 hb;rw [show (2 * n + f) / 2 = n from by omega, show (2 * n + f) % 2 = f from by omega] at this;exact this
 have HR := kAA h;clear h hs h3 h5 h4 h2 hh;dsimp only [sv, I] at HSO;rcases hi with hi | hi
 all_goals
  go_enter func55, ntmps55
  go_wp2_with fail
  refine HSO.out.mono ?_;rintro e w1 ⟨rfl, hf1⟩;have F2 : Fr [] w (w1.alloc (.cells #[int i64 p, int i64 L, int i64 t] 148)) := hf1.trans (Fr.alloc [] _ _) (by simp);have HF2 := kAA F2;clear hf1 F2
  go_wp2_with fail
  refine Calls.mono (HSH.out _ (HR.out.keep HF2.out (by simp))) ?_;rintro e w2 ⟨rfl, hf2⟩;have HF := kAA (HF2.out.trans hf2 (by simp));clear hf2
  go_wp2
  go_ret2
  exact ⟨rfl, HF.out⟩
theorem kMW (oop i n f : Nat) (v : Int) (a : Nat) (l : Lay) (H : HS) (w : World) (h : Rep w a l H) (hh : has H oop = true) (hb : (H.mem.length : Int) ≤ 1048576)
  (h4 : (H.fD.getD oop (0, 0, 0)).1 + 1 < H.mem.length) (h5 : H.mem.getD ((H.fD.getD oop (0, 0, 0)).1 + 1) 0 = ((2 * n + f : Nat) : Int)) (hf : (f : Int) ≤ 1) (hi : (i : Int) < n) (hm : mayB v f = false) (hT : Tab w) :
  Calls prog 51 #[.pointer (some ⟨a, 0, none⟩), int i64 oop, int i64 i, int i64 v] w fun e w' => e = .returned (int i64 10) ∧ Fr [] w w' := by
 obtain ⟨h1, h2, h3⟩ := kAk hh;have hal := h.lt a (by simp [foot]);have HSO := kAA (kAb oop a l H w h h1 h2 h3);obtain ⟨⟨p, L, t⟩, hs⟩ : ∃ s, s = H.fD.getD oop (0, 0, 0) := ⟨_, rfl⟩
 rw [← hs] at HSO h4 h5
 have HSH : Hid (∀ W, Rep W a l H → Calls prog 103 #[.pointer (some ⟨a, 0, none⟩), .agg #[int i64 p, int i64 L, int i64 t]] W fun e w' => e = .returned (.tuple #[int i64 n, int i64 f]) ∧ Fr [] W w') := by
  intro W hW;have := kCg (p, L, t) (2 * n + f) a l H W hW h4 h5 hb;rw [show (2 * n + f) / 2 = n from by omega, show (2 * n + f) % 2 = f from by omega] at this;exact this
 have HMS : Hid (∀ W, Tab W → Calls prog 104 #[int i64 v, int i64 f] W fun e w' => e = .returned (.bool false) ∧ w' = W) := by
  intro W hW;have := kCN v f W hW;rw [hm] at this;exact this
 have HR := kAA h;have HT := kAA hT;clear h hs h3 h5 h4 h2 hh hm hT;dsimp only [sv, I] at HSO;go_enter func51, ntmps51
 go_wp2_with fail
 refine HSO.out.mono ?_;rintro e w1 ⟨rfl, hf1⟩;have F2 : Fr [] w (w1.alloc (.cells #[int i64 p, int i64 L, int i64 t] 148)) := hf1.trans (Fr.alloc [] _ _) (by simp);have HF2 := kAA F2;clear hf1 F2
 go_wp2_with fail
 refine Calls.mono (HSH.out _ (HR.out.keep HF2.out (by simp))) ?_;rintro e w2 ⟨rfl, hf2⟩;have HF := kAA (HF2.out.trans hf2 (by simp));clear hf2
 go_wp2_with fail
 refine Calls.mono (HMS.out _ (HT.out.fr HF.out (by omega))) ?_;rintro e w3 ⟨rfl, hw3⟩;rw [hw3];clear hw3 w3
 go_wp2
 go_ret
 exact ⟨rfl, HF.out⟩
end Go.Proofs.YtflgicdbbogllaaGreatDoor
